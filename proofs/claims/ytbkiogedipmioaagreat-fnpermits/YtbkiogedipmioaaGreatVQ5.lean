/-
  Papers: Minted, the spec's.
-/
import Derived.Test.YtbkiogedipmioaaGreatVQ4
namespace Go.Proofs.YtbkiogedipmioaaGreat.V
open Go.Shelf Go.RowKit Go.Joins M
attribute [local go_sem] Oper.semAt_some

theorem Sg.dr {w W : World} {rs : List Rw} (h : Sg w W rs) : Sg w W.drew rs := h.step (Below.refl _ _).drew
theorem Sg.al {w W : World} {rs : List Rw} (h : Sg w W rs) (o : Obj) : Sg w (W.alloc o) rs := h.step (below_alloc1 _ _)
theorem Sg.litQ {w W : World} {rs : List Rw} (h : Sg w W rs) (c : Cl) (s t : Sv) : Sg w (W.alloc (.cells #[.slice s.p s.n s.c, .slice t.p t.n t.c, .int .i64 c.un] 110)) (rG kQ (.slice (some ⟨W.heap.size, 0, none⟩) 1 1) [(c, s, t)] :: rs) := h.lit kQ [(c, s, t)] 1 rfl (by decide) #[.slice s.p s.n s.c, .slice t.p t.n t.c, .int .i64 c.un] rfl
theorem c_set3 {W : World} {b j g : Nat} {v v0 v1 v2 : Value} (h : W.cell? ⟨b, j, none⟩ = some v) (hne : ¬ b = g) : (((W.setCell ⟨g, 0, none⟩ v0).setCell ⟨g, 1, none⟩ v1).setCell ⟨g, 2, none⟩ v2).cell? ⟨b, j, none⟩ = some v := by
  rw [World.cell?_setCell_far _ _ _ _ (fun e => hne e.symm), World.cell?_setCell_far _ _ _ _ (fun e => hne e.symm), World.cell?_setCell_far _ _ _ _ (fun e => hne e.symm)]
  exact h
theorem c_set3a {W : World} {b j g : Nat} {v v0 v1 v2 : Value} {o : Obj} (h : W.cell? ⟨b, j, none⟩ = some v) (hne : ¬ b = g) : ((((W.setCell ⟨g, 0, none⟩ v0).setCell ⟨g, 1, none⟩ v1).setCell ⟨g, 2, none⟩ v2).alloc o).cell? ⟨b, j, none⟩ = some v := by
  rw [World.cell?_alloc_some _ _ _ (by rw [c_set3 h hne]; rfl)]
  exact c_set3 h hne
theorem papO_one {w W : World} {rs : List Rw} {c : Cl} {s t : Sv} {q : Option Addr} {tn x : Int} (h : Sg w W rs) (hsub : List.Sublist (trX (.slice q 1 1) [(c, s, t)] []) rs) (n1 : s.n ≤ 1100000) (n2 : t.n ≤ 1100000) (o1 : okv s) (o2 : okv t) :
    PapO w ⟨tn, [c], x⟩ true (.returned (.tuple #[.agg #[.int .i64 tn, .slice q 1 1, .int .i64 x], .bool true])) W :=
  ⟨q, 1, 1, [(c, s, t)], rfl, rfl, rfl, fun y hy => by simp at hy; subst hy; exact ⟨n1, n2⟩, fun y hy => by simp at hy; subst hy; exact ⟨o1, o2⟩, h.sub hsub⟩
theorem mint_endA {w W : World} {c : Cl} {s t : Sv} {g b : Nat} {tn x : Int} {R : Rw} (h : Sg w W (rG kQ (.slice (some ⟨g, 0, none⟩) 1 1) [(c, s, t)] :: ([rG kC s.v c.rd, rG kC t.v c.wr] ++ [rG kP (.slice (some ⟨b, 0, none⟩) 1 1) [zpv], R]))) (n1 : s.n ≤ 1100000) (n2 : t.n ≤ 1100000) (o1 : okv s) (o2 : okv t) :
    PapO w ⟨tn, [c], x⟩ true (.returned (.tuple #[.agg #[.int .i64 tn, .slice (some ⟨g, 0, none⟩) 1 1, .int .i64 x], .bool true])) (((W.setCell ⟨b, 0, none⟩ (.int .i64 tn)).setCell ⟨b, 1, none⟩ (.slice (some ⟨g, 0, none⟩) 1 1)).setCell ⟨b, 2, none⟩ (.int .i64 x)) := by
  have h2 := Sg.setP (A := [_, _, _]) h ⟨tn, ⟨some ⟨g, 0, none⟩, 1, 1⟩, x⟩
  exact papO_one h2 (by simp [trX, clR]) n1 n2 o1 o2
theorem mint_endB {w W : World} {c : Cl} {s t : Sv} {b : Nat} {tn x : Int} {R : Rw} (h : Sg w W ([rG kC s.v c.rd, rG kC t.v c.wr] ++ [rG kP (.slice (some ⟨b, 0, none⟩) 1 1) [zpv], R])) (n1 : s.n ≤ 1100000) (n2 : t.n ≤ 1100000) (o1 : okv s) (o2 : okv t) :
    PapO w ⟨tn, [c], x⟩ true (.returned (.tuple #[.agg #[.int .i64 tn, .slice (some ⟨W.heap.size, 0, none⟩) 1 1, .int .i64 x], .bool true])) ((((W.setCell ⟨b, 0, none⟩ (.int .i64 tn)).setCell ⟨b, 1, none⟩ (.slice (some ⟨W.heap.size, 0, none⟩) 1 1)).setCell ⟨b, 2, none⟩ (.int .i64 x)).alloc (.cells #[.slice s.p s.n s.c, .slice t.p t.n t.c, .int .i64 c.un] 110)) := by
  have h2 := (Sg.setP (A := [_, _]) h ⟨tn, ⟨some ⟨W.heap.size, 0, none⟩, 1, 1⟩, x⟩).litQ c s t
  simp only [World.size_setCell] at h2
  exact papO_one h2 (by simp [trX, clR]) n1 n2 o1 o2
set_option maxRecDepth 100000 in
set_option maxHeartbeats 8000000 in
theorem sMinted_any (key tn : Int) (c : Cl) (s t : Sv) (h1 : s.n ≤ 1100000) (h2 : t.n ≤ 1100000) (o1 : okv s) (o2 : okv t) (w : World) (hR : RdQ w c s t) :
    Calls Tryz.prog 62 #[.int .i64 key, .int .i64 tn, .agg #[.slice s.p s.n s.c, .slice t.p t.n t.c, .int .i64 c.un]] w (PapO w (mintP key tn c) (mintB key tn c)) := by
  have hS := ((Sg.nil w).lit kQ [(c, s, t)] 1 rfl (by decide) #[.slice s.p s.n s.c, .slice t.p t.n t.c, .int .i64 c.un] rfl).lit kP [zpv] 1 rfl (by decide) #[.int .i64 0, .slice none 0 0, .int .i64 0] rfl
  simp only [World.size_alloc] at hS
  change Sg w ((w.alloc (.cells #[.slice s.p s.n s.c, .slice t.p t.n t.c, .int .i64 c.un] 110)).alloc (.cells #[.int .i64 0, .slice none 0 0, .int .i64 0] 26)) _ at hS
  have HR : Hid (∀ W, Below w.heap.size w W → RdQ W c s t) := fun W h => hR.step h
  clear hR
  have f0 : True := trivial
  cases hk : inB key
  · have hB : mintB key tn c = false := by unfold mintB; rw [hk]; simp
    have HB : Hid (mintB key tn c = false ∧ mintP key tn c = zpp) := ⟨hB, by unfold mintP; rw [hB]; rfl⟩
    clear hB
    go_enter Tryz.func62, Tryz.ntmps62
    go_wp2_with (go_at_call 37; refine (sIn_v hk _).mono ?_; rintro e w2 ⟨rfl, hw2⟩; obtain rfl := hw2.symm)
    refine bodyPost_ret (v := .tuple #[.agg #[.int .i64 0, .slice none 0 0, .int .i64 0], .bool false]) (by simp [results, Tryz.results62, go_sem]) rfl ?_
    rw [HB.out.1, HB.out.2]
    exact papO_zero hS
  cases ht : tenB tn
  · have hB : mintB key tn c = false := by unfold mintB; rw [ht]; rfl
    have HB : Hid (mintB key tn c = false ∧ mintP key tn c = zpp) := ⟨hB, by unfold mintP; rw [hB]; rfl⟩
    clear hB
    go_enter Tryz.func62, Tryz.ntmps62
    go_wp2_with (first
      | (go_at_call 37; clear f0; refine (sIn_v hk _).mono ?_; rintro e w2 ⟨rfl, hw2⟩; obtain rfl := hw2.symm)
      | (go_at_call 37; refine (sTenant_v ht _).mono ?_; rintro e w2 ⟨rfl, hw2⟩; obtain rfl := hw2.symm))
    refine bodyPost_ret (v := .tuple #[.agg #[.int .i64 0, .slice none 0 0, .int .i64 0], .bool false]) (by simp [results, Tryz.results62, go_sem]) rfl ?_
    rw [HB.out.1, HB.out.2]
    exact papO_zero hS
  cases hc : clB c
  · have hB : mintB key tn c = false := by unfold mintB; rw [hc]; simp
    have HB : Hid (mintB key tn c = false ∧ mintP key tn c = zpp) := ⟨hB, by unfold mintP; rw [hB]; rfl⟩
    clear hB
    go_enter Tryz.func62, Tryz.ntmps62
    go_wp2_with (first
      | (go_at_call 37; clear f0; refine (sIn_v hk _).mono ?_; rintro e w2 ⟨rfl, hw2⟩; obtain rfl := hw2.symm)
      | (go_at_call 37; refine (sTenant_v ht _).mono ?_; rintro e w2 ⟨rfl, hw2⟩; obtain rfl := hw2.symm)
      | (go_at_call 79; refine (sClause_v hc _ (HR.out _ hS.bel)).mono ?_; rintro e w3 ⟨rfl, hb3⟩; have hS1 := hS.step hb3; obtain ⟨v0, v1, v2, vf, vg⟩ := hS1.three (K := kP) (g := w.heap.size + 1) (n := 1) (p := zpv) (by simp) rfl))
    have hS2 := Sg.setP (A := []) (g := w.heap.size + 1) (n := 1) (a := zpv) hS1 zpv
    refine bodyPost_ret (v := .tuple #[.agg #[.int .i64 0, .slice none 0 0, .int .i64 0], .bool false]) (by simp [results, Tryz.results62, go_sem, v0, v1, v2]) rfl ?_
    rw [HB.out.1, HB.out.2]
    exact papO_zero hS2
  · have hB : mintB key tn c = true := by unfold mintB; rw [ht, hc, hk]; rfl
    have HB : Hid (mintB key tn c = true ∧ mintP key tn c = ⟨tn, [c], mtag key tn c⟩) := ⟨hB, by unfold mintP; rw [if_pos hB]⟩
    have hin := mt_in hk ht
    have hinb := inB_t.mp hin
    have hkb := inB_t.mp hk
    obtain ⟨m, hm⟩ : ∃ m : Nat, tn = m := ⟨tn.toNat, by unfold tenB at ht; have := of_decide_eq_true ht; omega⟩
    have hm9 : m ≤ 1000000000 := by unfold tenB at ht; have := of_decide_eq_true ht; omega
    have hds := dg_size ht
    have hsz1 : (dgS tn).size ≤ 10000000 := by omega
    have hsz2 : (tx c).size ≤ 10000000 := by have := tx_size hc; omega
    have HI : Hid (∀ W, Calls Tryz.prog 98 #[.int .i64 tn] W fun e w' => e = .returned (.string (dgS tn)) ∧ Below W.heap.size W w') := fun W => by rw [hm]; exact l1Int_any m hm9 W
    have H1 : Hid (∀ W, Calls Tryz.prog 97 #[.int .i64 key, .string (dgS tn)] W fun e w' => e = .returned (.int .i64 (hsF key (dgS tn))) ∧ w' = W) := fun W => l9Seal_any key (dgS tn) W hsz1 hkb
    have H2 : Hid (∀ W, Calls Tryz.prog 97 #[.int .i64 (hsF key (dgS tn)), .string (tx c)] W fun e w' => e = .returned (.int .i64 (mtag key tn c)) ∧ w' = W) := fun W => l9Seal_any _ (tx c) W hsz2 hinb
    have HCC : Hid (∀ W, Below w.heap.size w W → Calls Tryz.prog 96 #[.agg #[.slice s.p s.n s.c, .slice t.p t.n t.c, .int .i64 c.un]] W fun e w' => ∃ s' t' : Sv, e = .returned (.agg #[.slice s'.p s'.n s'.c, .slice t'.p t'.n t'.c, .int .i64 c.un]) ∧ s'.n = s.n ∧ t'.n = t.n ∧ okv s' ∧ okv t' ∧ Sg W w' [rG kC s'.v c.rd, rG kC t'.v c.wr]) := fun W h => copyClause_any W (HR.out W h) h1 h2 o1 o2
    have HTX : Hid (∀ W, Below w.heap.size w W → Calls Tryz.prog 99 #[.agg #[.slice s.p s.n s.c, .slice t.p t.n t.c, .int .i64 c.un]] W fun e w' => e = .returned (.string (tx c)) ∧ Below W.heap.size W w') := fun W h => l10Text_any hc W (HR.out W h)
    clear hB hin hinb hm hm9 hds hsz1 hsz2 hkb
    generalize dgS tn = D at HI H1 H2
    generalize tx c = T at HTX H2
    generalize hsF key D = x1 at H1 H2
    obtain ⟨x2, hx2⟩ : ∃ x, mtag key tn c = x := ⟨_, rfl⟩
    rw [hx2] at HB H2
    clear hx2
    have HK : Hid (∀ w' rs, Sg w w' rs → rG kQ (.slice (some ⟨w.heap.size, 0, none⟩) 1 1) [(c, s, t)] ∈ rs → (w'.cell? ⟨w.heap.size, 0, none⟩ = some (.slice s.p s.n s.c) ∧ w'.cell? ⟨w.heap.size, 1, none⟩ = some (.slice t.p t.n t.c) ∧ w'.cell? ⟨w.heap.size, 2, none⟩ = some (.int .i64 c.un))) := fun w' rs h hm => by
      obtain ⟨y0, y1, y2, _, _⟩ := h.three (K := kQ) (g := w.heap.size) (n := 1) (p := (c, s, t)) hm rfl
      exact ⟨y0, y1, y2⟩
    have hne : ¬ w.heap.size = w.heap.size + 1 := by omega
    go_enter Tryz.func62, Tryz.ntmps62
    go_upto_region 3 with (first
      | (go_at_call 37; clear f0; refine (sIn_v hk _).mono ?_; rintro e w2 ⟨rfl, hw2⟩; obtain rfl := hw2.symm)
      | (go_at_call 37; refine (sTenant_v ht _).mono ?_; rintro e w2 ⟨rfl, hw2⟩; obtain rfl := hw2.symm)
      | (go_at_call 79; refine (sClause_v hc _ (HR.out _ hS.bel)).mono ?_; rintro e w3 ⟨rfl, hb3⟩; have hrow := hS.step hb3))
    clear hS
    go_region_held3 (fun w' => w'.cell? ⟨w.heap.size, 0, none⟩ = some (.slice s.p s.n s.c) ∧ w'.cell? ⟨w.heap.size, 1, none⟩ = some (.slice t.p t.n t.c) ∧ w'.cell? ⟨w.heap.size, 2, none⟩ = some (.int .i64 c.un))
      (first | assumption | with_reducible exact HK.out _ _ hrow (by simp) | with_reducible exact HK.out _ _ hrow.dr (by simp) | with_reducible exact HK.out _ _ (hrow.al _) (by simp) | with_reducible exact HK.out _ _ (hrow.al _).dr (by simp) | (obtain ⟨y0, y1, y2⟩ := HK.out _ _ hrow (by simp); with_reducible exact ⟨c_set3a y0 hne, c_set3a y1 hne, c_set3a y2 hne⟩) | go_keep | fail)
      (first
        | (go_at_call 96; refine (HCC.out _ (by first | with_reducible exact hrow.bel | with_reducible exact hrow.dr.bel)).mono ?_; rintro e w5 ⟨s', t', rfl, e1, e2, ok1, ok2, hw5⟩; have HE : Hid (s'.n = s.n ∧ t'.n = t.n ∧ okv s' ∧ okv t') := ⟨e1, e2, ok1, ok2⟩; clear e1 e2 ok1 ok2; (first | with_reducible (replace hrow := hrow.addL hw5) | with_reducible (replace hrow := hrow.dr.addL hw5)); (try clear v0 v1 v2 vf vg); obtain ⟨v0, v1, v2, vf, vg⟩ := hrow.three (K := kP) (g := w.heap.size + 1) (n := 1) (p := zpv) (by simp) rfl)
        | (go_at_call 98; refine (HI.out _).mono ?_; rintro e w6 ⟨rfl, hb6⟩; (first | with_reducible (replace hrow := hrow.step hb6) | with_reducible (replace hrow := hrow.dr.step hb6) | with_reducible (replace hrow := (hrow.litQ c s' t').step hb6)); (try clear v0 v1 v2 vf vg); obtain ⟨v0, v1, v2, vf, vg⟩ := hrow.three (K := kP) (g := w.heap.size + 1) (n := 1) (p := zpv) (by simp) rfl)
        | (go_at_call 99; refine (HTX.out _ (by first | with_reducible exact hrow.bel | with_reducible exact hrow.dr.bel | with_reducible exact (hrow.al _).bel)).mono ?_; rintro e w7 ⟨rfl, hb7⟩; (first | with_reducible (replace hrow := hrow.step hb7) | with_reducible (replace hrow := hrow.dr.step hb7) | with_reducible (replace hrow := (hrow.litQ c s' t').step hb7)); (try clear v0 v1 v2 vf vg); obtain ⟨v0, v1, v2, vf, vg⟩ := hrow.three (K := kP) (g := w.heap.size + 1) (n := 1) (p := zpv) (by simp) rfl)
        | (go_at_call 97; refine (H1.out _).mono ?_; rintro e w8 ⟨rfl, hw8⟩; obtain rfl := hw8.symm; clear H1)
        | (go_at_call 97; refine (H2.out _).mono ?_; rintro e w8 ⟨rfl, hw8⟩; obtain rfl := hw8.symm))
    all_goals go_wp2
    all_goals
      have n1 : s'.n ≤ 1100000 := by rw [HE.out.1]; exact h1
      have n2 : t'.n ≤ 1100000 := by rw [HE.out.2.1]; exact h2
      have HN := Lib.hid (And.intro n1 n2)
      clear n1 n2
    all_goals first
      | (refine bodyPost_ret (v := .tuple #[.agg #[.int .i64 tn, .slice (some ⟨w5.heap.size, 0, none⟩) 1 1, .int .i64 x2], .bool true]) (by simp [results, Tryz.results62, go_sem, v0, v1, v2]) rfl ?_; rw [HB.out.1, HB.out.2]; with_reducible exact mint_endA hrow HN.out.1 HN.out.2 HE.out.2.2.1 HE.out.2.2.2)
      | (refine bodyPost_ret (v := .tuple #[.agg #[.int .i64 tn, .slice (some ⟨w6.heap.size, 0, none⟩) 1 1, .int .i64 x2], .bool true]) (by simp [results, Tryz.results62, go_sem, v0, v1, v2]) rfl ?_; rw [HB.out.1, HB.out.2]; with_reducible exact mint_endA hrow HN.out.1 HN.out.2 HE.out.2.2.1 HE.out.2.2.2)
      | (refine bodyPost_ret (v := .tuple #[.agg #[.int .i64 tn, .slice (some ⟨w7.heap.size, 0, none⟩) 1 1, .int .i64 x2], .bool true]) (by simp [results, Tryz.results62, go_sem, v0, v1, v2, vg]) rfl ?_; rw [HB.out.1, HB.out.2]; with_reducible exact mint_endB hrow HN.out.1 HN.out.2 HE.out.2.2.1 HE.out.2.2.2)
end Go.Proofs.YtbkiogedipmioaaGreat.V
