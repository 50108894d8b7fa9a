/-
  Papers: Minted, the program's and the spec's.
-/
import Derived.Test.YtkinbgcnenieeaaGreatDoorQ3
namespace Go.Proofs.YtkinbgcnenieeaaGreatDoor
open Go.Shelf Go.RowKit Go.Joins M
attribute [local go_sem] Oper.semAt_some

def mintB (key tn : Int) (c : Cl) : Bool := tenB tn && (clB c && inB key)
def mtag (key tn : Int) (c : Cl) : Int := hsF (hsF key (dgS tn)) (tx c)
def zpp : Pp := ⟨0, [], 0⟩
def mintP (key tn : Int) (c : Cl) : Pp := if mintB key tn c = true then ⟨tn, [c], mtag key tn c⟩ else zpp
/-- A Paper and a flag are answered, in memory of their own. -/
def PapO (w : World) (P : Pp) (b : Bool) (e : Ending) (w' : World) : Prop := ∃ q n cp X, e = .returned (.tuple #[.agg #[.int .i64 P.tn, .slice q n cp, .int .i64 P.tag], .bool b]) ∧ P.cs.length = n ∧ cls X = P.cs ∧ sm6 X ∧ okQ X ∧ Sg w w' (trX (.slice q n cp) X [])
theorem papO_zero {w w' : World} {rs : List Rw} (h : Sg w w' rs) : PapO w zpp false (.returned (.tuple #[.agg #[.int .i64 0, .slice none 0 0, .int .i64 0], .bool false])) w' :=
  ⟨none, 0, 0, [], rfl, rfl, rfl, fun q hq => by simp at hq, fun q hq => by simp at hq, (h.sub (List.nil_sublist _)).nilRow kQ⟩
theorem ppB_one (tn tag : Int) (c : Cl) : ppB tn [c] tag = (tenB tn && (clB c && inB tag)) := by
  unfold ppB clsB; simp
theorem mt_chain {key tn : Int} {c : Cl} (ht : tenB tn = true) (hc : clB c = true) (hk : inB key = true) : chI key (dgS tn :: txs [c]) = mtag key tn c := by
  have e : ctx c = tx c := by unfold ctx; rw [if_pos hc]
  rw [chI_hs hk (by simp [txs]) (fun s hs => by
    rcases List.mem_cons.mp hs with rfl | hs
    · exact dg_size ht
    · simp [txs] at hs; subst hs; exact tx_small c)]
  show hsF (hsF key (dgS tn)) (ctx c) = _
  rw [e]; rfl
theorem mt_in {key tn : Int} (hk : inB key = true) (ht : tenB tn = true) : inB (hsF key (dgS tn)) = true := (fold_hs (L := [dgS tn]) hk (fun s hs => by simp at hs; subst hs; exact dg_size ht)).2
set_option maxRecDepth 100000 in
set_option maxHeartbeats 4000000 in
theorem iMinted_any (key tn : Int) (c : Cl) (s t : Sv) (h1 : s.n ≤ 1100000) (h2 : t.n ≤ 1100000) (o1 : okv s) (o2 : okv t) (w : World) (hR : RdQ w c s t) (hT : TB w) :
    Calls Tryz.prog 8 #[.int .i64 key, .int .i64 tn, .agg #[.slice s.p s.n s.c, .slice t.p t.n t.c, .int .i64 c.un]] w (PapO w (mintP key tn c) (mintB key tn c)) := by
  have hS := ((((Sg.nil w).lit kQ [(c, s, t)] 1 rfl (by decide) #[.slice s.p s.n s.c, .slice t.p t.n t.c, .int .i64 c.un] rfl).lit kP [zpv] 1 rfl (by decide) #[.int .i64 0, .slice none 0 0, .int .i64 0] rfl).lit kQ [(c, s, t)] 1 rfl (by decide) #[.slice s.p s.n s.c, .slice t.p t.n t.c, .int .i64 c.un] rfl).lit kW [⟨⟨some ⟨w.heap.size + 1 + 1, 0, none⟩, 1, 1⟩, tn, 0⟩] 1 rfl (by decide) #[.slice (some ⟨w.heap.size + 1 + 1, 0, none⟩) 1 1, .int .i64 tn, .int .i64 0] rfl
  simp only [World.size_alloc] at hS
  have HRS : Hid (∀ W rs, Sg w W rs → rG kQ (.slice (some ⟨w.heap.size + 1 + 1, 0, none⟩) 1 1) [(c, s, t)] ∈ rs → RdS W (some ⟨w.heap.size + 1 + 1, 0, none⟩) [(c, s, t)]) := fun W rs h hm => ⟨OwG.sl (h.mem (K := kQ) (v := .slice (some ⟨w.heap.size + 1 + 1, 0, none⟩) 1 1) (L := [(c, s, t)]) hm), fun q hq => by simp at hq; subst hq; exact hR.step h.bel⟩
  have HP : Hid (∀ W rs v, ppB tn [c] 0 = v → Sg w W rs → rG kQ (.slice (some ⟨w.heap.size + 1 + 1, 0, none⟩) 1 1) [(c, s, t)] ∈ rs → Calls Tryz.prog 25 #[.agg #[.slice (some ⟨w.heap.size + 1 + 1, 0, none⟩) 1 1, .int .i64 tn, .int .i64 0]] W fun e w' => e = .returned (.bool v) ∧ Below W.heap.size W w') := fun W rs v hv h hm => iPaper_v (QL := [(c, s, t)]) (n := 1) hv rfl (by decide) W (HRS.out W rs h hm)
  have HC : Hid (∀ W rs x, tenB tn = true → chI key (dgS tn :: txs [c]) = x → Sg w W rs → rG kQ (.slice (some ⟨w.heap.size + 1 + 1, 0, none⟩) 1 1) [(c, s, t)] ∈ rs → Calls Tryz.prog 34 #[.agg #[.slice (some ⟨w.heap.size + 1 + 1, 0, none⟩) 1 1, .int .i64 tn, .int .i64 0], .int .i64 key] W fun e w' => e = .returned (.int .i64 x) ∧ Below W.heap.size W w') := fun W rs x ht hx h hm => chain_any key (QL := [(c, s, t)]) (n := 1) rfl (by decide) (by decide) ht W (HRS.out W rs h hm) (hT.step h.bel) hx
  have HD : Hid (∀ W rs tag, Sg w W rs → rG kQ (.slice (some ⟨w.heap.size + 1 + 1, 0, none⟩) 1 1) [(c, s, t)] ∈ rs → Calls Tryz.prog 30 #[.agg #[.slice (some ⟨w.heap.size + 1 + 1, 0, none⟩) 1 1, .int .i64 tn, .int .i64 tag]] W fun e w' => ∃ q cp X, e = .returned (.agg #[.int .i64 tn, .slice q 1 cp, .int .i64 tag]) ∧ cls X = [c] ∧ sm6 X ∧ okQ X ∧ Sg W w' (trX (.slice q 1 cp) X [])) := fun W rs tag h hm => told_any tn tag _ 1 1 [(c, s, t)] rfl (by omega) (fun q hq => by simp at hq; subst hq; exact ⟨h1, h2⟩) (fun q hq => by simp at hq; subst hq; exact ⟨o1, o2⟩) W (HRS.out W rs h hm)
  clear hR
  cases hv : ppB tn [c] 0
  · have hB : mintB key tn c = false := by
      rw [ppB_one] at hv
      unfold mintB
      cases h1 : tenB tn
      · rfl
      · cases h2 : clB c
        · rfl
        · rw [h1, h2] at hv; exact absurd hv (by decide)
    have HB : Hid (mintB key tn c = false ∧ mintP key tn c = zpp) := ⟨hB, by unfold mintP; rw [hB]; rfl⟩
    clear hB
    go_enter Tryz.func8, Tryz.ntmps8
    go_wp2_with (go_at_call 25; refine (HP.out _ _ _ hv hS (by simp)).mono ?_; rintro e w1 ⟨rfl, hb1⟩; have hS1 := hS.step hb1; obtain ⟨v0, v1, v2, vf, vg⟩ := hS1.three (K := kP) (g := w.heap.size + 1) (n := 1) (p := zpv) (by simp) rfl)
    have hS2 := Sg.setP (A := [_, _]) (g := w.heap.size + 1) (n := 1) (a := zpv) hS1 zpv
    refine bodyPost_ret (v := .tuple #[.agg #[.int .i64 0, .slice none 0 0, .int .i64 0], .bool false]) (by simp [results, Tryz.results8, go_sem, v0, v1, v2]) rfl ?_
    rw [HB.out.1, HB.out.2]
    exact papO_zero hS2
  cases hk : inB key
  · have hB : mintB key tn c = false := by unfold mintB; rw [hk]; simp
    have HB : Hid (mintB key tn c = false ∧ mintP key tn c = zpp) := ⟨hB, by unfold mintP; rw [hB]; rfl⟩
    clear hB
    go_enter Tryz.func8, Tryz.ntmps8
    go_wp2_with (first
      | (go_at_call 25; refine (HP.out _ _ _ hv hS (by simp)).mono ?_; rintro e w1 ⟨rfl, hb1⟩; have hS1 := hS.step hb1; obtain ⟨v0, v1, v2, vf, vg⟩ := hS1.three (K := kP) (g := w.heap.size + 1) (n := 1) (p := zpv) (by simp) rfl)
      | (go_at_call 33; refine (isSeal_v hk _).mono ?_; rintro e w2 ⟨rfl, hw2⟩; obtain rfl := hw2.symm))
    have hS2 := Sg.setP (A := [_, _]) (g := w.heap.size + 1) (n := 1) (a := zpv) hS1 zpv
    refine bodyPost_ret (v := .tuple #[.agg #[.int .i64 0, .slice none 0 0, .int .i64 0], .bool false]) (by simp [results, Tryz.results8, go_sem, v0, v1, v2]) rfl ?_
    rw [HB.out.1, HB.out.2]
    exact papO_zero hS2
  · obtain ⟨ht, _, hca, _⟩ := ppB_t hv
    have hc : clB c = true := by simpa using hca
    have hB : mintB key tn c = true := by unfold mintB; rw [ht, hc, hk]; rfl
    obtain ⟨x, hx⟩ : ∃ x, chI key (dgS tn :: txs [c]) = x := ⟨_, rfl⟩
    have HB : Hid (mintB key tn c = true ∧ mintP key tn c = ⟨tn, [c], x⟩) := ⟨hB, by unfold mintP; rw [if_pos hB, ← hx, mt_chain ht hc hk]⟩
    have HC2 := Lib.hid (fun W rs => HC.out W rs x ht hx)
    clear hB hca hc hx HC
    go_enter Tryz.func8, Tryz.ntmps8
    go_wp2_with (first
      | (go_at_call 25; refine (HP.out _ _ _ hv hS (by simp)).mono ?_; rintro e w1 ⟨rfl, hb1⟩; have hS1 := hS.step hb1; obtain ⟨u0, u1, u2, uf, ug⟩ := hS1.three (K := kW) (g := w.heap.size + 1 + 1 + 1) (n := 1) (p := ⟨⟨some ⟨w.heap.size + 1 + 1, 0, none⟩, 1, 1⟩, tn, 0⟩) (by simp) rfl)
      | (go_at_call 33; refine (isSeal_v hk _).mono ?_; rintro e w2 ⟨rfl, hw2⟩; obtain rfl := hw2.symm)
      | (go_at_call 34; refine (HC2.out _ _ hS1 (by simp)).mono ?_; rintro e w3 ⟨rfl, hb3⟩; have hS3 := hS1.step hb3; clear u0 u1 u2 uf ug; obtain ⟨u0, u1, u2, uf, ug⟩ := hS3.three (K := kW) (g := w.heap.size + 1 + 1 + 1) (n := 1) (p := ⟨⟨some ⟨w.heap.size + 1 + 1, 0, none⟩, 1, 1⟩, tn, 0⟩) (by simp) rfl; have hS4 := Sg.setRaw (A := []) hS3 2 (.int .i64 x))
      | (go_at_call 30; refine (HD.out _ _ _ hS4 (by simp)).mono ?_; rintro e w5 ⟨q, cp, X, rfl, x1, x2, x3, hw5⟩; have hS5 := hS4.addL hw5; obtain ⟨v0, v1, v2, vf, vg⟩ := hS5.three (K := kP) (g := w.heap.size + 1) (n := 1) (p := zpv) (by simp) rfl))
    have hS6 : Sg w w5 ((trX (.slice q 1 cp) X [] ++ [rG kW (.slice (some ⟨w.heap.size + 1 + 1 + 1, 0, none⟩) 1 1) [⟨⟨some ⟨w.heap.size + 1 + 1, 0, none⟩, 1, 1⟩, tn, x⟩], rG kQ (.slice (some ⟨w.heap.size + 1 + 1, 0, none⟩) 1 1) [(c, s, t)]]) ++ rG kP (.slice (some ⟨w.heap.size + 1, 0, none⟩) 1 1) [zpv] :: [rG kQ (.slice (some ⟨w.heap.size, 0, none⟩) 1 1) [(c, s, t)]]) := by rw [List.append_assoc]; exact hS5
    have hS7 := Sg.setP hS6 ⟨tn, ⟨q, 1, cp⟩, x⟩
    refine bodyPost_ret (v := .tuple #[.agg #[.int .i64 tn, .slice q 1 cp, .int .i64 x], .bool true]) (by simp [results, Tryz.results8, go_sem, v0, v1, v2]) rfl ?_
    rw [HB.out.1, HB.out.2]
    refine ⟨q, 1, cp, X, rfl, rfl, x1, x2, x3, hS7.sub ?_⟩
    rw [List.append_assoc]
    exact List.sublist_append_left _ _

end Go.Proofs.YtkinbgcnenieeaaGreatDoor
