/-
  Papers: Narrowed, the spec's.
-/
import Derived.Test.YtbkiogedipmioaaGreatVN1
namespace Go.Proofs.YtbkiogedipmioaaGreat.V
open Go.Shelf Go.RowKit Go.Joins M
attribute [local go_sem] Oper.semAt_some

def narB (tn : Int) (L : List Cl) (tag : Int) (c : Cl) : Bool := ppB tn L tag && (clB c && decide (L.length ≠ 6))
def narP (tn : Int) (L : List Cl) (tag : Int) (c : Cl) : Pp := if narB tn L tag c = true then ⟨tn, L ++ [c], hsF tag (tx c)⟩ else zpp
theorem narP_f {tn tag : Int} {L : List Cl} {c : Cl} (h : narB tn L tag c = false) : narP tn L tag c = zpp := by unfold narP; rw [h]; rfl
theorem narP_t {tn tag : Int} {L : List Cl} {c : Cl} (h : narB tn L tag c = true) : narP tn L tag c = ⟨tn, L ++ [c], hsF tag (tx c)⟩ := by unfold narP; rw [if_pos h]
set_option maxRecDepth 100000 in
set_option maxHeartbeats 8000000 in
theorem sNarrowed_any (tn tag : Int) (p : Option Addr) (cap n : Nat) (QL : List CQ) (hn : QL.length = n) (hb0 : n ≤ 10000000) (h6 : sm6 QL) (ho : okQ QL) (c : Cl) (s t : Sv) (h1 : s.n ≤ 1100000) (h2 : t.n ≤ 1100000) (o1 : okv s) (o2 : okv t) (w : World) (hS0 : RdS w p QL) (hR : RdQ w c s t) :
    Calls Tryz.prog 65 #[.agg #[.int .i64 tn, .slice p n cap, .int .i64 tag], .agg #[.slice s.p s.n s.c, .slice t.p t.n t.c, .int .i64 c.un]] w (PapO w (narP tn (cls QL) tag c) (narB tn (cls QL) tag c)) := by
  have hS := (((Sg.nil w).lit kP [⟨tn, ⟨p, n, cap⟩, tag⟩] 1 rfl (by decide) #[.int .i64 tn, .slice p n cap, .int .i64 tag] rfl).lit kQ [(c, s, t)] 1 rfl (by decide) #[.slice s.p s.n s.c, .slice t.p t.n t.c, .int .i64 c.un] rfl).lit kP [zpv] 1 rfl (by decide) #[.int .i64 0, .slice none 0 0, .int .i64 0] rfl
  simp only [World.size_alloc] at hS
  change Sg w (((w.alloc (.cells #[.int .i64 tn, .slice p n cap, .int .i64 tag] 26)).alloc (.cells #[.slice s.p s.n s.c, .slice t.p t.n t.c, .int .i64 c.un] 110)).alloc (.cells #[.int .i64 0, .slice none 0 0, .int .i64 0] 26)) _ at hS
  have HR : Hid (∀ W, Below w.heap.size w W → RdQ W c s t) := fun W h => hR.step h
  have hcl : (cls QL).length = n := by rw [cls_len]; exact hn
  cases hp : ppB tn (cls QL) tag
  · have hB : narB tn (cls QL) tag c = false := by unfold narB; rw [hp]; rfl
    have HB : Hid (narB tn (cls QL) tag c = false ∧ narP tn (cls QL) tag c = zpp) := ⟨hB, narP_f hB⟩
    have HP : Hid (∀ W, Below w.heap.size w W → Calls Tryz.prog 36 #[.agg #[.int .i64 tn, .slice p n cap, .int .i64 tag]] W fun e w' => e = .returned (.bool false) ∧ Below W.heap.size W w') := fun W h => sPaper_v hp hn hb0 W (hS0.step h)
    clear hB hS0 hR h6 ho hn hcl hp
    go_enter Tryz.func65, Tryz.ntmps65
    go_wp2_with (go_at_call 36; refine (HP.out _ hS.bel).mono ?_; rintro e w1 ⟨rfl, hb1⟩; have hS1 := hS.step hb1; obtain ⟨v0, v1, v2, vf, vg⟩ := hS1.three (K := kP) (g := w.heap.size + 1 + 1) (n := 1) (p := zpv) (by simp) rfl)
    have hS2 := Sg.setP (A := []) (g := w.heap.size + 1 + 1) (n := 1) (a := zpv) hS1 zpv
    refine bodyPost_ret (v := .tuple #[.agg #[.int .i64 0, .slice none 0 0, .int .i64 0], .bool false]) (by simp [results, Tryz.results65, go_sem, v0, v1, v2]) rfl ?_
    rw [HB.out.1, HB.out.2]
    exact papO_zero hS2
  have HP : Hid (∀ W, Below w.heap.size w W → Calls Tryz.prog 36 #[.agg #[.int .i64 tn, .slice p n cap, .int .i64 tag]] W fun e w' => e = .returned (.bool true) ∧ Below W.heap.size W w') := fun W h => sPaper_v hp hn hb0 W (hS0.step h)
  obtain ⟨_, ⟨hl1, hl2⟩, _, hin⟩ := ppB_t hp
  rw [hcl] at hl1 hl2
  cases hc : clB c
  · have hB : narB tn (cls QL) tag c = false := by unfold narB; rw [hp, hc]; rfl
    have HB : Hid (narB tn (cls QL) tag c = false ∧ narP tn (cls QL) tag c = zpp) := ⟨hB, narP_f hB⟩
    clear hB hS0 hR h6 ho hn hcl hp hin
    go_enter Tryz.func65, Tryz.ntmps65
    go_wp2_with (first
      | (go_at_call 36; refine (HP.out _ hS.bel).mono ?_; rintro e w1 ⟨rfl, hb1⟩; have hS1 := hS.step hb1; obtain ⟨u0, u1, u2, uf, ug⟩ := hS1.three (K := kQ) (g := w.heap.size + 1) (n := 1) (p := (c, s, t)) (by simp) rfl)
      | (go_at_call 79; refine (sClause_v hc _ (HR.out _ hS1.bel)).mono ?_; rintro e w2 ⟨rfl, hb2⟩; have hS1b := hS1.step hb2; obtain ⟨v0, v1, v2, vf, vg⟩ := hS1b.three (K := kP) (g := w.heap.size + 1 + 1) (n := 1) (p := zpv) (by simp) rfl))
    have hS2 := Sg.setP (A := []) (g := w.heap.size + 1 + 1) (n := 1) (a := zpv) hS1b zpv
    refine bodyPost_ret (v := .tuple #[.agg #[.int .i64 0, .slice none 0 0, .int .i64 0], .bool false]) (by simp [results, Tryz.results65, go_sem, v0, v1, v2]) rfl ?_
    rw [HB.out.1, HB.out.2]
    exact papO_zero hS2
  by_cases h66 : n = 6
  · have hB : narB tn (cls QL) tag c = false := by unfold narB; rw [hp, hc, hcl, h66]; rfl
    have HB : Hid (narB tn (cls QL) tag c = false ∧ narP tn (cls QL) tag c = zpp) := ⟨hB, narP_f hB⟩
    clear hB hS0 hR h6 ho hn hcl hp hin
    subst h66
    go_enter Tryz.func65, Tryz.ntmps65
    go_wp2_with (first
      | (go_at_call 36; refine (HP.out _ hS.bel).mono ?_; rintro e w1 ⟨rfl, hb1⟩; have hS1 := hS.step hb1; obtain ⟨u0, u1, u2, uf, ug⟩ := hS1.three (K := kQ) (g := w.heap.size + 1) (n := 1) (p := (c, s, t)) (by simp) rfl)
      | (go_at_call 79; refine (sClause_v hc _ (HR.out _ hS1.bel)).mono ?_; rintro e w2 ⟨rfl, hb2⟩; have hS1b := hS1.step hb2; obtain ⟨v0, v1, v2, vf, vg⟩ := hS1b.three (K := kP) (g := w.heap.size + 1 + 1) (n := 1) (p := zpv) (by simp) rfl; obtain ⟨x0, x1, x2, xf, xg⟩ := hS1b.three (K := kP) (g := w.heap.size) (n := 1) (p := ⟨tn, ⟨p, 6, cap⟩, tag⟩) (by simp) rfl))
    have hS2 := Sg.setP (A := []) (g := w.heap.size + 1 + 1) (n := 1) (a := zpv) hS1b zpv
    refine bodyPost_ret (v := .tuple #[.agg #[.int .i64 0, .slice none 0 0, .int .i64 0], .bool false]) (by simp [results, Tryz.results65, go_sem, v0, v1, v2]) rfl ?_
    rw [HB.out.1, HB.out.2]
    exact papO_zero hS2
  have hB : narB tn (cls QL) tag c = true := by unfold narB; rw [hp, hc, hcl]; simp [h66]
  have HB : Hid (narB tn (cls QL) tag c = true ∧ narP tn (cls QL) tag c = ⟨tn, cls QL ++ [c], hsF tag (tx c)⟩) := ⟨hB, narP_t hB⟩
  have hkb := inB_t.mp hin
  have hsz2 : (tx c).size ≤ 10000000 := by have := tx_size hc; omega
  have H1 : Hid (∀ W, Calls Tryz.prog 97 #[.int .i64 tag, .string (tx c)] W fun e w' => e = .returned (.int .i64 (hsF tag (tx c))) ∧ w' = W) := fun W => l9Seal_any tag (tx c) W hsz2 hkb
  have HCC : Hid (∀ W, Below w.heap.size w W → Calls Tryz.prog 96 #[.agg #[.slice s.p s.n s.c, .slice t.p t.n t.c, .int .i64 c.un]] W fun e w' => ∃ s' t' : Sv, e = .returned (.agg #[.slice s'.p s'.n s'.c, .slice t'.p t'.n t'.c, .int .i64 c.un]) ∧ s'.n = s.n ∧ t'.n = t.n ∧ okv s' ∧ okv t' ∧ Sg W w' [rG kC s'.v c.rd, rG kC t'.v c.wr]) := fun W h => copyClause_any W (HR.out W h) h1 h2 o1 o2
  have HTX : Hid (∀ W, Below w.heap.size w W → Calls Tryz.prog 99 #[.agg #[.slice s.p s.n s.c, .slice t.p t.n t.c, .int .i64 c.un]] W fun e w' => e = .returned (.string (tx c)) ∧ Below W.heap.size W w') := fun W h => l10Text_any hc W (HR.out W h)
  have HCP : Hid (∀ W, Below w.heap.size w W → Calls Tryz.prog 102 #[.agg #[.int .i64 tn, .slice p n cap, .int .i64 tag]] W fun e w' => ∃ q cp X, e = .returned (.agg #[.int .i64 tn, .slice q n cp, .int .i64 tag]) ∧ Hid (cls X = cls QL ∧ sm6 X ∧ okQ X ∧ X.length = n) ∧ Sg W w' (trX (.slice q n cp) X [])) := fun W h => (l10Copy_any tn tag p cap n QL hn (by omega) h6 ho W (hS0.step h)).mono fun e w' ⟨q, cp, X, a1, a2, a3, a4, a5⟩ => ⟨q, cp, X, a1, ⟨a2, a3, a4, by have := congrArg List.length a2; rw [cls_len, cls_len] at this; omega⟩, a5⟩
  have HN : Hid (s.n ≤ 1100000 ∧ t.n ≤ 1100000) := ⟨h1, h2⟩
  have h66i : ¬ (n : Int) = 6 := by omega
  generalize tx c = T at HTX H1 HB
  obtain ⟨x9, hx9⟩ : ∃ x, hsF tag T = x := ⟨_, rfl⟩
  rw [hx9] at HB H1
  clear hx9 hB hS0 hR h6 ho hn hcl hp hin hkb hsz2 h1 h2 o1 o2 h66
  have hne : ¬ w.heap.size = w.heap.size + 1 := by omega
  go_enter Tryz.func65, Tryz.ntmps65
  go_upto_region 4 with (first
    | (go_at_call 36; refine (HP.out _ hS.bel).mono ?_; rintro e w1 ⟨rfl, hb1⟩; have hS1 := hS.step hb1; obtain ⟨u0, u1, u2, uf, ug⟩ := hS1.three (K := kQ) (g := w.heap.size + 1) (n := 1) (p := (c, s, t)) (by simp) rfl)
    | (go_at_call 79; refine (sClause_v hc _ (HR.out _ hS1.bel)).mono ?_; rintro e w2 ⟨rfl, hb2⟩; have hS1b := hS1.step hb2; obtain ⟨x0, x1, x2, xf, xg⟩ := hS1b.three (K := kP) (g := w.heap.size) (n := 1) (p := ⟨tn, ⟨p, n, cap⟩, tag⟩) (by simp) rfl)
    | (go_at_call 102; refine (HCP.out _ hS1b.bel).mono ?_; rintro e w3 ⟨q, cp, X, rfl, HX, hw3⟩; have hS3 := hS1b.addL hw3; have hrow := hS3.lit kP [⟨tn, ⟨q, n, cp⟩, tag⟩] 1 rfl (by decide) #[.int .i64 tn, .slice q n cp, .int .i64 tag] rfl; change Sg w (w3.alloc (.cells #[.int .i64 tn, .slice q n cp, .int .i64 tag] 26)) _ at hrow))
  clear hS1 hS1b hS3 hw3 hb1 hb2 hS HP HCP
  clear u0 u1 u2 uf ug; clear x0 x1 x2 xf xg
  obtain ⟨y0, y1, y2, yf, yg⟩ := hrow.three (K := kP) (g := w3.heap.size) (n := 1) (p := ⟨tn, ⟨q, n, cp⟩, tag⟩) (by simp) rfl
  obtain ⟨u0, u1, u2, uf, ug⟩ := hrow.three (K := kQ) (g := w.heap.size + 1) (n := 1) (p := (c, s, t)) (by simp) rfl
  generalize w3.alloc (.cells #[.int .i64 tn, .slice q n cp, .int .i64 tag] 26) = W3 at *
  generalize w3.heap.size = b6 at *
  have f7 : True := trivial
  go_region_law
    (first
      | (clear f7; go_simp; go_at_call 96; refine (HCC.out _ (by first | with_reducible exact hrow.bel | with_reducible exact hrow.dr.bel)).mono ?_; rintro e w4 ⟨s', t', rfl, e1, e2, ok1, ok2, hw4⟩; have HE : Hid (s'.n = s.n ∧ t'.n = t.n ∧ okv s' ∧ okv t') := ⟨e1, e2, ok1, ok2⟩; clear e1 e2 ok1 ok2; (first | with_reducible (replace hrow := hrow.addL hw4) | with_reducible (replace hrow := hrow.dr.addL hw4)); have hS2 : Sg w w4 ([rG kC s'.v c.rd, rG kC t'.v c.wr, rG kP (.slice (some ⟨b6, 0, none⟩) 1 1) [⟨tn, ⟨q, n, cp⟩, tag⟩]] ++ rG kQ (.slice q n cp) X :: ((X.flatMap fun q => clR q.1 q.2.1 q.2.2) ++ [rG kP (.slice (some ⟨w.heap.size + 1 + 1, 0, none⟩) 1 1) [zpv], rG kQ (.slice (some ⟨w.heap.size + 1, 0, none⟩) 1 1) [(c, s, t)], rG kP (.slice (some ⟨w.heap.size, 0, none⟩) 1 1) [⟨tn, ⟨p, n, cap⟩, tag⟩]])) := (by have h := hrow; unfold trX at h; rw [List.append_nil] at h; exact h); clear y0 y1 y2 yf yg; clear u0 u1 u2 uf ug; obtain ⟨y0, y1, y2, yf, yg⟩ := hrow.three (K := kP) (g := b6) (n := 1) (p := ⟨tn, ⟨q, n, cp⟩, tag⟩) (by simp) rfl)
      | (refine step_sgapp appQ (by rfl) _ _ (by rfl) (A := [rG kC s'.v c.rd, rG kC t'.v c.wr, rG kP (.slice (some ⟨b6, 0, none⟩) 1 1) [⟨tn, ⟨q, n, cp⟩, tag⟩]]) (M := X) (B := [(c, s', t')]) (n := n) (m := 1) hS2 (below_alloc1 _ _) HX.out.2.2.2 rfl (by rfl) ⟨w4.heap.size, 0, none⟩ 1 (by rfl) (fun j u hj => lit_src (W := w4) (xs := [.slice s'.p s'.n s'.c, .slice t'.p t'.n t'.c, .int .i64 c.un]) (t := 110) rfl j u hj) (oneQs _) (.inl (by decide)) (by omega) ?_; intro g' cap' w5 hS4 _ _; have hS5 := Sg.setP1 (A := [rG kC s'.v c.rd, rG kC t'.v c.wr]) (g := b6) (n := 1) (a := ⟨tn, ⟨q, n, cp⟩, tag⟩) hS4 ⟨some ⟨g', 0, none⟩, n + 1, cap'⟩; clear y0 y1 y2 yf yg; obtain ⟨y0, y1, y2, yf, yg⟩ := hS4.three (K := kP) (g := b6) (n := 1) (p := ⟨tn, ⟨q, n, cp⟩, tag⟩) (by simp) rfl))
  all_goals
    go_upto_region 5 with (fail)
    clear hS2 hS4 hrow
    clear y0 y1 y2 yf yg
    have hrow := hS5
    clear hS5
    generalize w5.setCell ⟨b6, 1, none⟩ (.slice (some ⟨g', 0, none⟩) (n + 1) cap') = W5 at hrow ⊢
    obtain ⟨y0, y1, y2, yf, yg⟩ := hrow.three (K := kP) (g := b6) (n := 1) (p := ⟨tn, ⟨some ⟨g', 0, none⟩, n + 1, cap'⟩, tag⟩) (by simp) rfl
    have HK : Hid (∀ w' rs, Sg w w' rs → rG kP (.slice (some ⟨w.heap.size, 0, none⟩) 1 1) [⟨tn, ⟨p, n, cap⟩, tag⟩] ∈ rs → rG kQ (.slice (some ⟨w.heap.size + 1, 0, none⟩) 1 1) [(c, s, t)] ∈ rs → (w'.cell? ⟨w.heap.size, 2, none⟩ = some (.int .i64 tag) ∧ w'.cell? ⟨w.heap.size + 1, 0, none⟩ = some (.slice s.p s.n s.c) ∧ w'.cell? ⟨w.heap.size + 1, 1, none⟩ = some (.slice t.p t.n t.c) ∧ w'.cell? ⟨w.heap.size + 1, 2, none⟩ = some (.int .i64 c.un))) := fun w' rs h m1 m2 => by
      obtain ⟨_, _, k2, _, _⟩ := h.three (K := kP) (g := w.heap.size) (n := 1) (p := ⟨tn, ⟨p, n, cap⟩, tag⟩) m1 rfl
      obtain ⟨z0, z1, z2, _, _⟩ := h.three (K := kQ) (g := w.heap.size + 1) (n := 1) (p := (c, s, t)) m2 rfl
      exact ⟨k2, z0, z1, z2⟩
    go_region_held3 (fun w' => w'.cell? ⟨w.heap.size, 2, none⟩ = some (.int .i64 tag) ∧ w'.cell? ⟨w.heap.size + 1, 0, none⟩ = some (.slice s.p s.n s.c) ∧ w'.cell? ⟨w.heap.size + 1, 1, none⟩ = some (.slice t.p t.n t.c) ∧ w'.cell? ⟨w.heap.size + 1, 2, none⟩ = some (.int .i64 c.un))
      (first
        | assumption
        | with_reducible exact HK.out _ _ hrow (by simp) (by simp)
        | with_reducible exact HK.out _ _ hrow.dr (by simp) (by simp)
        | with_reducible exact HK.out _ _ hS7 (by simp) (by simp))
      (first
        | (go_at_call 99; refine (HTX.out _ (by first | with_reducible exact hrow.bel | with_reducible exact hrow.dr.bel)).mono ?_; rintro e w7 ⟨rfl, hb7⟩; (first | with_reducible (replace hrow := hrow.step hb7) | with_reducible (replace hrow := hrow.dr.step hb7)); clear y0 y1 y2 yf yg; obtain ⟨y0, y1, y2, yf, yg⟩ := hrow.three (K := kP) (g := b6) (n := 1) (p := ⟨tn, ⟨some ⟨g', 0, none⟩, n + 1, cap'⟩, tag⟩) (by simp) rfl; have hS7 := Sg.setP2 (A := [rG kC s'.v c.rd, rG kC t'.v c.wr]) (g := b6) (n := 1) (a := ⟨tn, ⟨some ⟨g', 0, none⟩, n + 1, cap'⟩, tag⟩) hrow x9)
        | (go_at_call 97; refine (H1.out _).mono ?_; rintro e w8 ⟨rfl, hw8⟩; obtain rfl := hw8.symm))
    rename_i hHeld
    clear hHeld HK hrow hb7
    clear y0 y1 y2 yf yg
    generalize w7.setCell ⟨b6, 2, none⟩ (.int .i64 x9) = W7 at hS7 ⊢
    obtain ⟨y0, y1, y2, yf, yg⟩ := hS7.three (K := kP) (g := b6) (n := 1) (p := ⟨tn, ⟨some ⟨g', 0, none⟩, n + 1, cap'⟩, x9⟩) (by simp) rfl
    obtain ⟨v0, v1, v2, vf, vg⟩ := hS7.three (K := kP) (g := w.heap.size + 1 + 1) (n := 1) (p := zpv) (by simp) rfl
    go_wp2
    have hS8 := Sg.setP (A := [rG kC s'.v c.rd, rG kC t'.v c.wr, rG kP (.slice (some ⟨b6, 0, none⟩) 1 1) [⟨tn, ⟨some ⟨g', 0, none⟩, n + 1, cap'⟩, x9⟩]] ++ rG kQ (.slice (some ⟨g', 0, none⟩) (n + 1) cap') (X ++ [(c, s', t')]) :: (X.flatMap fun q => clR q.1 q.2.1 q.2.2)) (g := w.heap.size + 1 + 1) (n := 1) (a := zpv) (by have h := hS7; simp only [List.cons_append, List.nil_append] at h ⊢; exact h) ⟨tn, ⟨some ⟨g', 0, none⟩, n + 1, cap'⟩, x9⟩
    refine bodyPost_ret (v := .tuple #[.agg #[.int .i64 tn, .slice (some ⟨g', 0, none⟩) (n + 1) cap', .int .i64 x9], .bool true]) (by simp [results, Tryz.results65, go_sem, v0, v1, v2]) rfl ?_
    rw [HB.out.1, HB.out.2]
    refine ⟨some ⟨g', 0, none⟩, n + 1, cap', X ++ [(c, s', t')], rfl, ?_, ?_, ?_, ?_, tr_app (b := rG kP (.slice (some ⟨b6, 0, none⟩) 1 1) [⟨tn, ⟨some ⟨g', 0, none⟩, n + 1, cap'⟩, x9⟩]) (hS8.sub (List.sublist_append_left _ _))⟩
    · show (cls QL ++ [c]).length = n + 1
      rw [List.length_append, ← HX.out.1, cls_len, HX.out.2.2.2]; rfl
    · show cls (X ++ [(c, s', t')]) = cls QL ++ [c]
      rw [← HX.out.1]; simp [cls]
    · intro y hy
      rcases List.mem_append.mp hy with hy | hy
      · exact HX.out.2.1 y hy
      · simp at hy; subst hy; exact ⟨by rw [HE.out.1]; exact HN.out.1, by rw [HE.out.2.1]; exact HN.out.2⟩
    · intro y hy
      rcases List.mem_append.mp hy with hy | hy
      · exact HX.out.2.2.1 y hy
      · simp at hy; subst hy; exact HE.out.2.2
end Go.Proofs.YtbkiogedipmioaaGreat.V
