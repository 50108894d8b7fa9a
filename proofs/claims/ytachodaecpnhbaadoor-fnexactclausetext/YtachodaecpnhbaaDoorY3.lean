/-
  The law of ClauseText, walked.
-/
import Derived.Test.YtachodaecpnhbaaDoorY2
namespace Go.Proofs.YtachodaecpnhbaaDoor
open Go.Shelf Go.RowKit Go.Joins
attribute [local go_sem] Oper.semAt_some

set_option maxRecDepth 100000 in
set_option maxHeartbeats 4000000 in
theorem exactClauseText (c : Cl) (s t : Sv) (h1 : s.n ≤ maxLen) (h2 : t.n ≤ maxLen) (w : World) (hR : RdL w c s t) (hT : TB w) :
    Calls Tryd.prog 3 #[.agg #[.slice s.p s.n s.c, .slice t.p t.n t.c, .int .i64 c.un]] w fun e w' => e = .returned (.bool true) ∧ Below w.heap.size w w' := by
  have hS0 := (Sg.nil w).lit kLQ [(c, s, t)] 1 rfl (by decide) #[.slice s.p s.n s.c, .slice t.p t.n t.c, .int .i64 c.un] rfl
  change Sg w (w.alloc (.cells #[.slice s.p s.n s.c, .slice t.p t.n t.c, .int .i64 c.un] 24)) _ at hS0
  have HZ := szClause_any s t c.un 1048576 (by omega) (by omega) h1 h2 (w.alloc (.cells #[.slice s.p s.n s.c, .slice t.p t.n t.c, .int .i64 c.un] 24))
  clear h1 h2
  have HH : Hid (RdL w c s t) := hR
  clear hR
  go_enter Tryd.func3, Tryd.ntmps3
  go_upto_region 3 with (go_at_call 5; refine HZ.mono ?_; rintro e w1 ⟨r, rfl, hr, hb1⟩; have hS1 := hS0.step hb1)
  by_cases hneg : r < 0
  · go_wp2
    go_ret
    exact ⟨rfl, hS1.bel⟩
  have hs : s.n ≤ 10000000 := by rcases hr with hr | hr <;> omega
  have ht : t.n ≤ 10000000 := by rcases hr with hr | hr <;> omega
  have HTC : Hid (∀ W, Below w.heap.size w W → Calls Tryd.prog 7 #[.agg #[.slice s.p s.n s.c, .slice t.p t.n t.c, .int .i64 c.un]] W fun e w' => ∃ g h, e = .returned (.agg #[.slice (some ⟨g, 0, none⟩) s.n s.n, .slice (some ⟨h, 0, none⟩) t.n t.n, .int .i64 c.un]) ∧ Sg W w' (clR c ⟨some ⟨g, 0, none⟩, s.n, s.n⟩ ⟨some ⟨h, 0, none⟩, t.n, t.n⟩)) := fun W h => toClause_any c s t hs ht W (HH.out.step h)
  have HRD : Hid (∀ W rs g h, Sg w W rs → (∀ r ∈ clR c ⟨some ⟨g, 0, none⟩, s.n, s.n⟩ ⟨some ⟨h, 0, none⟩, t.n, t.n⟩, r ∈ rs) → RdQ W c ⟨some ⟨g, 0, none⟩, s.n, s.n⟩ ⟨some ⟨h, 0, none⟩, t.n, t.n⟩) := fun W rs g h hS hm => hS.rdQ hm hs ht
  have H6 : Hid (∀ W rs g h, Sg w W rs → (∀ r ∈ clR c ⟨some ⟨g, 0, none⟩, s.n, s.n⟩ ⟨some ⟨h, 0, none⟩, t.n, t.n⟩, r ∈ rs) → Calls Tryd.prog 6 #[.agg #[.slice (some ⟨g, 0, none⟩) s.n s.n, .slice (some ⟨h, 0, none⟩) t.n t.n, .int .i64 c.un]] W fun e w' => e = .returned (.string (ctx c)) ∧ Below W.heap.size W w') := fun W rs g h hS hm => sText_any (s := ⟨some ⟨g, 0, none⟩, s.n, s.n⟩) (t := ⟨some ⟨h, 0, none⟩, t.n, t.n⟩) W (HRD.out W rs g h hS hm)
  have H8 : Hid (∀ W rs g h, Sg w W rs → (∀ r ∈ clR c ⟨some ⟨g, 0, none⟩, s.n, s.n⟩ ⟨some ⟨h, 0, none⟩, t.n, t.n⟩, r ∈ rs) → Calls Tryd.prog 8 #[.agg #[.slice (some ⟨g, 0, none⟩) s.n s.n, .slice (some ⟨h, 0, none⟩) t.n t.n, .int .i64 c.un]] W fun e w' => e = .returned (.string (ctx c)) ∧ Below W.heap.size W w') := fun W rs g h hS hm => iText_any (s := ⟨some ⟨g, 0, none⟩, s.n, s.n⟩) (t := ⟨some ⟨h, 0, none⟩, t.n, t.n⟩) W (HRD.out W rs g h hS hm) (hT.step hS.bel)
  have H9 : Hid (∀ W rs g h g' h', Sg w W rs → (∀ r ∈ clR c ⟨some ⟨g, 0, none⟩, s.n, s.n⟩ ⟨some ⟨h, 0, none⟩, t.n, t.n⟩, r ∈ rs) → (∀ r ∈ clR c ⟨some ⟨g', 0, none⟩, s.n, s.n⟩ ⟨some ⟨h', 0, none⟩, t.n, t.n⟩, r ∈ rs) → Calls Tryd.prog 9 #[.agg #[.slice (some ⟨g, 0, none⟩) s.n s.n, .slice (some ⟨h, 0, none⟩) t.n t.n, .int .i64 c.un], .agg #[.slice (some ⟨g', 0, none⟩) s.n s.n, .slice (some ⟨h', 0, none⟩) t.n t.n, .int .i64 c.un]] W fun e w' => e = .returned (.bool true) ∧ Below W.heap.size W w') := fun W rs g h g' h' hS hm hm' => eqClause_same c ⟨some ⟨g, 0, none⟩, s.n, s.n⟩ ⟨some ⟨h, 0, none⟩, t.n, t.n⟩ ⟨some ⟨g', 0, none⟩, s.n, s.n⟩ ⟨some ⟨h', 0, none⟩, t.n, t.n⟩ W (HRD.out W rs g h hS hm) (HRD.out W rs g' h' hS hm')
  clear hr
  obtain ⟨T, hTx⟩ : ∃ T, ctx c = T := ⟨_, rfl⟩
  rw [hTx] at H6 H8
  clear hTx
  have f0 : True := trivial
  obtain ⟨x0, x1, x2, _, xg⟩ := hS1.three (K := kLQ) (g := w.heap.size) (n := 1) (p := (c, s, t)) (by simp) rfl
  go_upto_region 10 with (first
    | (go_at_call 7; clear f0; refine (HTC.out _ hS1.bel).mono ?_; rintro e w2 ⟨g2, h2, rfl, hw2⟩; have hS2 := hS1.addL hw2)
    | (go_at_call 6; refine (H6.out _ _ g2 h2 hS2 (fun r hr => List.mem_append_left _ hr)).mono ?_; rintro e w3 ⟨rfl, hb3⟩; have hS3 := hS2.step hb3; clear x0 x1 x2 xg; obtain ⟨x0, x1, x2, _, xg⟩ := hS3.three (K := kLQ) (g := w.heap.size) (n := 1) (p := (c, s, t)) (by simp) rfl)
    | (go_at_call 7; refine (HTC.out _ hS3.bel).mono ?_; rintro e w4 ⟨g4, h4, rfl, hw4⟩; have hS4a := hS3.addL hw4; have hS4 := hS4a.lit kQ [(c, ⟨some ⟨g4, 0, none⟩, s.n, s.n⟩, ⟨some ⟨h4, 0, none⟩, t.n, t.n⟩)] 1 rfl (by decide) #[.slice (some ⟨g4, 0, none⟩) s.n s.n, .slice (some ⟨h4, 0, none⟩) t.n t.n, .int .i64 c.un] rfl; change Sg w (w4.alloc (.cells #[.slice (some ⟨g4, 0, none⟩) s.n s.n, .slice (some ⟨h4, 0, none⟩) t.n t.n, .int .i64 c.un] 29)) _ at hS4)
    | (go_at_call 8; refine (H8.out _ _ g4 h4 hS4 (fun r hr => List.mem_cons_of_mem _ (List.mem_append_left _ hr))).mono ?_; rintro e w5 ⟨rfl, hb5⟩; have hS5 := hS4.step hb5; clear x0 x1 x2 xg; obtain ⟨x0, x1, x2, _, xg⟩ := hS5.three (K := kLQ) (g := w.heap.size) (n := 1) (p := (c, s, t)) (by simp) rfl; obtain ⟨u0, u1, u2, _, ug⟩ := hS5.three (K := kQ) (g := w4.heap.size) (n := 1) (p := (c, ⟨some ⟨g4, 0, none⟩, s.n, s.n⟩, ⟨some ⟨h4, 0, none⟩, t.n, t.n⟩)) (by simp) rfl))
  generalize w4.heap.size = b4 at *
  go_region_with (first
    | (go_at_call 7; refine (HTC.out _ hS5.bel.drew).mono ?_; rintro e w6 ⟨g6, h6, rfl, hw6⟩; have hy := (hS5.step (Below.refl _ _).drew).addL hw6; clear u0 u1 u2 ug; obtain ⟨u0, u1, u2, _, ug⟩ := hy.three (K := kQ) (g := b4) (n := 1) (p := (c, ⟨some ⟨g4, 0, none⟩, s.n, s.n⟩, ⟨some ⟨h4, 0, none⟩, t.n, t.n⟩)) (by simp) rfl)
    | (go_at_call 9; refine (H9.out _ _ g4 h4 g6 h6 hy (fun r hr => List.mem_append_right _ (List.mem_cons_of_mem _ (List.mem_append_left _ hr))) (fun r hr => List.mem_append_left _ hr)).mono ?_; rintro e w7 ⟨rfl, hb7⟩; replace hy := hy.step hb7))
  all_goals
    go_wp2
    go_ret
    exact ⟨rfl, hy.bel⟩
end Go.Proofs.YtachodaecpnhbaaDoor
