/-
  The program's look whether a Cell is right: the same test of the three numbers as the spec's.
-/
import Derived.Test.YtkinbgcnenieeaaMC1
namespace Go.Proofs.Ytkinbgcnenieeaa.M
open Go.RowKit Go.Joins

theorem bdrewN {B : Nat} {a w : World} (h : Below B a w) (n : Nat) : Below B a (w.drewN n) := h.trans ⟨rfl, rfl, rfl, Nat.le_refl _, fun _ _ => rfl⟩
theorem isLevel_v {l : Int} {v : Bool} (hv : levB l = v) (w : World) :
    Calls Try.prog 64 #[.int .i64 l] w fun e w' => e = .returned (.bool v) ∧ w' = w := by subst hv; exact isLevel_any l w

set_option maxHeartbeats 1000000 in
theorem isRight_any (l x y : Int) (w : World) :
    Calls Try.prog 63 #[.agg #[.int .i64 l, .int .i64 x, .int .i64 y]] w fun e w' => e = .returned (.bool (cellB l x y)) ∧ Below w.heap.size w w' := by
  cases hv : levB l
  · go_enter Try.func63, Try.ntmps63
    go_wp2
    go_quiet ((go_at_call 64; refine Calls.quiet_of_same (isLevel_v hv _)))
    go_wp2
    go_ret
    exact ⟨ret_bool (by unfold levB at hv; unfold cellB; have := of_decide_eq_false hv; exact (decide_eq_false (by omega)).symm), bdrewN (below_alloc1 _ _) _⟩
  obtain ⟨h0, h8⟩ := levB_t.mp hv
  obtain ⟨p1, p2⟩ := pw h0 h8
  have e1 : wrap64 (2 ^ l.toNat) = 2 ^ l.toNat := w64 (by omega) (by omega)
  cases h1 : decide (0 ≤ x)
  · go_enter Try.func63, Try.ntmps63
    go_wp2
    go_quiet ((go_at_call 64; refine Calls.quiet_of_same (isLevel_v hv _)))
    go_wp2
    go_ret
    exact ⟨ret_bool (by unfold cellB; have := of_decide_eq_false h1; exact (decide_eq_false (by omega)).symm), bdrewN (below_alloc1 _ _) _⟩
  have k1 : 0 ≤ x := of_decide_eq_true h1
  cases h2 : decide (x < 2 ^ l.toNat)
  · go_enter Try.func63, Try.ntmps63
    go_wp2
    go_quiet ((go_at_call 64; refine Calls.quiet_of_same (isLevel_v hv _)))
    go_wp2
    go_ret
    exact ⟨ret_bool (by unfold cellB; have := of_decide_eq_false h2; exact (decide_eq_false (by omega)).symm), bdrewN (below_alloc1 _ _) _⟩
  have k2 : x < 2 ^ l.toNat := of_decide_eq_true h2
  cases h3 : decide (0 ≤ y)
  · go_enter Try.func63, Try.ntmps63
    go_wp2
    go_quiet ((go_at_call 64; refine Calls.quiet_of_same (isLevel_v hv _)))
    go_wp2
    go_ret
    exact ⟨ret_bool (by unfold cellB; have := of_decide_eq_false h3; exact (decide_eq_false (by omega)).symm), bdrewN (below_alloc1 _ _) _⟩
  have k3 : 0 ≤ y := of_decide_eq_true h3
  go_enter Try.func63, Try.ntmps63
  go_wp2
  go_quiet ((go_at_call 64; refine Calls.quiet_of_same (isLevel_v hv _)))
  go_wp2
  go_ret
  exact ⟨ret_bool (by unfold cellB; exact decide_eq_decide.mpr (by omega)), bdrewN (below_alloc1 _ _) _⟩

end Go.Proofs.Ytkinbgcnenieeaa.M
