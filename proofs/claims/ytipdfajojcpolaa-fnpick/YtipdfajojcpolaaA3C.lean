/-
  The spec's l4Cut.
-/
import Derived.Test.YtipdfajojcpolaaA3
namespace Go.Proofs.Ytipdfajojcpolaa
open Go.RowKit Go.Joins
attribute [local go_sem ↓] Go.wp_at_zero Go.wp_at_succ

set_option maxHeartbeats 4000000 in
theorem l4Cut_any {a b c d : T2} (ha : a.ok = true) (hb : b.ok = true) (hc : c.ok = true) (hd : d.ok = true) (w : World) :
    Calls Try.prog 42 #[.agg #[.int .i64 a.x, .int .i64 a.y], .agg #[.int .i64 b.x, .int .i64 b.y], .agg #[.int .i64 c.x, .int .i64 c.y], .agg #[.int .i64 d.x, .int .i64 d.y]] w fun e w' => e = .returned (.bool (cutB a b c d)) ∧ Below w.heap.size w w' := by
  have hs := ((((St.nil w).push a.vs 28).push b.vs 28).push c.vs 28).push d.vs 28
  simp only [World.size_alloc, T2.vs] at hs
  have e1 := sg_pr (crT a b c) (crT a b d)
  have e2 := sg_pr (crT c d a) (crT c d b)
  go_enter Try.func42, Try.ntmps42
  go_wp2_with (first
    | (go_at_call 41; refine (l4Cross_any ?_ ?_ ?_ _).mono ?_; (focus assumption); (focus assumption); (focus assumption); rintro e w1 ⟨rfl, hb2⟩; replace hs := hs.step hb2; (try clear hk); have hk := hs.has; simp [Has, HasAt] at hk)
    | (go_at_call 45; refine (l4Sign_any _ _).mono ?_; rintro e w1 ⟨rfl, hb2⟩; replace hs := hs.step hb2; (try clear hk); have hk := hs.has; simp [Has, HasAt] at hk)
    | (go_at_call 59; refine (l4Between_any _ _ _ _).mono ?_; rintro e w1 ⟨rfl, hb2⟩; replace hs := hs.step hb2; (try clear hk); have hk := hs.has; simp [Has, HasAt] at hk))
  all_goals (go_ret; exact ⟨ret_bool (by unfold cutB cutS; simp [*] <;> omega), hs.bel⟩)
end Go.Proofs.Ytipdfajojcpolaa
