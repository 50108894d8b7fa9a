/-
  The spec's question whether two edges have a place in common.
-/
import Derived.Test.YtipdfajojcpolaaA2
import Derived.Deep.QuietTactic
import Derived.BigQuiet
namespace Go.Proofs.Ytipdfajojcpolaa
open Go.RowKit Go.Joins
attribute [local go_sem ↓] Go.wp_at_zero Go.wp_at_succ

def btwB (a b c : T2) : Bool := decide (min a.x b.x ≤ c.x ∧ c.x ≤ max a.x b.x ∧ min a.y b.y ≤ c.y ∧ c.y ≤ max a.y b.y)

theorem sMax_q (a b : Int) (w : World) : Calls Try.prog 55 #[.int .i64 a, .int .i64 b] w fun e w' => e = .returned (.int .i64 (max a b)) ∧ w' = w := (sMax_any a b w).mono fun _ _ ⟨h, k⟩ => ⟨h, k.symm⟩
theorem sMin_q (a b : Int) (w : World) : Calls Try.prog 65 #[.int .i64 a, .int .i64 b] w fun e w' => e = .returned (.int .i64 (min a b)) ∧ w' = w := (sMin_any a b w).mono fun _ _ ⟨h, k⟩ => ⟨h, k.symm⟩
theorem bdrewN {B : Nat} {a w : World} (h : Below B a w) (n : Nat) : Below B a (w.drewN n) := h.trans ⟨rfl, rfl, rfl, Nat.le_refl _, fun _ _ => rfl⟩
set_option maxHeartbeats 2000000 in
theorem l4Between_any (a b c : T2) (w : World) :
    Calls Try.prog 59 #[.agg #[.int .i64 a.x, .int .i64 a.y], .agg #[.int .i64 b.x, .int .i64 b.y], .agg #[.int .i64 c.x, .int .i64 c.y]] w fun e w' => e = .returned (.bool (btwB a b c)) ∧ Below w.heap.size w w' := by
  have hB := below_alloc3 w (.cells #[.int .i64 a.x, .int .i64 a.y] 28) (.cells #[.int .i64 b.x, .int .i64 b.y] 28) (.cells #[.int .i64 c.x, .int .i64 c.y] 28)
  by_cases h1 : min a.x b.x ≤ c.x
  · by_cases h2 : c.x ≤ max a.x b.x
    · by_cases h3 : min a.y b.y ≤ c.y
      · by_cases h4 : c.y ≤ max a.y b.y
        · go_enter Try.func59, Try.ntmps59
          go_wp2
          go_quiet (first | (go_at_call 65; exact Calls.quiet_of_same (sMin_q _ _ _)) | (go_at_call 55; exact Calls.quiet_of_same (sMax_q _ _ _)))
          go_wp2
          go_ret
          exact ⟨ret_bool (by unfold btwB; exact (decide_eq_true ⟨h1, h2, h3, h4⟩).symm), bdrewN hB _⟩
        · have hd : decide (c.y ≤ max a.y b.y) = false := decide_eq_false h4
          go_enter Try.func59, Try.ntmps59
          go_wp2
          go_quiet (first | (go_at_call 65; exact Calls.quiet_of_same (sMin_q _ _ _)) | (go_at_call 55; exact Calls.quiet_of_same (sMax_q _ _ _)))
          go_wp2
          go_ret
          exact ⟨ret_bool (by unfold btwB; exact (decide_eq_false (fun h => by omega)).symm), bdrewN hB _⟩
      · have hd : decide (min a.y b.y ≤ c.y) = false := decide_eq_false h3
        go_enter Try.func59, Try.ntmps59
        go_wp2
        go_quiet (first | (go_at_call 65; exact Calls.quiet_of_same (sMin_q _ _ _)) | (go_at_call 55; exact Calls.quiet_of_same (sMax_q _ _ _)))
        go_wp2
        go_ret
        exact ⟨ret_bool (by unfold btwB; exact (decide_eq_false (fun h => by omega)).symm), bdrewN hB _⟩
    · have hd : decide (c.x ≤ max a.x b.x) = false := decide_eq_false h2
      go_enter Try.func59, Try.ntmps59
      go_wp2
      go_quiet (first | (go_at_call 65; exact Calls.quiet_of_same (sMin_q _ _ _)) | (go_at_call 55; exact Calls.quiet_of_same (sMax_q _ _ _)))
      go_wp2
      go_ret
      exact ⟨ret_bool (by unfold btwB; exact (decide_eq_false (fun h => by omega)).symm), bdrewN hB _⟩
  · have hd : decide (min a.x b.x ≤ c.x) = false := decide_eq_false h1
    go_enter Try.func59, Try.ntmps59
    go_wp2
    go_quiet (first | (go_at_call 65; exact Calls.quiet_of_same (sMin_q _ _ _)) | (go_at_call 55; exact Calls.quiet_of_same (sMax_q _ _ _)))
    go_wp2
    go_ret
    exact ⟨ret_bool (by unfold btwB; exact (decide_eq_false (fun h => by omega)).symm), bdrewN hB _⟩

def cutS (p q r s : Int) (b1 b2 b3 b4 : Bool) : Bool := (decide (p * q < 0) && decide (r * s < 0)) || ((decide (p = 0) && b1) || (decide (q = 0) && b2) || (decide (r = 0) && b3) || (decide (s = 0) && b4))
def cutB (a b c d : T2) : Bool := cutS (sg (crT a b c)) (sg (crT a b d)) (sg (crT c d a)) (sg (crT c d b)) (btwB a b c) (btwB a b d) (btwB c d a) (btwB c d b)
theorem sg_pr (m n : Int) : -1 ≤ sg m * sg n ∧ sg m * sg n ≤ 1 := by
  unfold sg
  split <;> split <;> (try split) <;> (try split) <;> simp

end Go.Proofs.Ytipdfajojcpolaa
