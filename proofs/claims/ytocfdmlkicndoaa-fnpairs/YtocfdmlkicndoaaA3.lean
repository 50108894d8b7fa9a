/-
  The spec's question whether two edges have a place in common.
-/
import Derived.Test.YtocfdmlkicndoaaA2
import Derived.Deep.QuietTactic
import Derived.BigQuiet
namespace Go.Proofs.Ytocfdmlkicndoaa
open Go.RowKit Go.Joins
attribute [local go_sem ↓] Go.wp_at_zero Go.wp_at_succ

def btwB (a b c : T2) : Bool := decide (min a.x b.x ≤ c.x ∧ c.x ≤ max a.x b.x ∧ min a.y b.y ≤ c.y ∧ c.y ≤ max a.y b.y)

theorem sMax_q (a b : Int) (w : World) : Calls Try.prog 40 #[.int .i64 a, .int .i64 b] w fun e w' => e = .returned (.int .i64 (max a b)) ∧ w' = w := (sMax_any a b w).mono fun _ _ ⟨h, k⟩ => ⟨h, k.symm⟩
theorem bdrewN {B : Nat} {a w : World} (h : Below B a w) (n : Nat) : Below B a (w.drewN n) := h.trans ⟨rfl, rfl, rfl, Nat.le_refl _, fun _ _ => rfl⟩
def cutS (p q r s : Int) (b1 b2 b3 b4 : Bool) : Bool := (decide (p * q < 0) && decide (r * s < 0)) || ((decide (p = 0) && b1) || (decide (q = 0) && b2) || (decide (r = 0) && b3) || (decide (s = 0) && b4))
def cutB (a b c d : T2) : Bool := cutS (sg (crT a b c)) (sg (crT a b d)) (sg (crT c d a)) (sg (crT c d b)) (btwB a b c) (btwB a b d) (btwB c d a) (btwB c d b)
theorem sg_pr (m n : Int) : -1 ≤ sg m * sg n ∧ sg m * sg n ≤ 1 := by
  unfold sg
  split <;> split <;> (try split) <;> (try split) <;> simp

end Go.Proofs.Ytocfdmlkicndoaa
