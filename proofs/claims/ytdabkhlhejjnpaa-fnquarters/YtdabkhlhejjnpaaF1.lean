/-
  For FnQuarters: lists of Cells that are alike, and what is so of a Cell's quarters.
-/
import Derived.Test.YtdabkhlhejjnpaaD6
import Derived.Test.YtdabkhlhejjnpaaH1
namespace Go.Proofs.Ytdabkhlhejjnpaa
open Go.RowKit Go.Joins

set_option maxHeartbeats 2000000 in
theorem like4 (a0 a1 a2 a3 a4 a5 a6 a7 a8 a9 a10 a11 : Int) (g1 c1 g2 c2 : Nat) (w : World) (hA : HasAt w g1 0 [.int .i64 a0, .int .i64 a1, .int .i64 a2, .int .i64 a3, .int .i64 a4, .int .i64 a5, .int .i64 a6, .int .i64 a7, .int .i64 a8, .int .i64 a9, .int .i64 a10, .int .i64 a11]) (hB : HasAt w g2 0 [.int .i64 a0, .int .i64 a1, .int .i64 a2, .int .i64 a3, .int .i64 a4, .int .i64 a5, .int .i64 a6, .int .i64 a7, .int .i64 a8, .int .i64 a9, .int .i64 a10, .int .i64 a11]) :
    Calls Try.prog 20 #[.slice (some ⟨g1, 0, none⟩) 4 c1, .slice (some ⟨g2, 0, none⟩) 4 c2] w fun e w' => e = .returned (.bool true) ∧ Below w.heap.size w w' := by
  simp [HasAt] at hA hB
  go_enter Try.func20, Try.ntmps20
  go_wp2
  refine wp_loop_rounds 5 ?_
  rw [rounds_succ]
  go_wp2
  go_quiet (fail)
  go_wp2
  rw [rounds_succ]
  go_wp2
  go_quiet (fail)
  go_wp2
  rw [rounds_succ]
  go_wp2
  go_quiet (fail)
  go_wp2
  rw [rounds_succ]
  go_wp2
  go_quiet (fail)
  go_wp2
  rw [rounds_succ]
  go_wp2
  go_ret
  exact ⟨rfl, bdrewN (Below.refl _ _) _⟩

set_option maxHeartbeats 1000000 in
theorem like0 (p q : Option Addr) (c1 c2 : Nat) (w : World) :
    Calls Try.prog 20 #[.slice p 0 c1, .slice q 0 c2] w fun e w' => e = .returned (.bool true) ∧ Below w.heap.size w w' := by
  go_enter Try.func20, Try.ntmps20
  go_wp2
  refine wp_loop_rounds 1 ?_
  rw [rounds_succ]
  go_wp2
  go_ret
  exact ⟨rfl, Below.refl _ _⟩

/-- The i-th quarter is a right Cell. -/
theorem quart_ok {l x y : Int} (h : cellB l x y = true) (h8 : l ≠ 8) {i j : Int} (i0 : 0 ≤ i) (i1 : i ≤ 1) (j0 : 0 ≤ j) (j1 : j ≤ 1) : cellB (l + 1) (2 * x + i) (2 * y + j) = true := by
  obtain ⟨a, b, c, d, e, f⟩ := cellB_t.mp h
  have hp : (2 : Int) ^ (l + 1).toNat = 2 * 2 ^ l.toNat := by
    rw [show (l + 1).toNat = l.toNat + 1 by omega, Int.pow_succ]; omega
  exact cellB_t.mpr (by omega)
theorem quart_up {l x y : Int} (h : cellB l x y = true) (h8 : l ≠ 8) {i j : Int} (i0 : 0 ≤ i) (i1 : i ≤ 1) (j0 : 0 ≤ j) (j1 : j ≤ 1) : uL (l + 1) (2 * x + i) (2 * y + j) = l ∧ uX (l + 1) (2 * x + i) (2 * y + j) = x ∧ uY (l + 1) (2 * x + i) (2 * y + j) = y := by
  have hq := quart_ok h h8 i0 i1 j0 j1
  have hl := cell_lev h
  have hne : ¬ l + 1 = 0 := by omega
  simp only [uL, uX, uY, hq, if_true, if_neg hne]
  omega
theorem quart_in {l x y : Int} (h : cellB l x y = true) (h8 : l ≠ 8) {i j : Int} (i0 : 0 ≤ i) (i1 : i ≤ 1) (j0 : 0 ≤ j) (j1 : j ≤ 1) : insB (l + 1) (2 * x + i) (2 * y + j) l x y = true ∧ insB l x y (l + 1) (2 * x + i) (2 * y + j) = false := by
  have hq := quart_ok h h8 i0 i1 j0 j1
  rw [insB_eq, insB_eq, h, hq]
  refine ⟨?_, ?_⟩
  · simp only [Bool.and_self, Bool.true_and, lInB]
    rw [show (l + 1 - l).toNat = 1 by omega, Int.pow_succ, Int.pow_zero]
    exact decide_eq_true (by omega)
  · simp only [Bool.and_self, Bool.true_and, lInB]
    exact decide_eq_false (by omega)
theorem sd_succ {l : Int} (h0 : 0 ≤ l) (h7 : l ≤ 7) : sd l = 2 * sd (l + 1) := by
  have : l = 0 ∨ l = 1 ∨ l = 2 ∨ l = 3 ∨ l = 4 ∨ l = 5 ∨ l = 6 ∨ l = 7 := by omega
  unfold sd
  rcases this with rfl | rfl | rfl | rfl | rfl | rfl | rfl | rfl <;> decide
theorem area_cell {l x y : Int} (h : cellB l x y = true) : areaI (rX l x y) (rY l x y) (rS l x y) (rS l x y) = sd l * sd l := by
  obtain ⟨h0, h8, hx, hx1, hy, hy1⟩ := cellB_t.mp h
  have a1 := mul_bd h0 h8 hx hx1
  have a2 := mul_bd h0 h8 hy hy1
  have a3 := sd_bd h0 h8
  simp only [rX, rY, rS, h, if_true]
  have ho : okB (x * sd l) (y * sd l) (sd l) (sd l) = true := okB_t.mpr (by omega)
  simp only [areaI, ho, if_true]
theorem area_four {l : Int} (h0 : 0 ≤ l) (h7 : l ≤ 7) : sd (l + 1) * sd (l + 1) + sd (l + 1) * sd (l + 1) + sd (l + 1) * sd (l + 1) + sd (l + 1) * sd (l + 1) = sd l * sd l := by
  rw [sd_succ h0 h7]
  generalize sd (l + 1) = d
  rw [show 2 * d * (2 * d) = 4 * (d * d) by rw [Int.mul_assoc, Int.mul_left_comm d 2 d, ← Int.mul_assoc]; rfl]
  omega
end Go.Proofs.Ytdabkhlhejjnpaa
