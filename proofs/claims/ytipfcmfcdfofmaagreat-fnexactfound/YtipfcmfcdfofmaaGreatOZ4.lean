/-
  The spec's Order.
-/
import Derived.Test.YtipfcmfcdfofmaaGreatOZ2
namespace Go.Proofs.YtipfcmfcdfofmaaGreat.O
open Go.RowKit Go.Joins

set_option maxHeartbeats 1000000 in
theorem l2Order_any {s t : Int} (h : spB s t = true) (w : World) :
    Calls Tryz.prog 89 #[.agg #[.int .i64 s, .int .i64 t]] w fun e w' => e = .returned (.int .i64 (zz s t 8)) ∧ Below w.heap.size w w' := by
  obtain ⟨a, b, c, d⟩ := spB_t.mp h
  go_enter Tryz.func89, Tryz.ntmps89
  go_wp2
  go_loop [3, 4] (fun n i => ∃ k : Nat, k ≤ 8 ∧ n = .int .i64 (zz s t k) ∧ i = .int .i64 k) (fun _ i => 8 - (intOf i).toNat)
  case atStart => exact ⟨0, by omega, rfl, rfl⟩
  case round =>
    obtain ⟨k, hk, rfl, rfl⟩ := hrel
    by_cases hlt : k < 8
    · have q1 := half_eq s k
      have q2 := half_eq t k
      have q3 : (s / 2 ^ k).tmod 2 = half s k % 2 := by rw [← q1]; exact Int.tmod_eq_emod_of_nonneg (half_nn a k)
      have q4 : (t / 2 ^ k).tmod 2 = half t k % 2 := by rw [← q2]; exact Int.tmod_eq_emod_of_nonneg (half_nn c k)
      have r1 : wrap64 ((s / 2 ^ k).tmod 2 * 2 ^ (2 * k)) = half s k % 2 * 2 ^ (2 * k) := by rw [q3]; exact bit_w (by omega) (by omega) (by omega)
      have r2 : wrap64 ((t / 2 ^ k).tmod 2 * 2 ^ (2 * k + 1)) = half t k % 2 * 2 ^ (2 * k + 1) := by rw [q4]; exact bit_w (by omega) (by omega) (by omega)
      have r3 := or_step (s := s) (t := t) hlt
      clear q1 q2 q3 q4
      go_wp2
      refine ⟨⟨k + 1, by omega, ?_, by go_num⟩, by simp [intOf]; omega⟩
      first | rfl | rw [r1, r2, r3]
    · go_wp2
      obtain rfl : k = 8 := by omega
      go_ret
      exact ⟨rfl, below_alloc1 _ _⟩

theorem l2Order_v {s t : Int} (h : spB s t = true) (w : World) :
    Calls Tryz.prog 89 #[.agg #[.int .i64 s, .int .i64 t]] w fun e w' => e = .returned (.int .i64 (ordI s t)) ∧ Below w.heap.size w w' := by
  have : ordI s t = zz s t 8 := by simp [ordI, h]
  rw [this]; exact l2Order_any h w

end Go.Proofs.YtipfcmfcdfofmaaGreat.O
