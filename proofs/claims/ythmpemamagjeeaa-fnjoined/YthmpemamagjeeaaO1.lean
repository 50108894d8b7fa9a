/-
  Numbers in z order: how those of one Cell lie, plain arithmetic.
-/
import Derived.Test.YthmpemamagjeeaaZ3
namespace Go.Proofs.Ythmpemamagjeeaa
open Go.RowKit Go.Joins

theorem half_half (s : Int) (j : Nat) : ∀ m, half (half s j) m = half s (j + m)
  | 0 => rfl
  | m + 1 => by rw [half, half_half s j m]; rfl
theorem zz_split (s t : Int) (j : Nat) : ∀ m, zz s t (j + m) = zz s t j + 4 ^ j * zz (half s j) (half t j) m
  | 0 => by simp [zz]
  | m + 1 => by
    rw [← Nat.add_assoc, zz, zz_split s t j m, zz, half_half, half_half]
    generalize (2 * (half t (j + m) % 2) + half s (j + m) % 2) = v
    rw [Int.mul_add, Int.pow_add, Int.mul_assoc, Int.add_assoc]
theorem zz_front (s t : Int) (m : Nat) : zz s t (m + 1) = 2 * (t % 2) + s % 2 + 4 * zz (s / 2) (t / 2) m := by
  have := zz_split s t 1 m
  rw [Nat.add_comm] at this
  rw [this]
  simp [zz, half]
theorem zz_low (a b : Int) : ∀ j : Nat, zz (a * 2 ^ j) (b * 2 ^ j) j = 0
  | 0 => rfl
  | j + 1 => by
    have e1 : a * 2 ^ (j + 1) = 2 * (a * 2 ^ j) := by rw [Int.pow_succ, ← Int.mul_assoc, Int.mul_comm]
    have e2 : b * 2 ^ (j + 1) = 2 * (b * 2 ^ j) := by rw [Int.pow_succ, ← Int.mul_assoc, Int.mul_comm]
    have ih := zz_low a b j
    rw [e1, e2, zz_front]
    generalize a * 2 ^ j = A at ih ⊢
    generalize b * 2 ^ j = B at ih ⊢
    rw [show 2 * A / 2 = A by omega, show 2 * B / 2 = B by omega, ih]
    omega
theorem zz_high (a b : Int) : ∀ j : Nat, zz (a * 2 ^ j + (2 ^ j - 1)) (b * 2 ^ j + (2 ^ j - 1)) j = 4 ^ j - 1
  | 0 => rfl
  | j + 1 => by
    have e1 : a * 2 ^ (j + 1) = 2 * (a * 2 ^ j) := by rw [Int.pow_succ, ← Int.mul_assoc, Int.mul_comm]
    have e2 : b * 2 ^ (j + 1) = 2 * (b * 2 ^ j) := by rw [Int.pow_succ, ← Int.mul_assoc, Int.mul_comm]
    have ih := zz_high a b j
    rw [zz_front, e1, e2, Int.pow_succ 2, Int.pow_succ 4]
    generalize a * 2 ^ j = A at ih ⊢
    generalize b * 2 ^ j = B at ih ⊢
    generalize (2 : Int) ^ j = D at ih ⊢
    generalize (4 : Int) ^ j = F at ih ⊢
    rw [show (2 * A + (D * 2 - 1)) / 2 = A + (D - 1) by omega, show (2 * B + (D * 2 - 1)) / 2 = B + (D - 1) by omega, ih]
    omega
theorem half_low (a : Int) : ∀ j : Nat, half (a * 2 ^ j) j = a
  | j => by rw [half_eq, Int.mul_ediv_cancel _ (Int.ne_of_gt (Int.pow_pos (by decide)))]
theorem half_high (a : Int) (j : Nat) : half (a * 2 ^ j + (2 ^ j - 1)) j = a := by
  have hp : (0 : Int) < 2 ^ j := Int.pow_pos (by decide)
  rw [half_eq, Int.add_comm, Int.add_mul_ediv_right _ _ (by omega), Int.ediv_eq_zero_of_lt (by omega) (by omega), Int.zero_add]
theorem zz_inj : ∀ (k : Nat) (s t s' t' : Int), 0 ≤ s → s < 2 ^ k → 0 ≤ t → t < 2 ^ k → 0 ≤ s' → s' < 2 ^ k → 0 ≤ t' → t' < 2 ^ k → zz s t k = zz s' t' k → s = s' ∧ t = t'
  | 0, s, t, s', t', a, b, c, d, e, f, g, h, _ => by simp at b d f h; omega
  | k + 1, s, t, s', t', a, b, c, d, e, f, g, h, hz => by
    rw [zz_front, zz_front] at hz
    rw [Int.pow_succ] at b d f h
    have ih := zz_inj k (s / 2) (t / 2) (s' / 2) (t' / 2) (by omega) (by omega) (by omega) (by omega) (by omega) (by omega) (by omega) (by omega) (by omega)
    omega
/-- The number of the least Spot of the Cell of side 2 ^ j round (s, t). -/
def low (s t : Int) (j : Nat) : Int := 4 ^ j * zz (half s j) (half t j) (8 - j)
theorem ord_low {s t : Int} {j : Nat} (hj : j ≤ 8) : zz (half s j * 2 ^ j) (half t j * 2 ^ j) 8 = low s t j := by
  have := zz_split (half s j * 2 ^ j) (half t j * 2 ^ j) j (8 - j)
  rw [show j + (8 - j) = 8 by omega, zz_low, half_low, half_low] at this
  rw [this, low]; omega
theorem ord_high {s t : Int} {j : Nat} (hj : j ≤ 8) : zz (half s j * 2 ^ j + (2 ^ j - 1)) (half t j * 2 ^ j + (2 ^ j - 1)) 8 = low s t j + 4 ^ j - 1 := by
  have := zz_split (half s j * 2 ^ j + (2 ^ j - 1)) (half t j * 2 ^ j + (2 ^ j - 1)) j (8 - j)
  rw [show j + (8 - j) = 8 by omega, zz_high, half_high, half_high] at this
  rw [this, low]; omega
theorem ord_in {s t : Int} {j : Nat} (hj : j ≤ 8) : low s t j ≤ zz s t 8 ∧ zz s t 8 < low s t j + 4 ^ j := by
  have := zz_split s t j (8 - j)
  rw [show j + (8 - j) = 8 by omega] at this
  have hb := zz_bd s t j
  rw [this, low]; omega
theorem low_mod {s t : Int} {j : Nat} : low s t j % 4 ^ j = 0 := by rw [low, Int.mul_comm]; exact Int.mul_emod_left _ _
end Go.Proofs.Ythmpemamagjeeaa
