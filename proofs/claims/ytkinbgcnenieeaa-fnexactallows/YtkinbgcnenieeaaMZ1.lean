/-
  Numbers in z order: plain arithmetic.
-/
import Derived.Test.YtkinbgcnenieeaaMX2
namespace Go.Proofs.Ytkinbgcnenieeaa.M
open Go.RowKit Go.Joins

theorem i64_and1 (n : Int) : bits .and .i64 n 1 = n % 2 := by
  have h1 : (BitVec.ofInt 64 1).toNat = 2 ^ 1 - 1 := by decide
  have key : (BitVec.ofInt 64 n &&& BitVec.ofInt 64 1).toNat = (n % ((2 ^ 64 : Nat) : Int)).toNat % 2 ^ 1 := by
    rw [BitVec.toNat_and, BitVec.toNat_ofInt, h1, Nat.and_two_pow_sub_one_eq_mod]
  show IntKind.i64.wrap ((BitVec.ofInt 64 n &&& BitVec.ofInt 64 1).toNat : Nat) = n % 2
  rw [key, IntKind.wrap_i64]
  omega
theorem i64_or_nat (a b : Nat) (ha : a < 2 ^ 40) (hb : b < 2 ^ 40) : bits .or .i64 (a : Int) (b : Int) = ((a ||| b : Nat) : Int) := by
  have e1 : ((a : Int) % ((2 ^ 64 : Nat) : Int)).toNat = a := by omega
  have e2 : ((b : Int) % ((2 ^ 64 : Nat) : Int)).toNat = b := by omega
  have key : (BitVec.ofInt 64 (a : Int) ||| BitVec.ofInt 64 (b : Int)).toNat = a ||| b := by
    rw [BitVec.toNat_or, BitVec.toNat_ofInt, BitVec.toNat_ofInt, e1, e2]
  have hl : a ||| b < 2 ^ 40 := Nat.or_lt_two_pow ha hb
  show IntKind.i64.wrap ((BitVec.ofInt 64 (a : Int) ||| BitVec.ofInt 64 (b : Int)).toNat : Nat) = _
  rw [key, IntKind.wrap_i64]
  omega
/-- A number below 2 ^ m, and a bit at m: together they are the sum. -/
theorem or_bit {n b : Int} {m : Nat} (hm : m ≤ 20) (h0 : 0 ≤ n) (h1 : n < 2 ^ m) (hb0 : 0 ≤ b) (hb1 : b ≤ 1) : bits .or .i64 n (b * 2 ^ m) = n + b * 2 ^ m := by
  obtain ⟨a, rfl⟩ := Int.eq_ofNat_of_zero_le h0
  obtain ⟨c, rfl⟩ := Int.eq_ofNat_of_zero_le hb0
  have hp : (2 : Int) ^ m = ((2 ^ m : Nat) : Int) := by simp
  have hle : 2 ^ m ≤ 2 ^ 20 := Nat.pow_le_pow_right (by decide) hm
  rw [hp] at h1 ⊢
  have ha : a < 2 ^ m := by omega
  have hc : c * 2 ^ m ≤ 1 * 2 ^ m := Nat.mul_le_mul_right _ (by omega)
  have e : ((c : Int) * ((2 ^ m : Nat) : Int)) = ((c * 2 ^ m : Nat) : Int) := by simp
  rw [e, i64_or_nat _ _ (by omega) (by omega)]
  have := Nat.two_pow_add_eq_or_of_lt ha c
  rw [Nat.or_comm, Nat.mul_comm c, ← this]
  omega

def zz (s t : Int) : Nat → Int
  | 0 => 0
  | k + 1 => zz s t k + 4 ^ k * (2 * (half t k % 2) + half s k % 2)
theorem pow4 (k : Nat) : (1 : Int) ≤ 4 ^ k := by
  induction k with
  | zero => decide
  | succ k ih => rw [Int.pow_succ]; omega
theorem zz_bd (s t : Int) : ∀ k : Nat, 0 ≤ zz s t k ∧ zz s t k < 4 ^ k
  | 0 => by simp [zz]
  | k + 1 => by
    obtain ⟨h1, h2⟩ := zz_bd s t k
    have hp := pow4 k
    have hv : 0 ≤ 2 * (half t k % 2) + half s k % 2 ∧ 2 * (half t k % 2) + half s k % 2 ≤ 3 := by omega
    rw [zz, Int.pow_succ]
    generalize 2 * (half t k % 2) + half s k % 2 = v at hv
    have h3 : 0 ≤ 4 ^ k * v := Int.mul_nonneg (by omega) hv.1
    have h4 : 4 ^ k * v ≤ 4 ^ k * 3 := Int.mul_le_mul_of_nonneg_left hv.2 (by omega)
    omega
theorem pow4_le {k : Nat} (h : k ≤ 9) : (4 : Int) ^ k ≤ 262144 := by
  have : k = 0 ∨ k = 1 ∨ k = 2 ∨ k = 3 ∨ k = 4 ∨ k = 5 ∨ k = 6 ∨ k = 7 ∨ k = 8 ∨ k = 9 := by omega
  rcases this with rfl | rfl | rfl | rfl | rfl | rfl | rfl | rfl | rfl | rfl <;> decide
theorem half8 {s : Int} (h0 : 0 ≤ s) (h1 : s ≤ 255) : half s 8 = 0 := by simp only [half]; omega
theorem zz9 {s t : Int} (h : spB s t = true) : zz s t 9 = zz s t 8 := by
  obtain ⟨a, b, c, d⟩ := spB_t.mp h
  rw [zz, half8 a b, half8 c d]; simp
theorem half_nn {s : Int} (h : 0 ≤ s) : ∀ k, 0 ≤ half s k
  | 0 => h
  | k + 1 => by have := half_nn h k; rw [half]; omega
theorem pow24 (k : Nat) : (2 : Int) ^ (2 * k) = 4 ^ k := by
  rw [Int.pow_mul]; rfl
/-- The spec's step. -/
theorem or_step {s t : Int} {k : Nat} (hk : k < 8) : bits .or .i64 (bits .or .i64 (zz s t k) (half s k % 2 * 2 ^ (2 * k))) (half t k % 2 * 2 ^ (2 * k + 1)) = zz s t (k + 1) := by
  obtain ⟨h1, h2⟩ := zz_bd s t k
  have e4 := pow24 k
  have hb : 0 ≤ half s k % 2 ∧ half s k % 2 ≤ 1 := by omega
  have hc : 0 ≤ half t k % 2 ∧ half t k % 2 ≤ 1 := by omega
  rw [zz]
  generalize half s k % 2 = b at hb
  generalize half t k % 2 = c at hc
  rw [or_bit (by omega) h1 (by rw [e4]; exact h2) hb.1 hb.2]
  have h3 : 0 ≤ b * 2 ^ (2 * k) := Int.mul_nonneg hb.1 (by rw [e4]; have := pow4 k; omega)
  have h4 : b * 2 ^ (2 * k) ≤ 1 * 2 ^ (2 * k) := Int.mul_le_mul_of_nonneg_right hb.2 (by rw [e4]; have := pow4 k; omega)
  rw [or_bit (by omega) (by omega) (by rw [Int.pow_succ, e4]; rw [e4] at h4; omega) hc.1 hc.2, Int.pow_succ, e4]
  rw [Int.mul_add, Int.mul_comm b, Int.mul_comm c, ← Int.mul_assoc]
  have e5 : (4 : Int) ^ k * 2 * c = 4 ^ k * 2 * c := rfl
  omega
end Go.Proofs.Ytkinbgcnenieeaa.M
