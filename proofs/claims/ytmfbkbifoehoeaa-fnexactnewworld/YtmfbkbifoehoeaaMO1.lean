/-
  Numbers in z order: how those of one Cell lie, plain arithmetic.
-/
import Derived.Test.YtmfbkbifoehoeaaMX2
namespace Go.Proofs.Ytmfbkbifoehoeaa.M
open Go.RowKit Go.Joins

theorem i64_and1 (n : Int) : bits .and .i64 n 1 = n % 2 := by
  have h1 : (BitVec.ofInt 64 1).toNat = 2 ^ 1 - 1 := by decide
  have key : (BitVec.ofInt 64 n &&& BitVec.ofInt 64 1).toNat = (n % ((2 ^ 64 : Nat) : Int)).toNat % 2 ^ 1 := by
    rw [BitVec.toNat_and, BitVec.toNat_ofInt, h1, Nat.and_two_pow_sub_one_eq_mod]
  show IntKind.i64.wrap ((BitVec.ofInt 64 n &&& BitVec.ofInt 64 1).toNat : Nat) = n % 2
  rw [key, IntKind.wrap_i64]
  omega
theorem i64_or_nat (a b : Nat) (ha : a < 2 ^ 40) (hb : b < 2 ^ 40) : bits .or .i64 (a : Int) (b : Int) = ((a ||| b : Nat) : Int) := by
  have e1 : ((a : Int) % ((2 ^ 64 : Nat) : Int)).toNat = a := by omega
  have e2 : ((b : Int) % ((2 ^ 64 : Nat) : Int)).toNat = b := by omega
  have key : (BitVec.ofInt 64 (a : Int) ||| BitVec.ofInt 64 (b : Int)).toNat = a ||| b := by
    rw [BitVec.toNat_or, BitVec.toNat_ofInt, BitVec.toNat_ofInt, e1, e2]
  have hl : a ||| b < 2 ^ 40 := Nat.or_lt_two_pow ha hb
  show IntKind.i64.wrap ((BitVec.ofInt 64 (a : Int) ||| BitVec.ofInt 64 (b : Int)).toNat : Nat) = _
  rw [key, IntKind.wrap_i64]
  omega
/-- A number below 2 ^ m, and a bit at m: together they are the sum. -/
theorem or_bit {n b : Int} {m : Nat} (hm : m ≤ 20) (h0 : 0 ≤ n) (h1 : n < 2 ^ m) (hb0 : 0 ≤ b) (hb1 : b ≤ 1) : bits .or .i64 n (b * 2 ^ m) = n + b * 2 ^ m := by
  obtain ⟨a, rfl⟩ := Int.eq_ofNat_of_zero_le h0
  obtain ⟨c, rfl⟩ := Int.eq_ofNat_of_zero_le hb0
  have hp : (2 : Int) ^ m = ((2 ^ m : Nat) : Int) := by simp
  have hle : 2 ^ m ≤ 2 ^ 20 := Nat.pow_le_pow_right (by decide) hm
  rw [hp] at h1 ⊢
  have ha : a < 2 ^ m := by omega
  have hc : c * 2 ^ m ≤ 1 * 2 ^ m := Nat.mul_le_mul_right _ (by omega)
  have e : ((c : Int) * ((2 ^ m : Nat) : Int)) = ((c * 2 ^ m : Nat) : Int) := by simp
  rw [e, i64_or_nat _ _ (by omega) (by omega)]
  have := Nat.two_pow_add_eq_or_of_lt ha c
  rw [Nat.or_comm, Nat.mul_comm c, ← this]
  omega

def zz (s t : Int) : Nat → Int
  | 0 => 0
  | k + 1 => zz s t k + 4 ^ k * (2 * (half t k % 2) + half s k % 2)
theorem pow4 (k : Nat) : (1 : Int) ≤ 4 ^ k := by
  induction k with
  | zero => decide
  | succ k ih => rw [Int.pow_succ]; omega
theorem zz_bd (s t : Int) : ∀ k : Nat, 0 ≤ zz s t k ∧ zz s t k < 4 ^ k
  | 0 => by simp [zz]
  | k + 1 => by
    obtain ⟨h1, h2⟩ := zz_bd s t k
    have hp := pow4 k
    have hv : 0 ≤ 2 * (half t k % 2) + half s k % 2 ∧ 2 * (half t k % 2) + half s k % 2 ≤ 3 := by omega
    rw [zz, Int.pow_succ]
    generalize 2 * (half t k % 2) + half s k % 2 = v at hv
    have h3 : 0 ≤ 4 ^ k * v := Int.mul_nonneg (by omega) hv.1
    have h4 : 4 ^ k * v ≤ 4 ^ k * 3 := Int.mul_le_mul_of_nonneg_left hv.2 (by omega)
    omega
theorem pow4_le {k : Nat} (h : k ≤ 9) : (4 : Int) ^ k ≤ 262144 := by
  have : k = 0 ∨ k = 1 ∨ k = 2 ∨ k = 3 ∨ k = 4 ∨ k = 5 ∨ k = 6 ∨ k = 7 ∨ k = 8 ∨ k = 9 := by omega
  rcases this with rfl | rfl | rfl | rfl | rfl | rfl | rfl | rfl | rfl | rfl <;> decide
theorem half8 {s : Int} (h0 : 0 ≤ s) (h1 : s ≤ 255) : half s 8 = 0 := by simp only [half]; omega
theorem zz9 {s t : Int} (h : spB s t = true) : zz s t 9 = zz s t 8 := by
  obtain ⟨a, b, c, d⟩ := spB_t.mp h
  rw [zz, half8 a b, half8 c d]; simp
theorem half_nn {s : Int} (h : 0 ≤ s) : ∀ k, 0 ≤ half s k
  | 0 => h
  | k + 1 => by have := half_nn h k; rw [half]; omega
theorem pow24 (k : Nat) : (2 : Int) ^ (2 * k) = 4 ^ k := by
  rw [Int.pow_mul]; rfl
/-- The spec's step. -/
theorem or_step {s t : Int} {k : Nat} (hk : k < 8) : bits .or .i64 (bits .or .i64 (zz s t k) (half s k % 2 * 2 ^ (2 * k))) (half t k % 2 * 2 ^ (2 * k + 1)) = zz s t (k + 1) := by
  obtain ⟨h1, h2⟩ := zz_bd s t k
  have e4 := pow24 k
  have hb : 0 ≤ half s k % 2 ∧ half s k % 2 ≤ 1 := by omega
  have hc : 0 ≤ half t k % 2 ∧ half t k % 2 ≤ 1 := by omega
  rw [zz]
  generalize half s k % 2 = b at hb
  generalize half t k % 2 = c at hc
  rw [or_bit (by omega) h1 (by rw [e4]; exact h2) hb.1 hb.2]
  have h3 : 0 ≤ b * 2 ^ (2 * k) := Int.mul_nonneg hb.1 (by rw [e4]; have := pow4 k; omega)
  have h4 : b * 2 ^ (2 * k) ≤ 1 * 2 ^ (2 * k) := Int.mul_le_mul_of_nonneg_right hb.2 (by rw [e4]; have := pow4 k; omega)
  rw [or_bit (by omega) (by omega) (by rw [Int.pow_succ, e4]; rw [e4] at h4; omega) hc.1 hc.2, Int.pow_succ, e4]
  rw [Int.mul_add, Int.mul_comm b, Int.mul_comm c, ← Int.mul_assoc]
  have e5 : (4 : Int) ^ k * 2 * c = 4 ^ k * 2 * c := rfl
  omega
end Go.Proofs.Ytmfbkbifoehoeaa.M
namespace Go.Proofs.Ytmfbkbifoehoeaa.M
open Go.RowKit Go.Joins

theorem bit_w {b : Int} {m : Nat} (hm : m ≤ 20) (h0 : 0 ≤ b) (h1 : b ≤ 1) : wrap64 (b * 2 ^ m) = b * 2 ^ m := by
  have hp : (2 : Int) ^ m = ((2 ^ m : Nat) : Int) := by simp
  have hle : 2 ^ m ≤ 2 ^ 20 := Nat.pow_le_pow_right (by decide) hm
  rw [hp]
  generalize 2 ^ m = P at hle
  have h3 : 0 ≤ b * (P : Int) := Int.mul_nonneg h0 (by omega)
  have h4 : b * (P : Int) ≤ 1 * (P : Int) := Int.mul_le_mul_of_nonneg_right h1 (by omega)
  exact w64 (by omega) (by omega)
def plI (x y : Int) : Int := 2 * (y % 2) + x % 2
def ordI (s t : Int) : Int := if spB s t then zz s t 8 else -1

theorem St.add {w W : World} {v : Nat} {vs : List Value} {t : TypeId} {l : List (Nat × List Value)} (h : St w W l) (hv : W.heap[v]? = some (.cells vs.toArray t)) : St w W ((v, vs) :: l) :=
  ⟨h.bel, ⟨(Array.getElem?_eq_some_iff.1 hv).1, fun o => by simp [World.frozen?, hv], hasAt_of _ _ (fun j u hj => by simp [World.cell?, hv]; simpa using hj)⟩, h.has⟩

end Go.Proofs.Ytmfbkbifoehoeaa.M
namespace Go.Proofs.Ytmfbkbifoehoeaa.M
open Go.RowKit Go.Joins
attribute [local go_sem] Oper.semAt_some

theorem cell8_ok {s t : Int} (h : spB s t = true) : cellB 8 s t = true := by
  obtain ⟨a, b, c, d⟩ := spB_t.mp h
  exact cellB_t.mpr ⟨by decide, by decide, a, by show s < 256; omega, c, by show t < 256; omega⟩

end Go.Proofs.Ytmfbkbifoehoeaa.M
namespace Go.Proofs.Ytmfbkbifoehoeaa.M
open Go.RowKit Go.Joins

theorem half_half (s : Int) (j : Nat) : ∀ m, half (half s j) m = half s (j + m)
  | 0 => rfl
  | m + 1 => by rw [half, half_half s j m]; rfl
theorem zz_split (s t : Int) (j : Nat) : ∀ m, zz s t (j + m) = zz s t j + 4 ^ j * zz (half s j) (half t j) m
  | 0 => by simp [zz]
  | m + 1 => by
    rw [← Nat.add_assoc, zz, zz_split s t j m, zz, half_half, half_half]
    generalize (2 * (half t (j + m) % 2) + half s (j + m) % 2) = v
    rw [Int.mul_add, Int.pow_add, Int.mul_assoc, Int.add_assoc]
theorem zz_front (s t : Int) (m : Nat) : zz s t (m + 1) = 2 * (t % 2) + s % 2 + 4 * zz (s / 2) (t / 2) m := by
  have := zz_split s t 1 m
  rw [Nat.add_comm] at this
  rw [this]
  simp [zz, half]
theorem zz_low (a b : Int) : ∀ j : Nat, zz (a * 2 ^ j) (b * 2 ^ j) j = 0
  | 0 => rfl
  | j + 1 => by
    have e1 : a * 2 ^ (j + 1) = 2 * (a * 2 ^ j) := by rw [Int.pow_succ, ← Int.mul_assoc, Int.mul_comm]
    have e2 : b * 2 ^ (j + 1) = 2 * (b * 2 ^ j) := by rw [Int.pow_succ, ← Int.mul_assoc, Int.mul_comm]
    have ih := zz_low a b j
    rw [e1, e2, zz_front]
    generalize a * 2 ^ j = A at ih ⊢
    generalize b * 2 ^ j = B at ih ⊢
    rw [show 2 * A / 2 = A by omega, show 2 * B / 2 = B by omega, ih]
    omega
theorem zz_high (a b : Int) : ∀ j : Nat, zz (a * 2 ^ j + (2 ^ j - 1)) (b * 2 ^ j + (2 ^ j - 1)) j = 4 ^ j - 1
  | 0 => rfl
  | j + 1 => by
    have e1 : a * 2 ^ (j + 1) = 2 * (a * 2 ^ j) := by rw [Int.pow_succ, ← Int.mul_assoc, Int.mul_comm]
    have e2 : b * 2 ^ (j + 1) = 2 * (b * 2 ^ j) := by rw [Int.pow_succ, ← Int.mul_assoc, Int.mul_comm]
    have ih := zz_high a b j
    rw [zz_front, e1, e2, Int.pow_succ 2, Int.pow_succ 4]
    generalize a * 2 ^ j = A at ih ⊢
    generalize b * 2 ^ j = B at ih ⊢
    generalize (2 : Int) ^ j = D at ih ⊢
    generalize (4 : Int) ^ j = F at ih ⊢
    rw [show (2 * A + (D * 2 - 1)) / 2 = A + (D - 1) by omega, show (2 * B + (D * 2 - 1)) / 2 = B + (D - 1) by omega, ih]
    omega
theorem half_low (a : Int) : ∀ j : Nat, half (a * 2 ^ j) j = a
  | j => by rw [half_eq, Int.mul_ediv_cancel _ (Int.ne_of_gt (Int.pow_pos (by decide)))]
theorem half_high (a : Int) (j : Nat) : half (a * 2 ^ j + (2 ^ j - 1)) j = a := by
  have hp : (0 : Int) < 2 ^ j := Int.pow_pos (by decide)
  rw [half_eq, Int.add_comm, Int.add_mul_ediv_right _ _ (by omega), Int.ediv_eq_zero_of_lt (by omega) (by omega), Int.zero_add]
theorem zz_inj : ∀ (k : Nat) (s t s' t' : Int), 0 ≤ s → s < 2 ^ k → 0 ≤ t → t < 2 ^ k → 0 ≤ s' → s' < 2 ^ k → 0 ≤ t' → t' < 2 ^ k → zz s t k = zz s' t' k → s = s' ∧ t = t'
  | 0, s, t, s', t', a, b, c, d, e, f, g, h, _ => by simp at b d f h; omega
  | k + 1, s, t, s', t', a, b, c, d, e, f, g, h, hz => by
    rw [zz_front, zz_front] at hz
    rw [Int.pow_succ] at b d f h
    have ih := zz_inj k (s / 2) (t / 2) (s' / 2) (t' / 2) (by omega) (by omega) (by omega) (by omega) (by omega) (by omega) (by omega) (by omega) (by omega)
    omega
/-- The number of the least Spot of the Cell of side 2 ^ j round (s, t). -/
def low (s t : Int) (j : Nat) : Int := 4 ^ j * zz (half s j) (half t j) (8 - j)
theorem ord_low {s t : Int} {j : Nat} (hj : j ≤ 8) : zz (half s j * 2 ^ j) (half t j * 2 ^ j) 8 = low s t j := by
  have := zz_split (half s j * 2 ^ j) (half t j * 2 ^ j) j (8 - j)
  rw [show j + (8 - j) = 8 by omega, zz_low, half_low, half_low] at this
  rw [this, low]; omega
theorem ord_high {s t : Int} {j : Nat} (hj : j ≤ 8) : zz (half s j * 2 ^ j + (2 ^ j - 1)) (half t j * 2 ^ j + (2 ^ j - 1)) 8 = low s t j + 4 ^ j - 1 := by
  have := zz_split (half s j * 2 ^ j + (2 ^ j - 1)) (half t j * 2 ^ j + (2 ^ j - 1)) j (8 - j)
  rw [show j + (8 - j) = 8 by omega, zz_high, half_high, half_high] at this
  rw [this, low]; omega
theorem ord_in {s t : Int} {j : Nat} (hj : j ≤ 8) : low s t j ≤ zz s t 8 ∧ zz s t 8 < low s t j + 4 ^ j := by
  have := zz_split s t j (8 - j)
  rw [show j + (8 - j) = 8 by omega] at this
  have hb := zz_bd s t j
  rw [this, low]; omega
theorem low_mod {s t : Int} {j : Nat} : low s t j % 4 ^ j = 0 := by rw [low, Int.mul_comm]; exact Int.mul_emod_left _ _
end Go.Proofs.Ytmfbkbifoehoeaa.M
