/-
  Cells as stretches of the z order: plain arithmetic.
-/
import Derived.Test.YthmpemamagjeeaaO1
import Derived.Test.YthmpemamagjeeaaL4
namespace Go.Proofs.Ythmpemamagjeeaa

theorem pw4 (k : Nat) : (1 : Int) ≤ 4 ^ k := pow4 k
def T3.sz (c : T3) : Int := 4 ^ (8 - c.l).toNat
def T3.lo (c : T3) : Int := c.sz * zz c.x c.y c.l.toNat
def T3.hi (c : T3) : Int := c.lo + c.sz
def T3.q (c : T3) (i : Nat) : T3 := ⟨c.l + 1, 2 * c.x + ((i % 2 : Nat) : Int), 2 * c.y + ((i / 2 : Nat) : Int)⟩
def T3.up (c : T3) : T3 := ⟨c.l - 1, c.x / 2, c.y / 2⟩
theorem T3.sz_pos (c : T3) : 1 ≤ c.sz := pw4 _
theorem T3.lt (c : T3) : c.lo < c.hi := by have := c.sz_pos; unfold T3.hi; omega
theorem ok_iff {c : T3} : c.ok = true ↔ (0 ≤ c.l ∧ c.l ≤ 8 ∧ 0 ≤ c.x ∧ c.x < 2 ^ c.l.toNat ∧ 0 ≤ c.y ∧ c.y < 2 ^ c.l.toNat) := cellB_t

/-- A right Cell by natural numbers. -/
theorem ok_nat {c : T3} (h : c.ok = true) : ∃ n : Nat, n ≤ 8 ∧ c.l = n ∧ c.l.toNat = n ∧ (8 - c.l).toNat = 8 - n ∧ 0 ≤ c.x ∧ c.x < 2 ^ n ∧ 0 ≤ c.y ∧ c.y < 2 ^ n := by
  obtain ⟨h0, h8, hx, hx1, hy, hy1⟩ := ok_iff.mp h
  exact ⟨c.l.toNat, by omega, by omega, rfl, by omega, hx, hx1, hy, hy1⟩
theorem sz_of {c : T3} {n : Nat} (h : (8 - c.l).toNat = 8 - n) : c.sz = 4 ^ (8 - n) := by unfold T3.sz; rw [h]

theorem q_ok {c : T3} (h : c.ok = true) (hl : c.l < 8) {i : Nat} (hi : i < 4) : (c.q i).ok = true := by
  obtain ⟨h0, h8, hx, hx1, hy, hy1⟩ := ok_iff.mp h
  have e : (c.l + 1).toNat = c.l.toNat + 1 := by omega
  have a : i % 2 = 0 ∨ i % 2 = 1 := by omega
  have b : i / 2 = 0 ∨ i / 2 = 1 := by omega
  refine ok_iff.mpr ?_
  simp only [T3.q]
  rw [e, Int.pow_succ]
  omega
theorem q_sz {c : T3} (h : c.ok = true) (hl : c.l < 8) (i : Nat) : c.sz = 4 * (c.q i).sz := by
  obtain ⟨h0, h8, _⟩ := ok_iff.mp h
  have e : (c.q i).l = c.l + 1 := rfl
  unfold T3.sz
  rw [e, show (8 - c.l).toNat = (8 - (c.l + 1)).toNat + 1 by omega, Int.pow_succ]
  omega
theorem q_lo {c : T3} (h : c.ok = true) (hl : c.l < 8) {i : Nat} (hi : i < 4) : (c.q i).lo = c.lo + i * (c.q i).sz := by
  obtain ⟨h0, h8, hx, hx1, hy, hy1⟩ := ok_iff.mp h
  have hs := q_sz h hl i
  unfold T3.lo
  rw [hs]
  generalize hS : (c.q i).sz = S
  simp only [T3.q]
  rw [show (c.l + 1).toNat = c.l.toNat + 1 by omega, zz_front]
  have e1 : (2 * c.x + ((i % 2 : Nat) : Int)) / 2 = c.x := by omega
  have e2 : (2 * c.y + ((i / 2 : Nat) : Int)) / 2 = c.y := by omega
  have e3 : 2 * ((2 * c.y + ((i / 2 : Nat) : Int)) % 2) + (2 * c.x + ((i % 2 : Nat) : Int)) % 2 = i := by omega
  rw [e1, e2, e3, Int.mul_add, Int.mul_comm S i, ← Int.mul_assoc, Int.mul_comm S 4]
  omega
theorem q_hi {c : T3} (h : c.ok = true) (hl : c.l < 8) {i : Nat} (hi : i < 4) : (c.q i).hi = c.lo + (i + 1) * (c.q i).sz := by
  unfold T3.hi
  rw [q_lo h hl hi, Int.add_mul]; omega
theorem up_ok' {c : T3} (h : c.ok = true) (hl : 0 < c.l) : c.up.ok = true := up_ok h (by omega)
theorem up_q {c : T3} (hl : 0 < c.l) : c.up.q (2 * (c.y % 2) + c.x % 2).toNat = c := by
  obtain ⟨l, x, y⟩ := c
  simp only [T3.q, T3.up, T3.mk.injEq]
  omega
theorem q_up {c : T3} {i : Nat} (hi : i < 4) : (c.q i).up = c := by
  obtain ⟨l, x, y⟩ := c
  simp only [T3.q, T3.up, T3.mk.injEq]
  omega

/-- Of two right Cells, the one of the greater level lies in just one of the other's level. -/
theorem anc {a b : T3} (ha : a.ok = true) (hb : b.ok = true) (hl : b.l ≤ a.l) :
    ∃ Z : Int, b.sz * Z ≤ a.lo ∧ a.hi ≤ b.sz * (Z + 1) ∧ (Z = zz b.x b.y b.l.toNat ↔ insT a b = true) := by
  obtain ⟨n, n8, a1, a2, a3, hx, hx1, hy, hy1⟩ := ok_nat ha
  obtain ⟨m, m8, b1, b2, b3, kx, kx1, ky, ky1⟩ := ok_nat hb
  have hmn : m ≤ n := by omega
  have sa := sz_of a3
  have sb := sz_of b3
  refine ⟨zz (half a.x (n - m)) (half a.y (n - m)) m, ?_, ?_, ?_⟩
  · have hs := zz_split a.x a.y (n - m) m
    rw [show n - m + m = n by omega] at hs
    have hz := zz_bd a.x a.y (n - m)
    unfold T3.lo
    rw [a2, hs, sa, sb, show 8 - m = (8 - n) + (n - m) by omega, Int.pow_add, Int.mul_add, ← Int.mul_assoc]
    have := Int.mul_nonneg (Int.le_trans (by decide) (pw4 (8 - n))) hz.1
    omega
  · have hs := zz_split a.x a.y (n - m) m
    rw [show n - m + m = n by omega] at hs
    have hz := zz_bd a.x a.y (n - m)
    unfold T3.hi T3.lo
    rw [a2, hs, sa, sb, show 8 - m = (8 - n) + (n - m) by omega, Int.pow_add, Int.mul_add, Int.mul_add, ← Int.mul_assoc, Int.mul_one]
    have hp : (0 : Int) ≤ 4 ^ (8 - n) := Int.le_trans (by decide) (pw4 (8 - n))
    have := Int.mul_le_mul_of_nonneg_left (show zz a.x a.y (n - m) + 1 ≤ 4 ^ (n - m) by omega) hp
    rw [Int.mul_add, Int.mul_one] at this
    omega
  · unfold insT
    rw [insB_eq]
    have e0 : (cellB a.l a.x a.y && cellB b.l b.x b.y) = true := by
      have h1 : cellB a.l a.x a.y = true := ha
      have h2 : cellB b.l b.x b.y = true := hb
      rw [h1, h2]; rfl
    rw [e0, Bool.true_and]
    unfold lInB
    rw [decide_eq_true_iff, b2, show (a.l - b.l).toNat = n - m by omega, ← half_eq, ← half_eq]
    constructor
    · intro hZ
      have hX : half a.x (n - m) < 2 ^ m := by
        rw [half_eq]
        have : a.x < 2 ^ m * 2 ^ (n - m) := by rw [← Int.pow_add, show m + (n - m) = n by omega]; exact hx1
        exact Int.ediv_lt_of_lt_mul (Int.pow_pos (by decide)) this
      have hY : half a.y (n - m) < 2 ^ m := by
        rw [half_eq]
        have : a.y < 2 ^ m * 2 ^ (n - m) := by rw [← Int.pow_add, show m + (n - m) = n by omega]; exact hy1
        exact Int.ediv_lt_of_lt_mul (Int.pow_pos (by decide)) this
      have := zz_inj m _ _ _ _ (half_nn hx _) hX (half_nn hy _) hY kx kx1 ky ky1 hZ
      exact ⟨hl, this.1, this.2⟩
    · rintro ⟨_, h1, h2⟩
      rw [h1, h2]
theorem mul_gap {s u v : Int} (hs : 1 ≤ s) (h : u < v) : s * (u + 1) ≤ s * v := Int.mul_le_mul_of_nonneg_left (by omega) (by omega)
theorem sz_le {a b : T3} (ha : a.ok = true) (hb : b.ok = true) : a.sz ≤ b.sz ↔ b.l ≤ a.l := by
  obtain ⟨n, n8, a1, a2, a3, _⟩ := ok_nat ha
  obtain ⟨m, m8, b1, b2, b3, _⟩ := ok_nat hb
  rw [sz_of a3, sz_of b3]
  constructor
  · intro h
    rcases Nat.lt_or_ge n m with hlt | hge
    · have : (4 : Int) ^ (8 - n) = 4 ^ (8 - m) * 4 ^ (m - n) := by rw [← Int.pow_add]; congr 1; omega
      rw [this] at h
      have h4 : (4 : Int) ≤ 4 ^ (m - n) := by
        rw [show m - n = (m - n - 1) + 1 by omega, Int.pow_succ]
        have := pw4 (m - n - 1); omega
      have hp := pw4 (8 - m)
      have := Int.mul_le_mul_of_nonneg_left h4 (show (0 : Int) ≤ 4 ^ (8 - m) by omega)
      omega
    · omega
  · intro h
    rw [show 8 - m = (8 - n) + (n - m) by omega, Int.pow_add]
    have := Int.mul_le_mul_of_nonneg_left (pw4 (n - m)) (show (0 : Int) ≤ 4 ^ (8 - n) by have := pw4 (8 - n); omega)
    omega
theorem ins_iff {a b : T3} (ha : a.ok = true) (hb : b.ok = true) : insT a b = true ↔ (b.lo ≤ a.lo ∧ a.hi ≤ b.hi) := by
  constructor
  · intro h
    have hl : b.l ≤ a.l := by
      unfold insT at h
      rw [insB_eq, Bool.and_eq_true] at h
      exact (decide_eq_true_iff.mp h.2).1
    obtain ⟨Z, h1, h2, h3⟩ := anc ha hb hl
    have hZ := h3.mpr h
    subst hZ
    rw [Int.mul_add, Int.mul_one] at h2
    unfold T3.hi T3.lo at *
    exact ⟨h1, h2⟩
  · rintro ⟨h1, h2⟩
    have hs : a.sz ≤ b.sz := by unfold T3.hi at h2; omega
    have hl := (sz_le ha hb).mp hs
    obtain ⟨Z, k1, k2, k3⟩ := anc ha hb hl
    refine k3.mp ?_
    have hp := b.sz_pos
    have := a.lt
    rcases Int.lt_trichotomy Z (zz b.x b.y b.l.toNat) with h | h | h
    · have g := mul_gap hp h
      have : b.lo = b.sz * zz b.x b.y b.l.toNat := rfl
      omega
    · exact h
    · have g := mul_gap hp h
      rw [Int.mul_add, Int.mul_one] at g
      have : b.lo = b.sz * zz b.x b.y b.l.toNat := rfl
      have ap := a.sz_pos
      unfold T3.hi at h2
      omega
theorem lam {a b : T3} (ha : a.ok = true) (hb : b.ok = true) : a.hi ≤ b.lo ∨ b.hi ≤ a.lo ∨ insT a b = true ∨ insT b a = true := by
  have key : ∀ {a b : T3}, a.ok = true → b.ok = true → b.l ≤ a.l → a.hi ≤ b.lo ∨ b.hi ≤ a.lo ∨ insT a b = true := by
    intro a b ha hb hl
    obtain ⟨Z, k1, k2, k3⟩ := anc ha hb hl
    have hp := b.sz_pos
    have hd : b.lo = b.sz * zz b.x b.y b.l.toNat := rfl
    rcases Int.lt_trichotomy Z (zz b.x b.y b.l.toNat) with h | h | h
    · have g := mul_gap hp h
      left; omega
    · exact .inr (.inr (k3.mp h))
    · have g := mul_gap hp h
      rw [Int.mul_add, Int.mul_one] at g
      right; left; unfold T3.hi; omega
  rcases Int.le_total b.l a.l with hl | hl
  · rcases key ha hb hl with h | h | h
    · exact .inl h
    · exact .inr (.inl h)
    · exact .inr (.inr (.inl h))
  · rcases key hb ha hl with h | h | h
    · exact .inr (.inl h)
    · exact .inl h
    · exact .inr (.inr (.inr h))
theorem eq_of {a b : T3} (ha : a.ok = true) (hb : b.ok = true) (h1 : a.lo = b.lo) (h2 : a.hi = b.hi) : a = b := by
  have i1 := (ins_iff ha hb).mpr ⟨by omega, by omega⟩
  have i2 := (ins_iff hb ha).mpr ⟨by omega, by omega⟩
  unfold insT at i1 i2
  rw [insB_eq, Bool.and_eq_true] at i1 i2
  obtain ⟨j1, j2, j3⟩ := decide_eq_true_iff.mp i1.2
  obtain ⟨k1, k2, k3⟩ := decide_eq_true_iff.mp i2.2
  have hl : a.l = b.l := by omega
  obtain ⟨l, x, y⟩ := a
  obtain ⟨l', x', y'⟩ := b
  simp only at hl
  subst hl
  simp at j2 j3
  rw [j2, j3]
end Go.Proofs.Ythmpemamagjeeaa
