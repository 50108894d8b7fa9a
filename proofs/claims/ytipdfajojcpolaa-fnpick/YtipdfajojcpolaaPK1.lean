/-
  Ways to the right that are crossed, with their signs; two edges that have no place in common; sums around a shape.
-/
import Derived.Test.YtipdfajojcpolaaN1
namespace Go.Proofs.Ytipdfajojcpolaa
def kx (u v : T2) : Int := u.x * v.y - u.y * v.x
def df (a s : T2) : T2 := ⟨a.x - s.x, a.y - s.y⟩
/-- Crossed from below to above, or from above to below. -/
def chN (a b k : Int) : Int := if a < 0 ∧ 0 ≤ b ∧ 0 < k then 1 else if b < 0 ∧ 0 ≤ a ∧ k < 0 then -1 else 0
def chi (u v : T2) : Int := chN u.y v.y (kx u v)
theorem ch_nn {a b k : Int} (ha : a < 0) (hb : b < 0) : chN a b k = 0 := by unfold chN; rw [if_neg (by omega), if_neg (by omega)]
theorem ch_pp {a b k : Int} (ha : 0 ≤ a) (hb : 0 ≤ b) : chN a b k = 0 := by unfold chN; rw [if_neg (by omega), if_neg (by omega)]
theorem ch_up {a b k : Int} (ha : a < 0) (hb : 0 ≤ b) : chN a b k = if 0 < k then 1 else 0 := by
  unfold chN
  by_cases h : 0 < k
  · rw [if_pos ⟨ha, hb, h⟩, if_pos h]
  · rw [if_neg (by omega), if_neg (by omega), if_neg h]
theorem ch_dn {a b k : Int} (ha : 0 ≤ a) (hb : b < 0) : chN a b k = if k < 0 then -1 else 0 := by
  unfold chN
  rw [if_neg (by omega)]
  by_cases h : k < 0
  · rw [if_pos ⟨hb, ha, h⟩, if_pos h]
  · rw [if_neg (by omega), if_neg h]
theorem ch_0 (a b : Int) : chN a b 0 = 0 := by unfold chN; rw [if_neg (by omega), if_neg (by omega)]
theorem pos_of {a k s : Int} (ha : 0 < a) (h : k * a = s) (hs : 0 ≤ s) : 0 ≤ k := by
  rcases Int.lt_or_le k 0 with h1 | h1
  · have := Int.mul_neg_of_neg_of_pos h1 ha; omega
  · exact h1
theorem neg_of {a k s : Int} (ha : 0 < a) (h : k * a = s) (hs : s ≤ 0) : k ≤ 0 := by
  rcases Int.lt_or_le 0 k with h1 | h1
  · have := Int.mul_pos h1 ha; omega
  · exact h1
/-- All around are not to the right, or all are not to the left, only where all are on one line. -/
structure Out (k1 k2 k3 k4 : Int) : Prop where
  l : 0 ≤ k1 → 0 ≤ k2 → 0 ≤ k3 → 0 ≤ k4 → k1 = 0 ∧ k2 = 0 ∧ k3 = 0 ∧ k4 = 0
  r : k1 ≤ 0 → k2 ≤ 0 → k3 ≤ 0 → k4 ≤ 0 → k1 = 0 ∧ k2 = 0 ∧ k3 = 0 ∧ k4 = 0
theorem Out.rot {k1 k2 k3 k4 : Int} (h : Out k1 k2 k3 k4) : Out k2 k3 k4 k1 :=
  ⟨fun a b c d => by have := h.l d a b c; omega, fun a b c d => by have := h.r d a b c; omega⟩
structure Rel (a b c d k1 k2 k3 k4 : Int) : Prop where
  y : a + c = b + d
  r1 : k2 * (b - a) = b * k3 + c * k1
  r2 : k4 * (b - a) = -(a * k3 + d * k1)
  r3 : k3 * (c - b) = c * k4 + d * k2
  r4 : k1 * (c - b) = -(b * k4 + a * k2)
theorem Rel.rot {a b c d k1 k2 k3 k4 : Int} (h : Rel a b c d k1 k2 k3 k4) : Rel b c d a k2 k3 k4 k1 := by
  obtain ⟨y, r1, r2, r3, r4⟩ := h
  refine ⟨by omega, r3, r4, ?_, ?_⟩
  · have e : d - c = -(b - a) := by omega
    rw [e, Int.mul_neg, r2]; omega
  · have e : d - c = -(b - a) := by omega
    rw [e, Int.mul_neg, r1]; omega
theorem cell1 {a b c d k1 k2 k3 k4 : Int} (h : Rel a b c d k1 k2 k3 k4) (o : Out k1 k2 k3 k4) (ha : a < 0) (hb : 0 ≤ b) (hc : 0 ≤ c) (hd : d < 0) : 0 < k1 ↔ k3 < 0 := by
  have p : 0 < b - a := by omega
  constructor
  · intro h1
    rcases Int.lt_or_le k3 0 with h3 | h3
    · exact h3
    · have t1 := Int.mul_nonneg hb h3
      have t2 := Int.mul_nonneg hc (Int.le_of_lt h1)
      have t3 := Int.mul_nonpos_of_nonpos_of_nonneg (Int.le_of_lt ha) h3
      have t4 := Int.mul_nonpos_of_nonpos_of_nonneg (Int.le_of_lt hd) (Int.le_of_lt h1)
      have := o.l (by omega) (pos_of p h.r1 (by omega)) h3 (pos_of p h.r2 (by omega))
      omega
  · intro h3
    rcases Int.lt_or_le 0 k1 with h1 | h1
    · exact h1
    · have t1 := Int.mul_nonpos_of_nonneg_of_nonpos hb (Int.le_of_lt h3)
      have t2 := Int.mul_nonpos_of_nonneg_of_nonpos hc h1
      have t3 := Int.mul_nonneg_of_nonpos_of_nonpos (Int.le_of_lt ha) (Int.le_of_lt h3)
      have t4 := Int.mul_nonneg_of_nonpos_of_nonpos (Int.le_of_lt hd) h1
      have := o.r h1 (neg_of p h.r1 (by omega)) (by omega) (neg_of p h.r2 (by omega))
      omega
theorem cell2 {a b c d k1 k2 k3 k4 : Int} (h : Rel a b c d k1 k2 k3 k4) (o : Out k1 k2 k3 k4) (ha : a < 0) (hb : 0 ≤ b) (hd : 0 ≤ d) : 0 < k1 ↔ k4 < 0 := by
  have p : 0 < -a := by omega
  have y := h.y
  have e2 : k2 * -a = b * k4 + k1 * (c - b) := by have := h.r4; have e : k2 * -a = -(a * k2) := by grind
                                                  omega
  have e3 : k3 * -a = k4 * (b - a) + d * k1 := by have := h.r2; have e : k3 * -a = -(a * k3) := by grind
                                                  omega
  constructor
  · intro h1
    rcases Int.lt_or_le k4 0 with h3 | h3
    · exact h3
    · have t1 := Int.mul_nonneg hb h3
      have t2 := Int.mul_nonneg (Int.le_of_lt h1) (show 0 ≤ c - b by omega)
      have t3 := Int.mul_nonneg h3 (show 0 ≤ b - a by omega)
      have t4 := Int.mul_nonneg hd (Int.le_of_lt h1)
      have := o.l (by omega) (pos_of p e2 (by omega)) (pos_of p e3 (by omega)) h3
      omega
  · intro h3
    rcases Int.lt_or_le 0 k1 with h1 | h1
    · exact h1
    · have t1 := Int.mul_nonpos_of_nonneg_of_nonpos hb (Int.le_of_lt h3)
      have t2 := Int.mul_nonpos_of_nonpos_of_nonneg h1 (show 0 ≤ c - b by omega)
      have t3 := Int.mul_nonpos_of_nonpos_of_nonneg (Int.le_of_lt h3) (show 0 ≤ b - a by omega)
      have t4 := Int.mul_nonpos_of_nonneg_of_nonpos hd h1
      have := o.r h1 (neg_of p e2 (by omega)) (neg_of p e3 (by omega)) (by omega)
      omega
theorem cell3 {a b c d k1 k2 k3 k4 : Int} (h : Rel a b c d k1 k2 k3 k4) (o : Out k1 k2 k3 k4) (ha : 0 ≤ a) (hb : b < 0) (hd : d < 0) : 0 < k4 ↔ k1 < 0 := by
  have y := h.y
  have e2 : k2 * a = -(b * k4) - k1 * (c - b) := by have := h.r4; have e : k2 * a = a * k2 := by grind
                                                    omega
  have e3 : k3 * a = -(k4 * (b - a)) - d * k1 := by have := h.r2; have e : k3 * a = a * k3 := by grind
                                                    omega
  constructor
  · intro h4
    rcases Int.lt_or_le k1 0 with h1 | h1
    · exact h1
    · have t1 := Int.mul_neg_of_neg_of_pos hb h4
      have t2 := Int.mul_nonpos_of_nonneg_of_nonpos h1 (show c - b ≤ 0 by omega)
      have t3 := Int.mul_nonpos_of_nonneg_of_nonpos (Int.le_of_lt h4) (show b - a ≤ 0 by omega)
      have t4 := Int.mul_nonpos_of_nonpos_of_nonneg (Int.le_of_lt hd) h1
      have p : 0 < a := by
        rcases Int.lt_or_le 0 a with p | p
        · exact p
        · have : a = 0 := by omega
          subst this; simp at e2; omega
      have := o.l h1 (pos_of p e2 (by omega)) (pos_of p e3 (by omega)) (by omega)
      omega
  · intro h1
    rcases Int.lt_or_le 0 k4 with h4 | h4
    · exact h4
    · have t1 := Int.mul_nonneg_of_nonpos_of_nonpos (Int.le_of_lt hb) h4
      have t2 := Int.mul_pos_of_neg_of_neg h1 (show c - b < 0 by omega)
      have t3 := Int.mul_nonneg_of_nonpos_of_nonpos h4 (show b - a ≤ 0 by omega)
      have t4 := Int.mul_nonneg_of_nonpos_of_nonpos (Int.le_of_lt hd) (Int.le_of_lt h1)
      have p : 0 < a := by
        rcases Int.lt_or_le 0 a with p | p
        · exact p
        · have : a = 0 := by omega
          subst this; simp at e2; omega
      have := o.r (by omega) (neg_of p e2 (by omega)) (neg_of p e3 (by omega)) h4
      omega
theorem ite2 {k j : Int} (h : 0 < k ↔ j < 0) : (if 0 < k then (1 : Int) else 0) + (if j < 0 then -1 else 0) = 0 := by
  by_cases p : 0 < k
  · rw [if_pos p, if_pos (h.mp p)]; rfl
  · rw [if_neg p, if_neg (fun q => p (h.mpr q))]; rfl
theorem cellN {a b c d k1 k2 k3 k4 : Int} (h : Rel a b c d k1 k2 k3 k4) (o : Out k1 k2 k3 k4) : chN a b k1 + chN b c k2 + chN c d k3 + chN d a k4 = 0 := by
  have y := h.y
  have h' := h.rot
  have h2 := h'.rot
  have h3 := h2.rot
  have o' := o.rot
  have o2 := o'.rot
  have o3 := o2.rot
  rcases Int.lt_or_le a 0 with ha | ha <;> rcases Int.lt_or_le b 0 with hb | hb <;> rcases Int.lt_or_le c 0 with hc | hc <;> rcases Int.lt_or_le d 0 with hd | hd
  · rw [ch_nn ha hb, ch_nn hb hc, ch_nn hc hd, ch_nn hd ha]; rfl
  · rw [ch_nn ha hb, ch_nn hb hc, ch_up hc hd, ch_dn hd ha]; have := ite2 (cell3 h3 o3 hd ha hc); omega
  · rw [ch_nn ha hb, ch_up hb hc, ch_dn hc hd, ch_nn hd ha]; have := ite2 (cell3 h2 o2 hc hd hb); omega
  · rw [ch_nn ha hb, ch_up hb hc, ch_pp hc hd, ch_dn hd ha]; have := ite2 (cell1 h' o' hb hc hd ha); omega
  · rw [ch_up ha hb, ch_dn hb hc, ch_nn hc hd, ch_nn hd ha]; have := ite2 (cell3 h' o' hb hc ha); omega
  · omega
  · rw [ch_up ha hb, ch_pp hb hc, ch_dn hc hd, ch_nn hd ha]; have := ite2 (cell1 h o ha hb hc hd); omega
  · rw [ch_up ha hb, ch_pp hb hc, ch_pp hc hd, ch_dn hd ha]; have := ite2 (cell2 h o ha hb hd); omega
  · rw [ch_dn ha hb, ch_nn hb hc, ch_nn hc hd, ch_up hd ha]; have := ite2 (cell3 h o ha hb hd); omega
  · rw [ch_dn ha hb, ch_nn hb hc, ch_up hc hd, ch_pp hd ha]; have := ite2 (cell1 h2 o2 hc hd ha hb); omega
  · omega
  · rw [ch_dn ha hb, ch_up hb hc, ch_pp hc hd, ch_pp hd ha]; have := ite2 (cell2 h' o' hb hc ha); omega
  · rw [ch_pp ha hb, ch_dn hb hc, ch_nn hc hd, ch_up hd ha]; have := ite2 (cell1 h3 o3 hd ha hb hc); omega
  · rw [ch_pp ha hb, ch_dn hb hc, ch_up hc hd, ch_pp hd ha]; have := ite2 (cell2 h2 o2 hc hd hb); omega
  · rw [ch_pp ha hb, ch_pp hb hc, ch_dn hc hd, ch_up hd ha]; have := ite2 (cell2 h3 o3 hd ha hc); omega
  · rw [ch_pp ha hb, ch_pp hb hc, ch_pp hc hd, ch_pp hd ha]; rfl
/-- The edges aa' and bb' have no place in common. -/
def ND (a a' b b' : T2) : Prop := Out (kx (df b a) (df b' a)) (kx (df b' a) (df b' a')) (kx (df b' a') (df b a')) (kx (df b a') (df b a))
theorem cell {a a' b b' : T2} (h : ND a a' b b') : chi (df b a) (df b' a) + chi (df b' a) (df b' a') + chi (df b' a') (df b a') + chi (df b a') (df b a) = 0 := by
  refine cellN ?_ h
  refine ⟨?_, ?_, ?_, ?_, ?_⟩ <;> simp only [kx, df] <;> grind
theorem chi_neg (u v : T2) : chi v u = - chi u v := by
  have e : kx v u = - kx u v := by simp only [kx]; grind
  unfold chi chN
  rw [e]
  split <;> split <;> (try split) <;> omega
theorem cell' {a a' b b' : T2} (h : ND a a' b b') : chi (df b a) (df b' a) - chi (df b a') (df b' a') = chi (df b a) (df b a') - chi (df b' a) (df b' a') := by
  have := cell h
  have e1 := chi_neg (df b' a') (df b a')
  have e2 := chi_neg (df b a') (df b a)
  omega
end Go.Proofs.Ytipdfajojcpolaa
