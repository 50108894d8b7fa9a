/-
  The spec's Inside, and the law of Inside, walked.
-/
import Derived.Test.YtipfcmfcdfofmaaOU3
import Derived.Deep.RegionHeld3
namespace Go.Proofs.Ytipfcmfcdfofmaa.O
open Go.RowKit Go.Joins

theorem keepS {P C : World → Prop} (hS : ∀ w', P w' → C w') {w' : World} (h : P w') : P w' ∧ C w' := ⟨h, hS _ h⟩
def lInB (l x y m p q : Int) : Bool := decide (m ≤ l ∧ x / 2 ^ (l - m).toNat = p ∧ y / 2 ^ (l - m).toNat = q)
theorem half_eq (x : Int) : ∀ k : Nat, half x k = x / 2 ^ k
  | 0 => by simp [half]
  | k + 1 => by
    rw [half, half_eq x k, Int.pow_succ]
    exact Int.ediv_ediv_of_nonneg (Int.pow_nonneg (by decide))
theorem isUp_iff {l x y m p q : Int} : ∀ {n : Nat}, isUp l x y m p q n = true ↔ ∃ k : Nat, k < n ∧ l - k = m ∧ half x k = p ∧ half y k = q
  | 0 => by simp [isUp]
  | n + 1 => by
    rw [isUp, Bool.or_eq_true, isUp_iff]
    simp only [Bool.and_eq_true, beq_iff_eq]
    constructor
    · rintro (⟨k, h1, h2⟩ | ⟨⟨h1, h2⟩, h3⟩)
      · exact ⟨k, by omega, h2⟩
      · exact ⟨n, by omega, h1, h2, h3⟩
    · rintro ⟨k, h1, h2, h3, h4⟩
      by_cases e : k = n
      · subst e; exact .inr ⟨⟨h2, h3⟩, h4⟩
      · exact .inl ⟨k, by omega, h2, h3, h4⟩
theorem insB_eq (l x y m p q : Int) : insB l x y m p q = ((cellB l x y && cellB m p q) && lInB l x y m p q) := by
  cases hv : (cellB l x y && cellB m p q)
  · simp [insB, hv]
  · obtain ⟨g1, g2⟩ := (Bool.and_eq_true _ _).mp hv
    have h1 := cell_lev g1
    have h2 := cell_lev g2
    rw [insB, hv, Bool.true_and, Bool.true_and, Bool.eq_iff_iff, isUp_iff, lInB, decide_eq_true_iff]
    constructor
    · rintro ⟨k, a, b, c, d⟩
      have : (l - m).toNat = k := by omega
      rw [this, ← half_eq, ← half_eq]
      exact ⟨by omega, c, d⟩
    · rintro ⟨a, b, c⟩
      exact ⟨(l - m).toNat, by omega, by omega, by rw [half_eq]; exact b, by rw [half_eq]; exact c⟩

end Go.Proofs.Ytipfcmfcdfofmaa.O
