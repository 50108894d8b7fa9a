/-
  The spec's Inside, and the law of Inside, walked.
-/
import Derived.Test.YtkinbgcnenieeaaMU3
import Derived.Deep.RegionHeld3
namespace Go.Proofs.Ytkinbgcnenieeaa.M
open Go.RowKit Go.Joins

theorem keepS {P C : World → Prop} (hS : ∀ w', P w' → C w') {w' : World} (h : P w') : P w' ∧ C w' := ⟨h, hS _ h⟩
def lInB (l x y m p q : Int) : Bool := decide (m ≤ l ∧ x / 2 ^ (l - m).toNat = p ∧ y / 2 ^ (l - m).toNat = q)
theorem half_eq (x : Int) : ∀ k : Nat, half x k = x / 2 ^ k
  | 0 => by simp [half]
  | k + 1 => by
    rw [half, half_eq x k, Int.pow_succ]
    exact Int.ediv_ediv_of_nonneg (Int.pow_nonneg (by decide))
theorem isUp_iff {l x y m p q : Int} : ∀ {n : Nat}, isUp l x y m p q n = true ↔ ∃ k : Nat, k < n ∧ l - k = m ∧ half x k = p ∧ half y k = q
  | 0 => by simp [isUp]
  | n + 1 => by
    rw [isUp, Bool.or_eq_true, isUp_iff]
    simp only [Bool.and_eq_true, beq_iff_eq]
    constructor
    · rintro (⟨k, h1, h2⟩ | ⟨⟨h1, h2⟩, h3⟩)
      · exact ⟨k, by omega, h2⟩
      · exact ⟨n, by omega, h1, h2, h3⟩
    · rintro ⟨k, h1, h2, h3, h4⟩
      by_cases e : k = n
      · subst e; exact .inr ⟨⟨h2, h3⟩, h4⟩
      · exact .inl ⟨k, by omega, h2, h3, h4⟩
theorem insB_eq (l x y m p q : Int) : insB l x y m p q = ((cellB l x y && cellB m p q) && lInB l x y m p q) := by
  cases hv : (cellB l x y && cellB m p q)
  · simp [insB, hv]
  · obtain ⟨g1, g2⟩ := (Bool.and_eq_true _ _).mp hv
    have h1 := cell_lev g1
    have h2 := cell_lev g2
    rw [insB, hv, Bool.true_and, Bool.true_and, Bool.eq_iff_iff, isUp_iff, lInB, decide_eq_true_iff]
    constructor
    · rintro ⟨k, a, b, c, d⟩
      have : (l - m).toNat = k := by omega
      rw [this, ← half_eq, ← half_eq]
      exact ⟨by omega, c, d⟩
    · rintro ⟨a, b, c⟩
      exact ⟨(l - m).toNat, by omega, by omega, by rw [half_eq]; exact b, by rw [half_eq]; exact c⟩

set_option maxHeartbeats 1000000 in
theorem lInside_any {l x y m p q : Int} (h1 : 0 ≤ l ∧ l ≤ 8) (h2 : 0 ≤ m ∧ m ≤ 8) (w : World) :
    Calls Try.prog 57 #[.agg #[.int .i64 l, .int .i64 x, .int .i64 y], .agg #[.int .i64 m, .int .i64 p, .int .i64 q]] w fun e w' => e = .returned (.bool (lInB l x y m p q)) ∧ Below w.heap.size w w' := by
  by_cases hlt : l < m
  · go_enter Try.func57, Try.ntmps57
    go_wp2
    go_ret
    exact ⟨ret_bool (by unfold lInB; exact (decide_eq_false (by omega)).symm), below_alloc2 _ _ _⟩
  · have g1 : 0 ≤ l - m := by omega
    have g2 : l - m ≤ 64 := by omega
    have g3 : wrap64 (l - m) = l - m := w64 (by omega) (by omega)
    go_enter Try.func57, Try.ntmps57
    go_wp2
    all_goals (go_ret; refine ⟨ret_bool ?_, below_alloc2 _ _ _⟩)
    all_goals (simp only [lInB]; first | (simp_all; done) | (simp_all; rfl))

theorem lInside_v {l x y m p q : Int} {v : Bool} (h1 : 0 ≤ l ∧ l ≤ 8) (h2 : 0 ≤ m ∧ m ≤ 8) (hv : lInB l x y m p q = v) (w : World) :
    Calls Try.prog 57 #[.agg #[.int .i64 l, .int .i64 x, .int .i64 y], .agg #[.int .i64 m, .int .i64 p, .int .i64 q]] w fun e w' => e = .returned (.bool v) ∧ Below w.heap.size w w' := by subst hv; exact lInside_any h1 h2 w

end Go.Proofs.Ytkinbgcnenieeaa.M
