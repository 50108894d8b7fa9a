/-
  Two edges that the spec does not find to meet.
-/
import Derived.Test.YtipdfajojcpolaaPK6
namespace Go.Proofs.Ytipdfajojcpolaa
/-- c lies in the box of a and b. -/
def bt (a b c : T2) : Prop := (a.x - c.x) * (b.x - c.x) ≤ 0 ∧ (a.y - c.y) * (b.y - c.y) ≤ 0
def opp (m n : Int) : Prop := (0 < m ∧ n < 0) ∨ (m < 0 ∧ 0 < n)
def tr (a b c : T2) : Int := kx (df b a) (df c a)
structure NC (a a' b b' : T2) : Prop where
  x : ¬ (opp (tr a a' b) (tr a a' b') ∧ opp (tr b b' a) (tr b b' a'))
  p : tr a a' b = 0 → ¬ bt a a' b
  q : tr a a' b' = 0 → ¬ bt a a' b'
  r : tr b b' a = 0 → ¬ bt b b' a
  s : tr b b' a' = 0 → ¬ bt b b' a'
theorem NC.swap {a a' b b' : T2} (h : NC a a' b b') : NC a a' b' b := by
  have e1 : ∀ c, tr b' b c = - tr b b' c := fun c => by simp only [tr, kx, df]; grind
  have e2 : ∀ c, bt b' b c ↔ bt b b' c := fun c => by unfold bt; rw [Int.mul_comm (b'.x - c.x), Int.mul_comm (b'.y - c.y)]
  refine ⟨?_, h.q, h.p, ?_, ?_⟩
  · have := h.x
    rw [e1, e1]
    unfold opp at *; omega
  · rw [e1, e2]; intro e; exact h.r (by omega)
  · rw [e1, e2]; intro e; exact h.s (by omega)
theorem NC.flip {a a' b b' : T2} (h : NC a a' b b') : NC b b' a a' := ⟨fun h' => h.x ⟨h'.2, h'.1⟩, h.r, h.s, h.p, h.q⟩
/-- Of two on a line with the origin, one to each side. -/
theorem mid1 {c d m n : Int} (h : d * m = -(c * n)) (hm : 0 ≤ m) (hn : 0 ≤ n) (hs : 0 < m + n) : c * d ≤ 0 := by
  rcases Int.lt_or_le 0 (c * d) with h' | h'
  · exfalso
    rcases (mul_sg c d).1 h' with ⟨a, b⟩ | ⟨a, b⟩
    · have k1 := Int.mul_nonneg (Int.le_of_lt b) hm
      have k2 := Int.mul_nonneg (Int.le_of_lt a) hn
      have z1 : d * m = 0 := by omega
      have z2 : c * n = 0 := by omega
      rcases Int.mul_eq_zero.mp z1 with e | e <;> rcases Int.mul_eq_zero.mp z2 with e' | e' <;> omega
    · have k1 := Int.mul_nonpos_of_nonpos_of_nonneg (Int.le_of_lt b) hm
      have k2 := Int.mul_nonpos_of_nonpos_of_nonneg (Int.le_of_lt a) hn
      have z1 : d * m = 0 := by omega
      have z2 : c * n = 0 := by omega
      rcases Int.mul_eq_zero.mp z1 with e | e <;> rcases Int.mul_eq_zero.mp z2 with e' | e' <;> omega
  · exact h'
theorem NC.out1 {a a' b b' : T2} (h : NC a a' b b') (p1 : 0 ≤ kx (df b a) (df b' a)) (p2 : 0 ≤ kx (df b' a) (df b' a')) (p3 : 0 ≤ kx (df b' a') (df b a')) (p4 : 0 ≤ kx (df b a') (df b a)) :
    kx (df b a) (df b' a) = 0 ∧ kx (df b' a) (df b' a') = 0 ∧ kx (df b' a') (df b a') = 0 ∧ kx (df b a') (df b a) = 0 := by
  have hp : tr a a' b = - kx (df b a') (df b a) := by simp only [tr, kx, df]; grind
  have hq : tr a a' b' = kx (df b' a) (df b' a') := by simp only [tr, kx, df]; grind
  have hr : tr b b' a = kx (df b a) (df b' a) := by simp only [tr, kx, df]; grind
  have hs : tr b b' a' = - kx (df b' a') (df b a') := by simp only [tr, kx, df]; grind
  have hS : kx (df b a) (df b' a) + kx (df b' a') (df b a') = kx (df b' a) (df b' a') + kx (df b a') (df b a) := by simp only [kx, df]; grind
  rcases Int.lt_or_le 0 (kx (df b a) (df b' a) + kx (df b' a') (df b a')) with hpos | hpos
  · exfalso
    have hx := h.x
    -- one of the four is 0
    rcases (show kx (df b a) (df b' a) = 0 ∨ kx (df b' a) (df b' a') = 0 ∨ kx (df b' a') (df b a') = 0 ∨ kx (df b a') (df b a) = 0 by unfold opp at hx; omega) with z | z | z | z
    · refine h.r (by omega) ⟨mid1 (m := kx (df b a') (df b a)) (n := kx (df b' a) (df b' a')) ?_ p4 p2 (by omega), mid1 (m := kx (df b a') (df b a)) (n := kx (df b' a) (df b' a')) ?_ p4 p2 (by omega)⟩
      · simp only [kx, df] at z ⊢; grind
      · simp only [kx, df] at z ⊢; grind
    · refine h.q (by omega) ⟨mid1 (m := kx (df b a) (df b' a)) (n := kx (df b' a') (df b a')) ?_ p1 p3 (by omega), mid1 (m := kx (df b a) (df b' a)) (n := kx (df b' a') (df b a')) ?_ p1 p3 (by omega)⟩
      · simp only [kx, df] at z ⊢; grind
      · simp only [kx, df] at z ⊢; grind
    · refine h.s (by omega) ⟨mid1 (m := kx (df b a') (df b a)) (n := kx (df b' a) (df b' a')) ?_ p4 p2 (by omega), mid1 (m := kx (df b a') (df b a)) (n := kx (df b' a) (df b' a')) ?_ p4 p2 (by omega)⟩
      · simp only [kx, df] at z ⊢; grind
      · simp only [kx, df] at z ⊢; grind
    · refine h.p (by omega) ⟨mid1 (m := kx (df b a) (df b' a)) (n := kx (df b' a') (df b a')) ?_ p1 p3 (by omega), mid1 (m := kx (df b a) (df b' a)) (n := kx (df b' a') (df b a')) ?_ p1 p3 (by omega)⟩
      · simp only [kx, df] at z ⊢; grind
      · simp only [kx, df] at z ⊢; grind
  · omega
theorem NC.nd {a a' b b' : T2} (h : NC a a' b b') : ND a a' b b' := by
  refine ⟨h.out1, fun p1 p2 p3 p4 => ?_⟩
  have kn : ∀ u v : T2, kx v u = - kx u v := fun u v => by simp only [kx]; grind
  have k1 := kn (df b a) (df b' a)
  have k2 := kn (df b' a) (df b' a')
  have k3 := kn (df b' a') (df b a')
  have k4 := kn (df b a') (df b a)
  have := h.swap.out1 (by omega) (by omega) (by omega) (by omega)
  omega
end Go.Proofs.Ytipdfajojcpolaa
