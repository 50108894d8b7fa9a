/-
  Plain laws on boxes for FnBoxes: what two have in common, what is around both, and their areas.
-/
import Derived.Test.YtjkandboanecgaaW5H
import Derived.Test.YtjkandboanecgaaW6
import Derived.Test.YtjkandboanecgaaW6A
namespace Go.Proofs.Ytjkandboanecgaa
open Go.RowKit Go.Joins

theorem holdsB_t {x y a b s t : Int} : holdsB x y a b s t = true ↔ (okB x y a b = true ∧ spB s t = true ∧ x ≤ s ∧ s < x + a ∧ y ≤ t ∧ t < y + b) := by
  unfold holdsB inR
  rw [Bool.and_eq_true, Bool.and_eq_true, decide_eq_true_iff, and_assoc]
theorem meet_yes {x1 y1 c1 d1 x2 y2 c2 d2 m0 m1 m2 m3 : Int} {mb : Bool} (h1 : okB x1 y1 c1 d1 = true) (h2 : okB x2 y2 c2 d2 = true)
    (hm : meetV x1 y1 c1 d1 x2 y2 c2 d2 = .tuple #[.agg #[.int .i64 m0, .int .i64 m1, .int .i64 m2, .int .i64 m3], .bool mb]) :
    mb = mB x1 y1 c1 d1 x2 y2 c2 d2 ∧ (mB x1 y1 c1 d1 x2 y2 c2 d2 = true → m0 = max x1 x2 ∧ m1 = max y1 y2 ∧ m2 = mW x1 c1 x2 c2 ∧ m3 = mW y1 d1 y2 d2) ∧ (mB x1 y1 c1 d1 x2 y2 c2 d2 = false → m0 = 0 ∧ m1 = 0 ∧ m2 = 0 ∧ m3 = 0) := by
  cases h : mB x1 y1 c1 d1 x2 y2 c2 d2
  · simp [meetV, h1, h2, h] at hm
    obtain ⟨⟨a, b, c, d⟩, e⟩ := hm
    exact ⟨e, fun h => Bool.noConfusion h, fun _ => ⟨a.symm, b.symm, c.symm, d.symm⟩⟩
  · simp [meetV, h1, h2, h] at hm
    obtain ⟨⟨a, b, c, d⟩, e⟩ := hm
    exact ⟨e, fun _ => ⟨a.symm, b.symm, c.symm, d.symm⟩, fun h => Bool.noConfusion h⟩
theorem around_yes {x1 y1 c1 d1 x2 y2 c2 d2 n0 n1 n2 n3 : Int} (h1 : okB x1 y1 c1 d1 = true) (h2 : okB x2 y2 c2 d2 = true)
    (hn : aroundV x1 y1 c1 d1 x2 y2 c2 d2 = .agg #[.int .i64 n0, .int .i64 n1, .int .i64 n2, .int .i64 n3]) :
    n0 = min x1 x2 ∧ n1 = min y1 y2 ∧ n2 = uW x1 c1 x2 c2 ∧ n3 = uW y1 d1 y2 d2 := by
  simp [aroundV, h1, h2] at hn
  obtain ⟨a, b, c, d⟩ := hn
  exact ⟨a.symm, b.symm, c.symm, d.symm⟩
theorem holds_rel {x1 y1 c1 d1 x2 y2 c2 d2 m0 m1 m2 m3 n0 n1 n2 n3 s t : Int} {mb : Bool} (h1 : okB x1 y1 c1 d1 = true) (h2 : okB x2 y2 c2 d2 = true)
    (hm : meetV x1 y1 c1 d1 x2 y2 c2 d2 = .tuple #[.agg #[.int .i64 m0, .int .i64 m1, .int .i64 m2, .int .i64 m3], .bool mb])
    (hn : aroundV x1 y1 c1 d1 x2 y2 c2 d2 = .agg #[.int .i64 n0, .int .i64 n1, .int .i64 n2, .int .i64 n3]) :
    (holdsB x1 y1 c1 d1 s t && holdsB x2 y2 c2 d2 s t) = (mb && holdsB m0 m1 m2 m3 s t) ∧ ((holdsB x1 y1 c1 d1 s t || holdsB x2 y2 c2 d2 s t) = true → holdsB n0 n1 n2 n3 s t = true) := by
  obtain ⟨e1, e2, e3⟩ := meet_yes h1 h2 hm
  obtain ⟨rfl, rfl, rfl, rfl⟩ := around_yes h1 h2 hn
  have k1 := okB_t.mp h1
  have k2 := okB_t.mp h2
  constructor
  · subst e1
    rw [Bool.eq_iff_iff, Bool.and_eq_true, Bool.and_eq_true, holdsB_t, holdsB_t]
    cases h : mB x1 y1 c1 d1 x2 y2 c2 d2
    · have hf := of_decide_eq_false (show decide (1 ≤ mW x1 c1 x2 c2 ∧ 1 ≤ mW y1 d1 y2 d2) = false from h)
      unfold mW at hf
      constructor
      · rintro ⟨⟨_, _, a⟩, ⟨_, _, b⟩⟩; omega
      · rintro ⟨a, _⟩; cases a
    · obtain ⟨rfl, rfl, rfl, rfl⟩ := e2 h
      have ht := of_decide_eq_true (show decide (1 ≤ mW x1 c1 x2 c2 ∧ 1 ≤ mW y1 d1 y2 d2) = true from h)
      rw [holdsB_t]
      unfold mW at ht ⊢
      constructor
      · rintro ⟨⟨_, sp, a⟩, ⟨_, _, b⟩⟩
        exact ⟨rfl, okB_t.mpr (by omega), sp, by omega⟩
      · rintro ⟨_, _, sp, a⟩
        exact ⟨⟨h1, sp, by omega⟩, ⟨h2, sp, by omega⟩⟩
  · rw [Bool.or_eq_true, holdsB_t, holdsB_t, holdsB_t]
    unfold uW
    rintro (⟨_, sp, a⟩ | ⟨_, sp, a⟩)
    · exact ⟨okB_t.mpr (by omega), sp, by omega⟩
    · exact ⟨okB_t.mpr (by omega), sp, by omega⟩

theorem prod_meet {c1 d1 c2 d2 M N : Int} (h1 : M ≤ c1) (h2 : M ≤ c2) (h3 : N ≤ d1) (h4 : N ≤ d2) : c1 * d1 + c2 * d2 ≤ (c1 + c2 - M) * (d1 + d2 - N) + M * N := by
  have p1 : 0 ≤ (c1 - M) * (d2 - N) := Int.mul_nonneg (by omega) (by omega)
  have p2 : 0 ≤ (c2 - M) * (d1 - N) := Int.mul_nonneg (by omega) (by omega)
  simp only [Int.sub_mul, Int.mul_sub, Int.add_mul, Int.mul_add] at p1 p2 ⊢
  omega
theorem prod_apart {c1 d1 c2 d2 U V : Int} (h1 : c1 + c2 ≤ U) (h2 : d1 ≤ V) (h3 : d2 ≤ V) (p1 : 0 ≤ c1) (p2 : 0 ≤ c2) (q : 0 ≤ d1) : c1 * d1 + c2 * d2 ≤ U * V := by
  have a1 : c1 * d1 ≤ c1 * V := Int.mul_le_mul_of_nonneg_left h2 p1
  have a2 : c2 * d2 ≤ c2 * V := Int.mul_le_mul_of_nonneg_left h3 p2
  have a3 : (c1 + c2) * V ≤ U * V := Int.mul_le_mul_of_nonneg_right h1 (by omega)
  rw [Int.add_mul] at a3
  omega
theorem prod_apart' {c1 d1 c2 d2 U V : Int} (h1 : d1 + d2 ≤ V) (h2 : c1 ≤ U) (h3 : c2 ≤ U) (p1 : 0 ≤ d1) (p2 : 0 ≤ d2) (q : 0 ≤ c1) : c1 * d1 + c2 * d2 ≤ U * V := by
  have := prod_apart h1 h2 h3 p1 p2 q
  rw [Int.mul_comm c1, Int.mul_comm c2, Int.mul_comm U]; exact this
theorem area_le {x1 y1 c1 d1 x2 y2 c2 d2 m0 m1 m2 m3 n0 n1 n2 n3 : Int} {mb : Bool} (h1 : okB x1 y1 c1 d1 = true) (h2 : okB x2 y2 c2 d2 = true)
    (hm : meetV x1 y1 c1 d1 x2 y2 c2 d2 = .tuple #[.agg #[.int .i64 m0, .int .i64 m1, .int .i64 m2, .int .i64 m3], .bool mb])
    (hn : aroundV x1 y1 c1 d1 x2 y2 c2 d2 = .agg #[.int .i64 n0, .int .i64 n1, .int .i64 n2, .int .i64 n3]) :
    areaI x1 y1 c1 d1 + areaI x2 y2 c2 d2 ≤ areaI n0 n1 n2 n3 + areaI m0 m1 m2 m3 := by
  obtain ⟨_, e2, e3⟩ := meet_yes h1 h2 hm
  obtain ⟨rfl, rfl, rfl, rfl⟩ := around_yes h1 h2 hn
  have k1 := okB_t.mp h1
  have k2 := okB_t.mp h2
  have hok : okB (min x1 x2) (min y1 y2) (uW x1 c1 x2 c2) (uW y1 d1 y2 d2) = true := okB_t.mpr (by unfold uW; omega)
  have a1 : areaI x1 y1 c1 d1 = c1 * d1 := by simp [areaI, h1]
  have a2 : areaI x2 y2 c2 d2 = c2 * d2 := by simp [areaI, h2]
  have a3 : areaI (min x1 x2) (min y1 y2) (uW x1 c1 x2 c2) (uW y1 d1 y2 d2) = uW x1 c1 x2 c2 * uW y1 d1 y2 d2 := by simp [areaI, hok]
  rw [a1, a2, a3]
  cases h : mB x1 y1 c1 d1 x2 y2 c2 d2
  · obtain ⟨rfl, rfl, rfl, rfl⟩ := e3 h
    have hf := of_decide_eq_false (show decide (1 ≤ mW x1 c1 x2 c2 ∧ 1 ≤ mW y1 d1 y2 d2) = false from h)
    have a4 : areaI 0 0 0 0 = 0 := by simp [areaI]
    rw [a4, Int.add_zero]
    unfold mW at hf
    by_cases hx : 1 ≤ min (x1 + c1) (x2 + c2) - max x1 x2
    · exact prod_apart' (by unfold uW; omega) (by unfold uW; omega) (by unfold uW; omega) (by omega) (by omega) (by omega)
    · exact prod_apart (by unfold uW; omega) (by unfold uW; omega) (by unfold uW; omega) (by omega) (by omega) (by omega)
  · obtain ⟨rfl, rfl, rfl, rfl⟩ := e2 h
    have ht := of_decide_eq_true (show decide (1 ≤ mW x1 c1 x2 c2 ∧ 1 ≤ mW y1 d1 y2 d2) = true from h)
    have hok2 : okB (max x1 x2) (max y1 y2) (mW x1 c1 x2 c2) (mW y1 d1 y2 d2) = true := okB_t.mpr (by unfold mW at ht ⊢; omega)
    have a4 : areaI (max x1 x2) (max y1 y2) (mW x1 c1 x2 c2) (mW y1 d1 y2 d2) = mW x1 c1 x2 c2 * mW y1 d1 y2 d2 := by simp [areaI, hok2]
    rw [a4]
    have u1 : uW x1 c1 x2 c2 = c1 + c2 - mW x1 c1 x2 c2 := by unfold uW mW; omega
    have u2 : uW y1 d1 y2 d2 = d1 + d2 - mW y1 d1 y2 d2 := by unfold uW mW; omega
    rw [u1, u2]
    exact prod_meet (by unfold mW; omega) (by unfold mW; omega) (by unfold mW; omega) (by unfold mW; omega)
theorem area_bd (x y a b : Int) : 0 ≤ areaI x y a b ∧ areaI x y a b ≤ 65536 := by
  unfold areaI
  split
  · rename_i h
    have k := okB_t.mp h
    have h1 : 0 ≤ a * b := Int.mul_nonneg (by omega) (by omega)
    have h2 : a * b ≤ 256 * b := Int.mul_le_mul_of_nonneg_right (by omega) (by omega)
    omega
  · omega
end Go.Proofs.Ytjkandboanecgaa
