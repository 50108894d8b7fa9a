/-
  A Cell's quarter; the Cell that was looked for.
-/
import Derived.Test.YtamnmakegdnblaaKD6
namespace Go.Proofs.Ytamnmakegdnblaa.K.D
open Go.Shelf Go.RowKit Go.Joins
attribute [local go_sem] Oper.semAt_some

set_option maxHeartbeats 2000000 in
theorem l2Quarter_any (l x y : Int) (k : Nat) (hk : k < 4) (hl : 0 ≤ l ∧ l ≤ 8) (hx : 0 ≤ x ∧ x ≤ 255) (hy : 0 ≤ y ∧ y ≤ 255) (w : World) :
    Calls Try.prog 48 #[.agg #[.int .i64 l, .int .i64 x, .int .i64 y], .int .i64 k] w fun e w' => e = .returned (.agg #[.int .i64 (l + 1), .int .i64 (2 * x + ((k % 2 : Nat) : Int)), .int .i64 (2 * y + ((k / 2 : Nat) : Int))]) ∧ Below w.heap.size w w' := by
  have f0 : wrap64 (l + 1) = l + 1 := by unfold wrap64; omega
  have f1 : wrap64 (2 * x) = 2 * x := by unfold wrap64; omega
  have f2 : wrap64 (2 * y) = 2 * y := by unfold wrap64; omega
  have f3 : wrap64 (2 * x + 1) = 2 * x + 1 := by unfold wrap64; omega
  have f4 : wrap64 (2 * y + 1) = 2 * y + 1 := by unfold wrap64; omega
  have h4 : k = 0 ∨ k = 1 ∨ k = 2 ∨ k = 3 := by omega
  rcases h4 with rfl | rfl | rfl | rfl
  all_goals
    go_enter Try.func48, Try.ntmps48
    go_wp2
    refine bodyPost_ret (v := .agg #[.int .i64 (l + 1), .int .i64 _, .int .i64 _]) (by simp [results, Try.results48, go_sem]; exact ⟨rfl, rfl⟩) rfl ⟨by simp, ?_⟩
    first | exact below_alloc2 _ _ _ | exact below_alloc3 _ _ _ _
theorem posO_eq (l x y : Int) : ∀ L : List On, posO l x y L < L.length → (L.getD (posO l x y L) zon).l = l ∧ (L.getD (posO l x y L) zon).x = x ∧ (L.getD (posO l x y L) zon).y = y
  | [], h => by simp [posO] at h
  | o :: r, h => by
    by_cases he : eqC o l x y = true
    · have : posO l x y (o :: r) = 0 := by show (if eqC o l x y then 0 else posO l x y r + 1) = 0; rw [if_pos he]
      rw [this]
      unfold eqC at he
      simpa using he
    · have h1 : posO l x y (o :: r) = posO l x y r + 1 := by show (if eqC o l x y then 0 else posO l x y r + 1) = _; rw [if_neg he]
      rw [h1] at h ⊢
      have := posO_eq l x y r (by simpa using h)
      simpa using this
end Go.Proofs.Ytamnmakegdnblaa.K.D
