/-
  Contracts of chapter 1's functions whose statements leave no order open: the spec's, and the program's lastX, lastY, spanned, Area.
-/
import Derived.Test.YtipfcmfcdfofmaaGreatMW1
namespace Go.Proofs.YtipfcmfcdfofmaaGreat.M
open Go.RowKit Go.Joins

def areaI (x y a b : Int) : Int := if okB x y a b then a * b else 0
def apI (s1 t1 s2 t2 : Int) : Int := if spB s1 t1 && spB s2 t2 then (s1 - s2) * (s1 - s2) + (t1 - t2) * (t1 - t2) else -1
def fd (x a s : Int) : Int := max 0 (max (x - s) (s - (x + a - 1)))
def farI (x y a b s t : Int) : Int := if okB x y a b && spB s t then fd x a s * fd x a s + fd y b t * fd y b t else -1
def inR (x y a b s t : Int) : Bool := decide (x ≤ s ∧ s < x + a ∧ y ≤ t ∧ t < y + b)
def holdsB (x y a b s t : Int) : Bool := okB x y a b && spB s t && inR x y a b s t
def mW (x1 a1 x2 a2 : Int) : Int := min (x1 + a1) (x2 + a2) - max x1 x2
def mB (x1 y1 a1 b1 x2 y2 a2 b2 : Int) : Bool := decide (1 ≤ mW x1 a1 x2 a2 ∧ 1 ≤ mW y1 b1 y2 b2)
def uW (x1 a1 x2 a2 : Int) : Int := max (x1 + a1) (x2 + a2) - min x1 x2
theorem okB_f {x y w h : Int} : okB x y w h = false ↔ ¬ (0 ≤ x ∧ x ≤ 255 ∧ 0 ≤ y ∧ y ≤ 255 ∧ 1 ≤ w ∧ w ≤ 256 - x ∧ 1 ≤ h ∧ h ≤ 256 - y) := by unfold okB; exact decide_eq_false_iff_not
theorem mul_bd {a b : Int} (h1 : 0 ≤ a) (h2 : a ≤ 256) (h3 : 0 ≤ b) (h4 : b ≤ 256) : 0 ≤ a * b ∧ a * b ≤ 65536 :=
  ⟨Int.mul_nonneg h1 h3, by have := Int.mul_le_mul h2 h4 h3 (by decide); omega⟩
theorem sq_bd {d : Int} (h1 : -255 ≤ d) (h2 : d ≤ 255) : 0 ≤ d * d ∧ d * d ≤ 65025 := by
  rcases Int.le_total 0 d with h | h
  · exact ⟨Int.mul_nonneg h h, by have := Int.mul_le_mul h2 h2 h (by decide); omega⟩
  · have e : d * d = (-d) * (-d) := by rw [Int.neg_mul_neg]
    rw [e]
    exact ⟨Int.mul_nonneg (by omega) (by omega), by have := Int.mul_le_mul (a := -d) (b := -d) (c := 255) (d := 255) (by omega) (by omega) (by omega) (by omega); omega⟩
theorem fd_bd {x a s : Int} (h1 : 0 ≤ x) (h2 : 1 ≤ a) (h3 : a ≤ 256 - x) (h4 : 0 ≤ s) (h5 : s ≤ 255) : 0 ≤ fd x a s ∧ fd x a s ≤ 255 := by unfold fd; omega

set_option maxHeartbeats 400000 in
theorem sMax_any (a b : Int) (w : World) :
    Calls Tryz.prog 91 #[.int .i64 a, .int .i64 b] w fun e w' => e = .returned (.int .i64 (max a b)) ∧ w = w' := by
  go_enter Tryz.func91, Tryz.ntmps91
  go_wp2
  all_goals (go_ret; exact ⟨ret_i64 (by omega), rfl⟩)
set_option maxHeartbeats 400000 in
theorem sMin_any (a b : Int) (w : World) :
    Calls Tryz.prog 90 #[.int .i64 a, .int .i64 b] w fun e w' => e = .returned (.int .i64 (min a b)) ∧ w = w' := by
  go_enter Tryz.func90, Tryz.ntmps90
  go_wp2
  all_goals (go_ret; exact ⟨ret_i64 (by omega), rfl⟩)

set_option maxHeartbeats 1000000 in
theorem sl1Holds_any (x1 y1 a1 b1 s2 t2 : Int) (h : okB x1 y1 a1 b1 = true) (w : World) :
    Calls Tryz.prog 52 #[.agg #[.int .i64 x1, .int .i64 y1, .int .i64 a1, .int .i64 b1], .agg #[.int .i64 s2, .int .i64 t2]] w fun e w' => e = .returned (.bool (inR x1 y1 a1 b1 s2 t2)) ∧ Below w.heap.size w w' := by
  have k := okB_t.mp h
  clear h
  go_enter Tryz.func52, Tryz.ntmps52
  go_wp2
  all_goals (go_ret; exact ⟨ret_bool (by unfold inR; first | exact (decide_eq_true (by omega)).symm | exact (decide_eq_false (by omega)).symm | exact decide_eq_decide.mpr (by omega)), below_alloc2 _ _ _⟩)

set_option maxHeartbeats 400000 in
theorem lastX_any (x1 y1 a1 b1 : Int) (w : World) (h : okB x1 y1 a1 b1 = true) :
    Calls Tryz.prog 57 #[.agg #[.int .i64 x1, .int .i64 y1, .int .i64 a1, .int .i64 b1]] w fun e w' => e = .returned (.int .i64 (x1 + a1 - 1)) ∧ Below w.heap.size w w' := by
  have k := okB_t.mp h
  clear h
  go_enter Tryz.func57, Tryz.ntmps57
  go_wp2
  go_ret
  exact ⟨rfl, below_alloc1 _ _⟩

set_option maxHeartbeats 400000 in
theorem lastY_any (x1 y1 a1 b1 : Int) (w : World) (h : okB x1 y1 a1 b1 = true) :
    Calls Tryz.prog 58 #[.agg #[.int .i64 x1, .int .i64 y1, .int .i64 a1, .int .i64 b1]] w fun e w' => e = .returned (.int .i64 (y1 + b1 - 1)) ∧ Below w.heap.size w w' := by
  have k := okB_t.mp h
  clear h
  go_enter Tryz.func58, Tryz.ntmps58
  go_wp2
  go_ret
  exact ⟨rfl, below_alloc1 _ _⟩

set_option maxHeartbeats 400000 in
theorem spanned_any (s1 t1 s2 t2 : Int) (w : World) (h : 0 ≤ s1 ∧ s1 ≤ 255 ∧ 0 ≤ t1 ∧ t1 ≤ 255 ∧ 0 ≤ s2 ∧ s2 ≤ 255 ∧ 0 ≤ t2 ∧ t2 ≤ 255) :
    Calls Tryz.prog 59 #[.agg #[.int .i64 s1, .int .i64 t1], .agg #[.int .i64 s2, .int .i64 t2]] w fun e w' => e = .returned (.agg #[.int .i64 s1, .int .i64 t1, .int .i64 (s2 - s1 + 1), .int .i64 (t2 - t1 + 1)]) ∧ Below w.heap.size w w' := by
  go_enter Tryz.func59, Tryz.ntmps59
  go_wp2
  refine bodyPost_ret (v := .agg #[.int .i64 s1, .int .i64 t1, .int .i64 (s2 - s1 + 1), .int .i64 (t2 - t1 + 1)]) (by simp [results, Tryz.results59, go_sem]) rfl ⟨rfl, ?_⟩
  exact below_alloc3 _ _ _ _

set_option maxHeartbeats 400000 in
theorem eqRect_any (x1 y1 a1 b1 : Int) (w : World) :
    Calls Tryz.prog 123 #[.agg #[.int .i64 x1, .int .i64 y1, .int .i64 a1, .int .i64 b1], .agg #[.int .i64 x1, .int .i64 y1, .int .i64 a1, .int .i64 b1]] w fun e w' => e = .returned (.bool true) ∧ Below w.heap.size w w' := by
  go_enter Tryz.func123, Tryz.ntmps123
  go_wp2
  go_ret
  exact ⟨rfl, below_alloc2 _ _ _⟩

set_option maxHeartbeats 1000000 in
theorem sl1Meet_no (x1 y1 a1 b1 x2 y2 a2 b2 : Int) (w : World) (h1 : okB x1 y1 a1 b1 = true) (h2 : okB x2 y2 a2 b2 = true) (hm : mB x1 y1 a1 b1 x2 y2 a2 b2 = false) :
    Calls Tryz.prog 92 #[.agg #[.int .i64 x1, .int .i64 y1, .int .i64 a1, .int .i64 b1], .agg #[.int .i64 x2, .int .i64 y2, .int .i64 a2, .int .i64 b2]] w fun e w' => e = .returned (.tuple #[.agg #[.int .i64 0, .int .i64 0, .int .i64 0, .int .i64 0], .bool false]) ∧ Below w.heap.size w w' := by
  have k := okB_t.mp h1
  have k' := okB_t.mp h2
  have km := decide_eq_false_iff_not.mp hm
  unfold mW at km
  clear h1 h2 hm
  go_enter Tryz.func92, Tryz.ntmps92
  go_wp2_with (first | (go_at_call 91; refine (sMax_any _ _ _).mono ?_; rintro e w1 ⟨rfl, rfl⟩) | (go_at_call 90; refine (sMin_any _ _ _).mono ?_; rintro e w1 ⟨rfl, rfl⟩))
  all_goals first | (exfalso; omega) | exact bodyPost_ret (v := .tuple #[.agg #[.int .i64 0, .int .i64 0, .int .i64 0, .int .i64 0], .bool false]) (by simp [results, Tryz.results92, go_sem]) rfl ⟨rfl, below_alloc3 _ _ _ _⟩

set_option maxHeartbeats 1000000 in
theorem sl1Meet_yes (x1 y1 a1 b1 x2 y2 a2 b2 : Int) (w : World) (h1 : okB x1 y1 a1 b1 = true) (h2 : okB x2 y2 a2 b2 = true) (hm : mB x1 y1 a1 b1 x2 y2 a2 b2 = true) :
    Calls Tryz.prog 92 #[.agg #[.int .i64 x1, .int .i64 y1, .int .i64 a1, .int .i64 b1], .agg #[.int .i64 x2, .int .i64 y2, .int .i64 a2, .int .i64 b2]] w fun e w' => e = .returned (.tuple #[.agg #[.int .i64 (max x1 x2), .int .i64 (max y1 y2), .int .i64 (mW x1 a1 x2 a2), .int .i64 (mW y1 b1 y2 b2)], .bool true]) ∧ Below w.heap.size w w' := by
  have k := okB_t.mp h1
  have k' := okB_t.mp h2
  have km := decide_eq_true_iff.mp hm
  unfold mW at km
  unfold mW
  clear h1 h2 hm
  go_enter Tryz.func92, Tryz.ntmps92
  go_wp2_with (first | (go_at_call 91; refine (sMax_any _ _ _).mono ?_; rintro e w1 ⟨rfl, rfl⟩) | (go_at_call 90; refine (sMin_any _ _ _).mono ?_; rintro e w1 ⟨rfl, rfl⟩))
  all_goals first | (exfalso; omega) | exact bodyPost_ret (v := .tuple #[.agg #[.int .i64 (max x1 x2), .int .i64 (max y1 y2), .int .i64 (min (x1 + a1) (x2 + a2) - max x1 x2), .int .i64 (min (y1 + b1) (y2 + b2) - max y1 y2)], .bool true]) (by simp [results, Tryz.results92, go_sem]) rfl ⟨rfl, below_alloc3 _ _ _ _⟩

def meetV (x1 y1 a1 b1 x2 y2 a2 b2 : Int) : Value := if okB x1 y1 a1 b1 && okB x2 y2 a2 b2 && mB x1 y1 a1 b1 x2 y2 a2 b2 then .tuple #[.agg #[.int .i64 (max x1 x2), .int .i64 (max y1 y2), .int .i64 (mW x1 a1 x2 a2), .int .i64 (mW y1 b1 y2 b2)], .bool true] else .tuple #[.agg #[.int .i64 0, .int .i64 0, .int .i64 0, .int .i64 0], .bool false]

end Go.Proofs.YtipfcmfcdfofmaaGreat.M
