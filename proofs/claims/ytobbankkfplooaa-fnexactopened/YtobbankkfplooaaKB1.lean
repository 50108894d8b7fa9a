/-
  Records: their kind, the looks whether one is right, the program's and the spec's, and which comes first.
-/
import Derived.Test.YtobbankkfplooaaKSA
import Derived.Test.YtobbankkfplooaaKRX
import Derived.Deep.RegionHeld3
import Derived.Lib.Hide
namespace Go.Proofs.Ytobbankkfplooaa.K
open Go.RowKit Go.Joins
attribute [local go_sem] Oper.semAt_some

/-- A Record as a value. -/
abbrev Rc.v (r : Rc) : Value := .agg #[.int .i64 r.t, .int .i64 r.i, .int .i64 r.x, .int .i64 r.y, .string r.s]
theorem getR {L : List Rc} {k : Nat} (hk : k < L.length) : L[k]? = some (L.getD k zrc) := by simp [List.getD, hk]
theorem all_take {α : Type} {L : List α} {f : α → Bool} {k : Nat} (hk : k < L.length) : (L.take (k + 1)).all f = ((L.take k).all f && f L[k]) := by
  rw [List.take_succ_eq_append_getElem hk, List.all_append]; simp
theorem all_no {α : Type} {L : List α} {f : α → Bool} {k : Nat} {a : α} (hk : L[k]? = some a) (h : f a = false) : L.all f = false := by
  rw [Bool.eq_false_iff]; intro h2; rw [List.all_eq_true] at h2; have := h2 a (List.mem_of_getElem? hk); rw [h] at this; cases this
theorem bstepA {B : Nat} {W w1 w2 : World} {o : Obj} (h : Below B W w1) (hb : Below (w1.alloc o).heap.size (w1.alloc o) w2) (hB : B ≤ W.heap.size) : Below B W w2 :=
  bstep (h.alloc (Nat.le_trans hB h.size) o) hb hB
theorem ba1 {w w1 : World} {o : Obj} (hb : Below (w.alloc o).heap.size (w.alloc o) w1) : Below w.heap.size w w1 := (below_alloc1 w o).trans (hb.mono (by simp))

theorem isTenant_any (n : Int) (w : World) : Calls Try.prog 66 #[.int .i64 n] w fun e w' => e = .returned (.bool (rgB n 1 99)) ∧ w' = w := by
  go_enter Try.func66, Try.ntmps66
  go_wp2
  all_goals (go_ret; exact ⟨ret_bool (by unfold rgB; first | exact (decide_eq_true (by omega)).symm | exact (decide_eq_false (by omega)).symm | exact decide_eq_decide.mpr (by omega)), rfl⟩)
theorem isId_any (n : Int) (w : World) : Calls Try.prog 67 #[.int .i64 n] w fun e w' => e = .returned (.bool (rgB n 1 100000)) ∧ w' = w := by
  go_enter Try.func67, Try.ntmps67
  go_wp2
  all_goals (go_ret; exact ⟨ret_bool (by unfold rgB; first | exact (decide_eq_true (by omega)).symm | exact (decide_eq_false (by omega)).symm | exact decide_eq_decide.mpr (by omega)), rfl⟩)
theorem l1In_any (n a b : Int) (w : World) : Calls Try.prog 23 #[.int .i64 n, .int .i64 a, .int .i64 b] w fun e w' => e = .returned (.bool (rgB n a b)) ∧ w' = w := by
  go_enter Try.func23, Try.ntmps23
  go_wp2
  all_goals (go_ret; exact ⟨ret_bool (by unfold rgB; first | exact (decide_eq_true (by omega)).symm | exact (decide_eq_false (by omega)).symm | exact decide_eq_decide.mpr (by omega)), rfl⟩)
theorem isTenant_v {n : Int} {v : Bool} (hv : rgB n 1 99 = v) (w : World) : Calls Try.prog 66 #[.int .i64 n] w fun e w' => e = .returned (.bool v) ∧ w' = w := hv ▸ isTenant_any n w
theorem isId_v {n : Int} {v : Bool} (hv : rgB n 1 100000 = v) (w : World) : Calls Try.prog 67 #[.int .i64 n] w fun e w' => e = .returned (.bool v) ∧ w' = w := hv ▸ isId_any n w
theorem l1In_v {n a b : Int} {v : Bool} (hv : rgB n a b = v) (w : World) : Calls Try.prog 23 #[.int .i64 n, .int .i64 a, .int .i64 b] w fun e w' => e = .returned (.bool v) ∧ w' = w := hv ▸ l1In_any n a b w
theorem spotB_eq (x y : Int) : spotB x y = decide (0 ≤ x ∧ x ≤ 255 ∧ 0 ≤ y ∧ y ≤ 255) := by unfold spotB rgB; rw [← Bool.decide_and]; exact decide_eq_decide.mpr (by omega)
theorem isSpot_any (x y : Int) (w : World) : Calls Try.prog 81 #[.agg #[.int .i64 x, .int .i64 y]] w fun e w' => e = .returned (.bool (spotB x y)) ∧ Below w.heap.size w w' := by
  go_enter Try.func81, Try.ntmps81
  go_wp2
  all_goals (go_ret; exact ⟨ret_bool (by rw [spotB_eq]; first | exact (decide_eq_true (by omega)).symm | exact (decide_eq_false (by omega)).symm | exact decide_eq_decide.mpr (by omega)), below_alloc1 _ _⟩)
theorem l1Spot_any (x y : Int) (w : World) : Calls Try.prog 57 #[.agg #[.int .i64 x, .int .i64 y]] w fun e w' => e = .returned (.bool (spotB x y)) ∧ Below w.heap.size w w' := by
  cases h1 : rgB x 0 255 <;> cases h2 : rgB y 0 255
  all_goals
    go_enter Try.func57, Try.ntmps57
    go_wp2_with (go_at_call 23; refine (l1In_v (by assumption) _).mono ?_; rintro e w1 ⟨rfl, rfl⟩)
    go_ret
    exact ⟨ret_bool (by rw [spotB, h1, h2]; rfl), below_alloc1 _ _⟩
theorem isSpot_v {x y : Int} {v : Bool} (hv : spotB x y = v) (w : World) : Calls Try.prog 81 #[.agg #[.int .i64 x, .int .i64 y]] w fun e w' => e = .returned (.bool v) ∧ Below w.heap.size w w' := hv ▸ isSpot_any x y w
theorem l1Spot_v {x y : Int} {v : Bool} (hv : spotB x y = v) (w : World) : Calls Try.prog 57 #[.agg #[.int .i64 x, .int .i64 y]] w fun e w' => e = .returned (.bool v) ∧ Below w.heap.size w w' := hv ▸ l1Spot_any x y w
theorem szB_i {s : ByteArray} {v : Bool} (h : szB s = v) : decide ((s.size : Int) ≤ 20) = v := by rw [← h]; unfold szB; exact decide_eq_decide.mpr (by omega)
theorem isNaN_any (x : Int) (w : World) : Calls Try.prog 59 #[.int .i64 x] w fun e w' => e = .returned (.bool false) ∧ w' = w := by
  go_enter Try.func59, Try.ntmps59
  go_wp2
  go_ret
  exact ⟨rfl, rfl⟩
def cmpZ (a b : Int) : Int := if a < b then -1 else if b < a then 1 else 0
theorem compare_any (a b : Int) (w : World) : Calls Try.prog 46 #[.int .i64 a, .int .i64 b] w fun e w' => e = .returned (.int .i64 (cmpZ a b)) ∧ w' = w := by
  unfold cmpZ
  by_cases h1 : a < b
  · go_enter Try.func46, Try.ntmps46
    go_wp2_with (go_at_call 59; refine (isNaN_any _ _).mono ?_; rintro e w1 ⟨rfl, rfl⟩)
    go_ret
    exact ⟨by first | rfl | simp, rfl⟩
  · by_cases h2 : b < a
    · go_enter Try.func46, Try.ntmps46
      go_wp2_with (go_at_call 59; refine (isNaN_any _ _).mono ?_; rintro e w1 ⟨rfl, rfl⟩)
      go_ret
      exact ⟨by first | rfl | simp, rfl⟩
    · go_enter Try.func46, Try.ntmps46
      go_wp2_with (go_at_call 59; refine (isNaN_any _ _).mono ?_; rintro e w1 ⟨rfl, rfl⟩)
      go_ret
      exact ⟨by first | rfl | simp, rfl⟩
theorem cmpZ_pair (a b : Rc) : cmpI a b = if cmpZ a.t b.t = 0 then cmpZ a.i b.i else cmpZ a.t b.t := by
  unfold cmpI cmpZ
  repeat' split
  all_goals omega
end Go.Proofs.Ytobbankkfplooaa.K
