/-
  Contracts of the small functions of chapters 1 and 2 (the spec's and the program's) over numbers: what each returns for whatever numbers; nothing old in memory turns.
-/
import Derived.Test.YtkinbgcnenieeaaRows
import Derived.WalkKit
import Derived.WalkSpells
import Derived.WalkLawsBesides
import Derived.RowKit3
import Derived.Lib.SmallJoins
import Derived.Deep.QuietTactic
import Derived.BigQuiet
namespace Go.Proofs.Ytkinbgcnenieeaa.M
open Go.RowKit Go.Joins

def spB (x y : Int) : Bool := decide (0 ≤ x ∧ x ≤ 255 ∧ 0 ≤ y ∧ y ≤ 255)
theorem spB_t {x y : Int} : spB x y = true ↔ (0 ≤ x ∧ x ≤ 255 ∧ 0 ≤ y ∧ y ≤ 255) := by unfold spB; exact decide_eq_true_iff
def levB (l : Int) : Bool := decide (0 ≤ l ∧ l ≤ 8)
theorem levB_t {l : Int} : levB l = true ↔ (0 ≤ l ∧ l ≤ 8) := by unfold levB; exact decide_eq_true_iff
def inB (x a b : Int) : Bool := decide (a ≤ x ∧ x ≤ b)
theorem inB_t {x a b : Int} : inB x a b = true ↔ (a ≤ x ∧ x ≤ b) := by unfold inB; exact decide_eq_true_iff
def cellB (l x y : Int) : Bool := decide (0 ≤ l ∧ l ≤ 8 ∧ 0 ≤ x ∧ x < 2 ^ l.toNat ∧ 0 ≤ y ∧ y < 2 ^ l.toNat)
theorem cellB_t {l x y : Int} : cellB l x y = true ↔ (0 ≤ l ∧ l ≤ 8 ∧ 0 ≤ x ∧ x < 2 ^ l.toNat ∧ 0 ≤ y ∧ y < 2 ^ l.toNat) := by unfold cellB; exact decide_eq_true_iff
theorem nine {l : Int} (h0 : 0 ≤ l) (h8 : l ≤ 8) : l = 0 ∨ l = 1 ∨ l = 2 ∨ l = 3 ∨ l = 4 ∨ l = 5 ∨ l = 6 ∨ l = 7 ∨ l = 8 := by omega
theorem pw {l : Int} (h0 : 0 ≤ l) (h8 : l ≤ 8) : (1 : Int) ≤ 2 ^ l.toNat ∧ (2 : Int) ^ l.toNat ≤ 256 := by
  rcases nine h0 h8 with rfl | rfl | rfl | rfl | rfl | rfl | rfl | rfl | rfl <;> decide
theorem pw8 {l : Int} (h0 : 0 ≤ l) (h8 : l ≤ 8) : (2 : Int) ^ (8 - l).toNat = 256 / 2 ^ l.toNat := by
  rcases nine h0 h8 with rfl | rfl | rfl | rfl | rfl | rfl | rfl | rfl | rfl <;> decide
theorem pwm {l : Int} (h0 : 0 ≤ l) (h8 : l ≤ 8) : (2 : Int) ^ l.toNat * (2 : Int) ^ (8 - l).toNat = 256 := by
  rcases nine h0 h8 with rfl | rfl | rfl | rfl | rfl | rfl | rfl | rfl | rfl <;> decide
theorem w64 {a : Int} (h0 : -1 ≤ a) (h1 : a ≤ 100000000) : wrap64 a = a := by unfold wrap64; omega
theorem spB_f {x y : Int} : spB x y = false ↔ ¬ (0 ≤ x ∧ x ≤ 255 ∧ 0 ≤ y ∧ y ≤ 255) := by unfold spB; exact decide_eq_false_iff_not

theorem ret_bool {a b : Bool} (h : a = b) : Ending.returned (.bool a) = .returned (.bool b) := by rw [h]
theorem ret_i64 {a b : Int} (h : a = b) : Ending.returned (.int .i64 a) = .returned (.int .i64 b) := by rw [h]
theorem bcell {W w1 : World} (hb : Below W.heap.size W w1) : (∀ b o, b < W.heap.size → w1.cell? ⟨b, o, none⟩ = W.cell? ⟨b, o, none⟩) ∧ (∀ b o, b < W.heap.size → w1.frozen? ⟨b, o, none⟩ = W.frozen? ⟨b, o, none⟩) :=
  ⟨fun b o h => hb.cell (p := ⟨b, o, none⟩) h, fun b o h => hb.frozen (p := ⟨b, o, none⟩) h⟩

theorem bstep {B : Nat} {W w1 w2 : World} (h : Below B W w1) (hb : Below w1.heap.size w1 w2) (hB : B ≤ W.heap.size) : Below B W w2 := h.trans (hb.mono (Nat.le_trans hB h.size))
theorem bstepA {B : Nat} {W w1 w2 : World} {o : Obj} (h : Below B W w1) (hb : Below (w1.alloc o).heap.size (w1.alloc o) w2) (hB : B ≤ W.heap.size) : Below B W w2 :=
  bstep (h.alloc (Nat.le_trans hB h.size) o) hb hB
theorem bstepB {B : Nat} {W w1 w2 : World} {o o2 : Obj} (h : Below B W w1) (hb : Below ((w1.alloc o).alloc o2).heap.size ((w1.alloc o).alloc o2) w2) (hB : B ≤ W.heap.size) : Below B W w2 :=
  bstepA (h.alloc (Nat.le_trans hB h.size) o) hb hB
theorem ba1 {w w1 : World} {o : Obj} (hb : Below (w.alloc o).heap.size (w.alloc o) w1) : Below w.heap.size w w1 := (below_alloc1 w o).trans (hb.mono (by simp))
theorem ba2 {w w1 : World} {o p : Obj} (hb : Below ((w.alloc o).alloc p).heap.size ((w.alloc o).alloc p) w1) : Below w.heap.size w w1 := (below_alloc2 w o p).trans (hb.mono (by simp; omega))
theorem ba3 {w w1 : World} {o p q : Obj} (hb : Below (((w.alloc o).alloc p).alloc q).heap.size (((w.alloc o).alloc p).alloc q) w1) : Below w.heap.size w w1 := (below_alloc3 w o p q).trans (hb.mono (by simp; omega))

theorem sc4 {B : Nat} {w w1 : World} {g : Nat} (h : Below B w w1) (hg : B ≤ g) {v0 v1 v2 v3 : Value} : Below B w ((((w1.setCell ⟨g, 0, none⟩ v0).setCell ⟨g, 1, none⟩ v1).setCell ⟨g, 2, none⟩ v2).setCell ⟨g, 3, none⟩ v3) :=
  (((h.setCell (p := ⟨g, 0, none⟩) hg v0).setCell (p := ⟨g, 1, none⟩) hg v1).setCell (p := ⟨g, 2, none⟩) hg v2).setCell (p := ⟨g, 3, none⟩) hg v3
theorem sc2 {B : Nat} {w w1 : World} {g : Nat} (h : Below B w w1) (hg : B ≤ g) {v0 v1 : Value} : Below B w ((w1.setCell ⟨g, 0, none⟩ v0).setCell ⟨g, 1, none⟩ v1) :=
  (h.setCell (p := ⟨g, 0, none⟩) hg v0).setCell (p := ⟨g, 1, none⟩) hg v1


theorem sc3 {B : Nat} {w w1 : World} {g : Nat} (h : Below B w w1) (hg : B ≤ g) {v0 v1 v2 : Value} : Below B w (((w1.setCell ⟨g, 0, none⟩ v0).setCell ⟨g, 1, none⟩ v1).setCell ⟨g, 2, none⟩ v2) :=
  ((h.setCell (p := ⟨g, 0, none⟩) hg v0).setCell (p := ⟨g, 1, none⟩) hg v1).setCell (p := ⟨g, 2, none⟩) hg v2

set_option maxHeartbeats 400000 in
theorem isLevel_any (l : Int) (w : World) :
    Calls Try.prog 64 #[.int .i64 l] w fun e w' => e = .returned (.bool (levB l)) ∧ w' = w := by
  go_enter Try.func64, Try.ntmps64
  go_wp2
  all_goals (go_ret; exact ⟨ret_bool (by unfold levB; first | exact (decide_eq_true (by omega)).symm | exact (decide_eq_false (by omega)).symm | exact decide_eq_decide.mpr (by omega)), rfl⟩)

set_option maxHeartbeats 400000 in
theorem l1In_any (x a b : Int) (w : World) :
    Calls Try.prog 20 #[.int .i64 x, .int .i64 a, .int .i64 b] w fun e w' => e = .returned (.bool (inB x a b)) ∧ w' = w := by
  go_enter Try.func20, Try.ntmps20
  go_wp2
  all_goals (go_ret; exact ⟨ret_bool (by unfold inB; first | exact (decide_eq_true (by omega)).symm | exact (decide_eq_false (by omega)).symm | exact decide_eq_decide.mpr (by omega)), rfl⟩)

set_option maxHeartbeats 400000 in
theorem toCell_any (l x y : Int) (w : World) :
    Calls Try.prog 61 #[.agg #[.int .i64 l, .int .i64 x, .int .i64 y]] w fun e w' => e = .returned (.agg #[.int .i64 l, .int .i64 x, .int .i64 y]) ∧ Below w.heap.size w w' := by
  go_enter Try.func61, Try.ntmps61
  go_wp2
  refine bodyPost_ret (v := .agg #[.int .i64 l, .int .i64 x, .int .i64 y]) (by simp [results, Try.results61, go_sem]) rfl ⟨rfl, ?_⟩
  exact below_alloc3 _ _ _ _

set_option maxHeartbeats 400000 in
theorem toSpot_any (x y : Int) (w : World) :
    Calls Try.prog 8 #[.agg #[.int .i64 x, .int .i64 y]] w fun e w' => e = .returned (.agg #[.int .i64 x, .int .i64 y]) ∧ Below w.heap.size w w' := by
  go_enter Try.func8, Try.ntmps8
  go_wp2
  refine bodyPost_ret (v := .agg #[.int .i64 x, .int .i64 y]) (by simp [results, Try.results8, go_sem]) rfl ⟨rfl, ?_⟩
  exact below_alloc3 _ _ _ _

set_option maxHeartbeats 400000 in
theorem spRight_any (x y : Int) (w : World) :
    Calls Try.prog 54 #[.agg #[.int .i64 x, .int .i64 y]] w fun e w' => e = .returned (.bool (spB x y)) ∧ Below w.heap.size w w' := by
  go_enter Try.func54, Try.ntmps54
  go_wp2
  all_goals (go_ret; exact ⟨ret_bool (by unfold spB; first | exact (decide_eq_true (by omega)).symm | exact (decide_eq_false (by omega)).symm | exact decide_eq_decide.mpr (by omega)), below_alloc1 _ _⟩)

set_option maxHeartbeats 400000 in
theorem sSpot_any (x y : Int) (w : World) :
    Calls Try.prog 19 #[.agg #[.int .i64 x, .int .i64 y]] w fun e w' => e = .returned (.bool (spB x y)) ∧ Below w.heap.size w w' := by
  go_enter Try.func19, Try.ntmps19
  go_wp2_with (first | (go_at_call 20; refine (l1In_any _ _ _ _).mono ?_; rintro e w1 ⟨rfl, rfl⟩))
  all_goals (go_ret; exact ⟨ret_bool (by simp only [inB, spB, decide_eq_true_eq] at *; first | exact (decide_eq_true (by omega)).symm | exact (decide_eq_false (by omega)).symm | exact decide_eq_decide.mpr (by omega)), below_alloc1 _ _⟩)

set_option maxHeartbeats 400000 in
theorem sCellOk_any (l x y : Int) (w : World) :
    Calls Try.prog 60 #[.agg #[.int .i64 l, .int .i64 x, .int .i64 y]] w fun e w' => e = .returned (.bool (cellB l x y)) ∧ Below w.heap.size w w' := by
  cases hv : inB l 0 8
  · go_enter Try.func60, Try.ntmps60
    go_wp2_with (first | (go_at_call 20; refine (l1In_any _ _ _ _).mono ?_; rintro e w1 ⟨rfl, rfl⟩; try rw [hv]))
    go_ret
    exact ⟨ret_bool (by unfold inB at hv; unfold cellB; have := of_decide_eq_false hv; exact (decide_eq_false (by omega)).symm), below_alloc1 _ _⟩
  · obtain ⟨h0, h8⟩ := inB_t.mp hv
    obtain ⟨p1, p2⟩ := pw h0 h8
    have e1 : wrap64 (wrap64 (2 ^ l.toNat) - 1) = 2 ^ l.toNat - 1 := by rw [w64 (a := 2 ^ l.toNat) (by omega) (by omega), w64 (by omega) (by omega)]
    go_enter Try.func60, Try.ntmps60
    go_wp2_with (first | (go_at_call 20; refine (l1In_any _ _ _ _).mono ?_; rintro e w1 ⟨rfl, rfl⟩; try rw [hv]))
    all_goals (go_ret; exact ⟨ret_bool (by rw [e1] at *; simp only [inB, cellB, decide_eq_true_eq] at *; first | exact (decide_eq_true (by omega)).symm | exact (decide_eq_false (by omega)).symm | exact decide_eq_decide.mpr (by omega)), below_alloc1 _ _⟩)

end Go.Proofs.Ytkinbgcnenieeaa.M
