/-
  Lists of Cells in memory, and the looks whether they are right.
-/
import Derived.Test.YtkinbgcnenieeaaGreatDoorRows
import Derived.WalkKit
import Derived.WalkSpells
import Derived.WalkLawsBesides
import Derived.RowKit3
import Derived.Lib.SmallJoins
import Derived.Deep.QuietTactic
import Derived.BigQuiet
namespace Go.Proofs.YtkinbgcnenieeaaGreatDoor.M
open Go.RowKit Go.Joins

def spB (x y : Int) : Bool := decide (0 ≤ x ∧ x ≤ 255 ∧ 0 ≤ y ∧ y ≤ 255)
theorem spB_t {x y : Int} : spB x y = true ↔ (0 ≤ x ∧ x ≤ 255 ∧ 0 ≤ y ∧ y ≤ 255) := by unfold spB; exact decide_eq_true_iff
def levB (l : Int) : Bool := decide (0 ≤ l ∧ l ≤ 8)
theorem levB_t {l : Int} : levB l = true ↔ (0 ≤ l ∧ l ≤ 8) := by unfold levB; exact decide_eq_true_iff
def inB (x a b : Int) : Bool := decide (a ≤ x ∧ x ≤ b)
theorem inB_t {x a b : Int} : inB x a b = true ↔ (a ≤ x ∧ x ≤ b) := by unfold inB; exact decide_eq_true_iff
def cellB (l x y : Int) : Bool := decide (0 ≤ l ∧ l ≤ 8 ∧ 0 ≤ x ∧ x < 2 ^ l.toNat ∧ 0 ≤ y ∧ y < 2 ^ l.toNat)
theorem cellB_t {l x y : Int} : cellB l x y = true ↔ (0 ≤ l ∧ l ≤ 8 ∧ 0 ≤ x ∧ x < 2 ^ l.toNat ∧ 0 ≤ y ∧ y < 2 ^ l.toNat) := by unfold cellB; exact decide_eq_true_iff
theorem nine {l : Int} (h0 : 0 ≤ l) (h8 : l ≤ 8) : l = 0 ∨ l = 1 ∨ l = 2 ∨ l = 3 ∨ l = 4 ∨ l = 5 ∨ l = 6 ∨ l = 7 ∨ l = 8 := by omega
theorem pw {l : Int} (h0 : 0 ≤ l) (h8 : l ≤ 8) : (1 : Int) ≤ 2 ^ l.toNat ∧ (2 : Int) ^ l.toNat ≤ 256 := by
  rcases nine h0 h8 with rfl | rfl | rfl | rfl | rfl | rfl | rfl | rfl | rfl <;> decide
theorem pw8 {l : Int} (h0 : 0 ≤ l) (h8 : l ≤ 8) : (2 : Int) ^ (8 - l).toNat = 256 / 2 ^ l.toNat := by
  rcases nine h0 h8 with rfl | rfl | rfl | rfl | rfl | rfl | rfl | rfl | rfl <;> decide
theorem pwm {l : Int} (h0 : 0 ≤ l) (h8 : l ≤ 8) : (2 : Int) ^ l.toNat * (2 : Int) ^ (8 - l).toNat = 256 := by
  rcases nine h0 h8 with rfl | rfl | rfl | rfl | rfl | rfl | rfl | rfl | rfl <;> decide
theorem w64 {a : Int} (h0 : -1 ≤ a) (h1 : a ≤ 100000000) : wrap64 a = a := by unfold wrap64; omega
theorem spB_f {x y : Int} : spB x y = false ↔ ¬ (0 ≤ x ∧ x ≤ 255 ∧ 0 ≤ y ∧ y ≤ 255) := by unfold spB; exact decide_eq_false_iff_not

theorem ret_bool {a b : Bool} (h : a = b) : Ending.returned (.bool a) = .returned (.bool b) := by rw [h]
theorem ret_i64 {a b : Int} (h : a = b) : Ending.returned (.int .i64 a) = .returned (.int .i64 b) := by rw [h]
theorem bcell {W w1 : World} (hb : Below W.heap.size W w1) : (∀ b o, b < W.heap.size → w1.cell? ⟨b, o, none⟩ = W.cell? ⟨b, o, none⟩) ∧ (∀ b o, b < W.heap.size → w1.frozen? ⟨b, o, none⟩ = W.frozen? ⟨b, o, none⟩) :=
  ⟨fun b o h => hb.cell (p := ⟨b, o, none⟩) h, fun b o h => hb.frozen (p := ⟨b, o, none⟩) h⟩

theorem bstep {B : Nat} {W w1 w2 : World} (h : Below B W w1) (hb : Below w1.heap.size w1 w2) (hB : B ≤ W.heap.size) : Below B W w2 := h.trans (hb.mono (Nat.le_trans hB h.size))
theorem bstepA {B : Nat} {W w1 w2 : World} {o : Obj} (h : Below B W w1) (hb : Below (w1.alloc o).heap.size (w1.alloc o) w2) (hB : B ≤ W.heap.size) : Below B W w2 :=
  bstep (h.alloc (Nat.le_trans hB h.size) o) hb hB
theorem bstepB {B : Nat} {W w1 w2 : World} {o o2 : Obj} (h : Below B W w1) (hb : Below ((w1.alloc o).alloc o2).heap.size ((w1.alloc o).alloc o2) w2) (hB : B ≤ W.heap.size) : Below B W w2 :=
  bstepA (h.alloc (Nat.le_trans hB h.size) o) hb hB
theorem ba1 {w w1 : World} {o : Obj} (hb : Below (w.alloc o).heap.size (w.alloc o) w1) : Below w.heap.size w w1 := (below_alloc1 w o).trans (hb.mono (by simp))
theorem ba2 {w w1 : World} {o p : Obj} (hb : Below ((w.alloc o).alloc p).heap.size ((w.alloc o).alloc p) w1) : Below w.heap.size w w1 := (below_alloc2 w o p).trans (hb.mono (by simp; omega))
theorem ba3 {w w1 : World} {o p q : Obj} (hb : Below (((w.alloc o).alloc p).alloc q).heap.size (((w.alloc o).alloc p).alloc q) w1) : Below w.heap.size w w1 := (below_alloc3 w o p q).trans (hb.mono (by simp; omega))

theorem sc4 {B : Nat} {w w1 : World} {g : Nat} (h : Below B w w1) (hg : B ≤ g) {v0 v1 v2 v3 : Value} : Below B w ((((w1.setCell ⟨g, 0, none⟩ v0).setCell ⟨g, 1, none⟩ v1).setCell ⟨g, 2, none⟩ v2).setCell ⟨g, 3, none⟩ v3) :=
  (((h.setCell (p := ⟨g, 0, none⟩) hg v0).setCell (p := ⟨g, 1, none⟩) hg v1).setCell (p := ⟨g, 2, none⟩) hg v2).setCell (p := ⟨g, 3, none⟩) hg v3
theorem sc2 {B : Nat} {w w1 : World} {g : Nat} (h : Below B w w1) (hg : B ≤ g) {v0 v1 : Value} : Below B w ((w1.setCell ⟨g, 0, none⟩ v0).setCell ⟨g, 1, none⟩ v1) :=
  (h.setCell (p := ⟨g, 0, none⟩) hg v0).setCell (p := ⟨g, 1, none⟩) hg v1


theorem sc3 {B : Nat} {w w1 : World} {g : Nat} (h : Below B w w1) (hg : B ≤ g) {v0 v1 v2 : Value} : Below B w (((w1.setCell ⟨g, 0, none⟩ v0).setCell ⟨g, 1, none⟩ v1).setCell ⟨g, 2, none⟩ v2) :=
  ((h.setCell (p := ⟨g, 0, none⟩) hg v0).setCell (p := ⟨g, 1, none⟩) hg v1).setCell (p := ⟨g, 2, none⟩) hg v2

set_option maxHeartbeats 400000 in
theorem isLevel_any (l : Int) (w : World) :
    Calls Tryz.prog 93 #[.int .i64 l] w fun e w' => e = .returned (.bool (levB l)) ∧ w' = w := by
  go_enter Tryz.func93, Tryz.ntmps93
  go_wp2
  all_goals (go_ret; exact ⟨ret_bool (by unfold levB; first | exact (decide_eq_true (by omega)).symm | exact (decide_eq_false (by omega)).symm | exact decide_eq_decide.mpr (by omega)), rfl⟩)

set_option maxHeartbeats 400000 in
theorem l1In_any (x a b : Int) (w : World) :
    Calls Tryz.prog 42 #[.int .i64 x, .int .i64 a, .int .i64 b] w fun e w' => e = .returned (.bool (inB x a b)) ∧ w' = w := by
  go_enter Tryz.func42, Tryz.ntmps42
  go_wp2
  all_goals (go_ret; exact ⟨ret_bool (by unfold inB; first | exact (decide_eq_true (by omega)).symm | exact (decide_eq_false (by omega)).symm | exact decide_eq_decide.mpr (by omega)), rfl⟩)

set_option maxHeartbeats 400000 in
theorem spRight_any (x y : Int) (w : World) :
    Calls Tryz.prog 79 #[.agg #[.int .i64 x, .int .i64 y]] w fun e w' => e = .returned (.bool (spB x y)) ∧ Below w.heap.size w w' := by
  go_enter Tryz.func79, Tryz.ntmps79
  go_wp2
  all_goals (go_ret; exact ⟨ret_bool (by unfold spB; first | exact (decide_eq_true (by omega)).symm | exact (decide_eq_false (by omega)).symm | exact decide_eq_decide.mpr (by omega)), below_alloc1 _ _⟩)

set_option maxHeartbeats 400000 in
theorem sCellOk_any (l x y : Int) (w : World) :
    Calls Tryz.prog 71 #[.agg #[.int .i64 l, .int .i64 x, .int .i64 y]] w fun e w' => e = .returned (.bool (cellB l x y)) ∧ Below w.heap.size w w' := by
  cases hv : inB l 0 8
  · go_enter Tryz.func71, Tryz.ntmps71
    go_wp2_with (first | (go_at_call 42; refine (l1In_any _ _ _ _).mono ?_; rintro e w1 ⟨rfl, rfl⟩; try rw [hv]))
    go_ret
    exact ⟨ret_bool (by unfold inB at hv; unfold cellB; have := of_decide_eq_false hv; exact (decide_eq_false (by omega)).symm), below_alloc1 _ _⟩
  · obtain ⟨h0, h8⟩ := inB_t.mp hv
    obtain ⟨p1, p2⟩ := pw h0 h8
    have e1 : wrap64 (wrap64 (2 ^ l.toNat) - 1) = 2 ^ l.toNat - 1 := by rw [w64 (a := 2 ^ l.toNat) (by omega) (by omega), w64 (by omega) (by omega)]
    go_enter Tryz.func71, Tryz.ntmps71
    go_wp2_with (first | (go_at_call 42; refine (l1In_any _ _ _ _).mono ?_; rintro e w1 ⟨rfl, rfl⟩; try rw [hv]))
    all_goals (go_ret; exact ⟨ret_bool (by rw [e1] at *; simp only [inB, cellB, decide_eq_true_eq] at *; first | exact (decide_eq_true (by omega)).symm | exact (decide_eq_false (by omega)).symm | exact decide_eq_decide.mpr (by omega)), below_alloc1 _ _⟩)

end Go.Proofs.YtkinbgcnenieeaaGreatDoor.M
namespace Go.Proofs.YtkinbgcnenieeaaGreatDoor.M
open Go.RowKit Go.Joins

theorem bdrewN {B : Nat} {a w : World} (h : Below B a w) (n : Nat) : Below B a (w.drewN n) := h.trans ⟨rfl, rfl, rfl, Nat.le_refl _, fun _ _ => rfl⟩
theorem isLevel_v {l : Int} {v : Bool} (hv : levB l = v) (w : World) :
    Calls Tryz.prog 93 #[.int .i64 l] w fun e w' => e = .returned (.bool v) ∧ w' = w := by subst hv; exact isLevel_any l w

set_option maxHeartbeats 1000000 in
theorem isRight_any (l x y : Int) (w : World) :
    Calls Tryz.prog 83 #[.agg #[.int .i64 l, .int .i64 x, .int .i64 y]] w fun e w' => e = .returned (.bool (cellB l x y)) ∧ Below w.heap.size w w' := by
  cases hv : levB l
  · go_enter Tryz.func83, Tryz.ntmps83
    go_wp2
    go_quiet ((go_at_call 93; refine Calls.quiet_of_same (isLevel_v hv _)))
    go_wp2
    go_ret
    exact ⟨ret_bool (by unfold levB at hv; unfold cellB; have := of_decide_eq_false hv; exact (decide_eq_false (by omega)).symm), bdrewN (below_alloc1 _ _) _⟩
  obtain ⟨h0, h8⟩ := levB_t.mp hv
  obtain ⟨p1, p2⟩ := pw h0 h8
  have e1 : wrap64 (2 ^ l.toNat) = 2 ^ l.toNat := w64 (by omega) (by omega)
  cases h1 : decide (0 ≤ x)
  · go_enter Tryz.func83, Tryz.ntmps83
    go_wp2
    go_quiet ((go_at_call 93; refine Calls.quiet_of_same (isLevel_v hv _)))
    go_wp2
    go_ret
    exact ⟨ret_bool (by unfold cellB; have := of_decide_eq_false h1; exact (decide_eq_false (by omega)).symm), bdrewN (below_alloc1 _ _) _⟩
  have k1 : 0 ≤ x := of_decide_eq_true h1
  cases h2 : decide (x < 2 ^ l.toNat)
  · go_enter Tryz.func83, Tryz.ntmps83
    go_wp2
    go_quiet ((go_at_call 93; refine Calls.quiet_of_same (isLevel_v hv _)))
    go_wp2
    go_ret
    exact ⟨ret_bool (by unfold cellB; have := of_decide_eq_false h2; exact (decide_eq_false (by omega)).symm), bdrewN (below_alloc1 _ _) _⟩
  have k2 : x < 2 ^ l.toNat := of_decide_eq_true h2
  cases h3 : decide (0 ≤ y)
  · go_enter Tryz.func83, Tryz.ntmps83
    go_wp2
    go_quiet ((go_at_call 93; refine Calls.quiet_of_same (isLevel_v hv _)))
    go_wp2
    go_ret
    exact ⟨ret_bool (by unfold cellB; have := of_decide_eq_false h3; exact (decide_eq_false (by omega)).symm), bdrewN (below_alloc1 _ _) _⟩
  have k3 : 0 ≤ y := of_decide_eq_true h3
  go_enter Tryz.func83, Tryz.ntmps83
  go_wp2
  go_quiet ((go_at_call 93; refine Calls.quiet_of_same (isLevel_v hv _)))
  go_wp2
  go_ret
  exact ⟨ret_bool (by unfold cellB; exact decide_eq_decide.mpr (by omega)), bdrewN (below_alloc1 _ _) _⟩

end Go.Proofs.YtkinbgcnenieeaaGreatDoor.M
namespace Go.Proofs.YtkinbgcnenieeaaGreatDoor.M
open Go.RowKit Go.Joins

def sd (l : Int) : Int := 256 / 2 ^ l.toNat
def rX (l x y : Int) : Int := if cellB l x y then x * sd l else 0
def rY (l x y : Int) : Int := if cellB l x y then y * sd l else 0
def rS (l x y : Int) : Int := if cellB l x y then sd l else 0
def uL (l x y : Int) : Int := if cellB l x y then (if l = 0 then 0 else l - 1) else 0
def uX (l x y : Int) : Int := if cellB l x y then (if l = 0 then 0 else x / 2) else 0
def uY (l x y : Int) : Int := if cellB l x y then (if l = 0 then 0 else y / 2) else 0
def aL (s t l : Int) : Int := if spB s t && levB l then l else 0
def aX (s t l : Int) : Int := if spB s t && levB l then s / 2 ^ (8 - l).toNat else 0
def aY (s t l : Int) : Int := if spB s t && levB l then t / 2 ^ (8 - l).toNat else 0
theorem sd_bd {l : Int} (h0 : 0 ≤ l) (h8 : l ≤ 8) : 1 ≤ sd l ∧ sd l ≤ 256 := by
  unfold sd; rcases nine h0 h8 with rfl | rfl | rfl | rfl | rfl | rfl | rfl | rfl | rfl <;> decide
theorem sd_mul {l : Int} (h0 : 0 ≤ l) (h8 : l ≤ 8) : 2 ^ l.toNat * sd l = 256 := by
  unfold sd; rcases nine h0 h8 with rfl | rfl | rfl | rfl | rfl | rfl | rfl | rfl | rfl <;> decide
theorem mul_bd {x l : Int} (h0 : 0 ≤ l) (h8 : l ≤ 8) (hx : 0 ≤ x) (hx1 : x < 2 ^ l.toNat) : 0 ≤ x * sd l ∧ x * sd l + sd l ≤ 256 := by
  obtain ⟨h1, h2⟩ := sd_bd h0 h8
  have h3 := sd_mul h0 h8
  refine ⟨Int.mul_nonneg hx (by omega), ?_⟩
  have : (x + 1) * sd l ≤ 2 ^ l.toNat * sd l := Int.mul_le_mul_of_nonneg_right (by omega) (by omega)
  rw [Int.add_mul] at this; omega
theorem cell_lev {l x y : Int} (h : cellB l x y = true) : 0 ≤ l ∧ l ≤ 8 := ⟨(cellB_t.mp h).1, (cellB_t.mp h).2.1⟩

theorem sCellOk_v {l x y : Int} {v : Bool} (hv : cellB l x y = v) (w : World) :
    Calls Tryz.prog 71 #[.agg #[.int .i64 l, .int .i64 x, .int .i64 y]] w fun e w' => e = .returned (.bool v) ∧ Below w.heap.size w w' := by subst hv; exact sCellOk_any l x y w
theorem isRight_v {l x y : Int} {v : Bool} (hv : cellB l x y = v) (w : World) :
    Calls Tryz.prog 83 #[.agg #[.int .i64 l, .int .i64 x, .int .i64 y]] w fun e w' => e = .returned (.bool v) ∧ Below w.heap.size w w' := by subst hv; exact isRight_any l x y w
theorem spRight_v {x y : Int} {v : Bool} (hv : spB x y = v) (w : World) :
    Calls Tryz.prog 79 #[.agg #[.int .i64 x, .int .i64 y]] w fun e w' => e = .returned (.bool v) ∧ Below w.heap.size w w' := by subst hv; exact spRight_any x y w
theorem l1In_v {x a b : Int} {v : Bool} (hv : inB x a b = v) (w : World) :
    Calls Tryz.prog 42 #[.int .i64 x, .int .i64 a, .int .i64 b] w fun e w' => e = .returned (.bool v) ∧ w' = w := by subst hv; exact l1In_any x a b w

set_option maxHeartbeats 1000000 in
theorem iUp_any (l x y : Int) (w : World) :
    Calls Tryz.prog 109 #[.agg #[.int .i64 l, .int .i64 x, .int .i64 y]] w fun e w' => e = .returned (.agg #[.int .i64 (uL l x y), .int .i64 (uX l x y), .int .i64 (uY l x y)]) ∧ Below w.heap.size w w' := by
  cases h : cellB l x y
  · have ex : uL l x y = 0 := by simp [uL, h]
    have ey : uX l x y = 0 := by simp [uX, h]
    have es : uY l x y = 0 := by simp [uY, h]
    rw [ex, ey, es]
    go_enter Tryz.func109, Tryz.ntmps109
    go_wp2_with (go_at_call 83; refine (isRight_v h _).mono ?_; rintro e w1 ⟨rfl, hb2⟩; (first | replace hb := bstep hb hb2 (Nat.le_refl _) | have hb := hb2); obtain ⟨hc, hf⟩ := bcell hb)
    refine bodyPost_ret (v := .agg #[.int .i64 0, .int .i64 0, .int .i64 0]) (by simp [results, Tryz.results109, go_sem, hc]) rfl ⟨rfl, ?_⟩
    exact sc3 (ba2 hb) (Nat.le_succ _)
  obtain ⟨h0, h8, hx, hx1, hy, hy1⟩ := cellB_t.mp h
  obtain ⟨p1, p2⟩ := pw h0 h8
  by_cases k : l = 0
  · subst k
    have ex : uL 0 x y = 0 := by simp [uL]
    have ey : uX 0 x y = 0 := by simp [uX]
    have es : uY 0 x y = 0 := by simp [uY]
    simp at hx1 hy1
    obtain rfl : x = 0 := by omega
    obtain rfl : y = 0 := by omega
    rw [ex, ey, es]
    go_enter Tryz.func109, Tryz.ntmps109
    go_wp2_with (go_at_call 83; refine (isRight_v h _).mono ?_; rintro e w1 ⟨rfl, hb2⟩; (first | replace hb := bstep hb hb2 (Nat.le_refl _) | have hb := hb2); obtain ⟨hc, hf⟩ := bcell hb)
    refine bodyPost_ret (v := .agg #[.int .i64 0, .int .i64 0, .int .i64 0]) (by simp [results, Tryz.results109, go_sem, hc]) rfl ⟨rfl, ?_⟩
    exact sc3 (ba2 hb) (Nat.le_succ _)
  · have ex : uL l x y = l - 1 := by simp [uL, h, k]
    have ey : uX l x y = x / 2 := by simp [uX, h, k]
    have es : uY l x y = y / 2 := by simp [uY, h, k]
    have hk : (l == 0) = false := by simpa using k
    have f1 : wrap64 (l - 1) = l - 1 := w64 (by omega) (by omega)
    have d1 : x.tdiv 2 = x / 2 := Int.tdiv_eq_ediv_of_nonneg hx
    have d2 : y.tdiv 2 = y / 2 := Int.tdiv_eq_ediv_of_nonneg hy
    have d3 : wrap64 (x / 2) = x / 2 := w64 (by omega) (by omega)
    have d4 : wrap64 (y / 2) = y / 2 := w64 (by omega) (by omega)
    rw [ex, ey, es]
    go_enter Tryz.func109, Tryz.ntmps109
    go_wp2_with (go_at_call 83; refine (isRight_v h _).mono ?_; rintro e w1 ⟨rfl, hb2⟩; (first | replace hb := bstep hb hb2 (Nat.le_refl _) | have hb := hb2); obtain ⟨hc, hf⟩ := bcell hb)
    refine bodyPost_ret (v := .agg #[.int .i64 (l - 1), .int .i64 (x / 2), .int .i64 (y / 2)]) (by simp [results, Tryz.results109, go_sem, hc]) rfl ⟨rfl, ?_⟩
    exact sc3 (ba2 hb) (Nat.le_succ _)

set_option maxHeartbeats 1000000 in
theorem iCellAt_any (s t l : Int) (w : World) :
    Calls Tryz.prog 81 #[.agg #[.int .i64 s, .int .i64 t], .int .i64 l] w fun e w' => e = .returned (.agg #[.int .i64 (aL s t l), .int .i64 (aX s t l), .int .i64 (aY s t l)]) ∧ Below w.heap.size w w' := by
  cases h1 : spB s t
  · have h : (spB s t && levB l) = false := by rw [h1]; rfl
    have ex : aL s t l = 0 := by simp [aL, h]
    have ey : aX s t l = 0 := by simp [aX, h]
    have es : aY s t l = 0 := by simp [aY, h]
    rw [ex, ey, es]
    go_enter Tryz.func81, Tryz.ntmps81
    go_wp2_with (go_at_call 79; refine (spRight_v h1 _).mono ?_; rintro e w1 ⟨rfl, hb2⟩; (first | replace hb := bstep hb hb2 (Nat.le_refl _) | have hb := hb2); obtain ⟨hc, hf⟩ := bcell hb)
    refine bodyPost_ret (v := .agg #[.int .i64 0, .int .i64 0, .int .i64 0]) (by simp [results, Tryz.results81, go_sem, hc]) rfl ⟨rfl, ?_⟩
    exact sc3 (ba2 hb) (Nat.le_succ _)
  cases k : levB l
  · have h : (spB s t && levB l) = false := by rw [h1, k]; rfl
    have k1 : levB l = false := k
    have ex : aL s t l = 0 := by simp [aL, h]
    have ey : aX s t l = 0 := by simp [aX, h]
    have es : aY s t l = 0 := by simp [aY, h]
    rw [ex, ey, es]
    go_enter Tryz.func81, Tryz.ntmps81
    go_wp2_with (first | (go_at_call 79; refine (spRight_v h1 _).mono ?_; rintro e w1 ⟨rfl, hb2⟩; (first | replace hb := bstep hb hb2 (Nat.le_refl _) | have hb := hb2); obtain ⟨hc, hf⟩ := bcell hb) | (go_at_call 93; refine (isLevel_v k1 _).mono ?_; rintro e w3 ⟨rfl, rfl⟩))
    refine bodyPost_ret (v := .agg #[.int .i64 0, .int .i64 0, .int .i64 0]) (by simp [results, Tryz.results81, go_sem, hc]) rfl ⟨rfl, ?_⟩
    exact sc3 (ba2 hb) (Nat.le_succ _)
  · have h : (spB s t && levB l) = true := by rw [h1, k]; rfl
    have k1 : levB l = true := k
    obtain ⟨h0, h8⟩ := levB_t.mp k
    obtain ⟨q1, q2, q3, q4⟩ := spB_t.mp h1
    have ex : aL s t l = l := by simp [aL, h]
    have ey : aX s t l = s / 2 ^ (8 - l).toNat := by simp [aX, h]
    have es : aY s t l = t / 2 ^ (8 - l).toNat := by simp [aY, h]
    have f1 : wrap64 (8 - l) = 8 - l := w64 (by omega) (by omega)
    have g1 : 0 ≤ 8 - l := by omega
    have g2 : 8 - l ≤ 64 := by omega
    rw [ex, ey, es]
    go_enter Tryz.func81, Tryz.ntmps81
    go_wp2_with (first | (go_at_call 79; refine (spRight_v h1 _).mono ?_; rintro e w1 ⟨rfl, hb2⟩; (first | replace hb := bstep hb hb2 (Nat.le_refl _) | have hb := hb2); obtain ⟨hc, hf⟩ := bcell hb) | (go_at_call 93; refine (isLevel_v k1 _).mono ?_; rintro e w3 ⟨rfl, rfl⟩))
    go_region
    all_goals go_wp2
    all_goals (refine bodyPost_ret (v := .agg #[.int .i64 l, .int .i64 (s / 2 ^ (8 - l).toNat), .int .i64 (t / 2 ^ (8 - l).toNat)]) (by simp [results, Tryz.results81, go_sem, hc]) rfl ⟨rfl, ?_⟩)
    all_goals exact sc3 (ba2 hb).drew (Nat.le_succ _)

end Go.Proofs.YtkinbgcnenieeaaGreatDoor.M
namespace Go.Proofs.YtkinbgcnenieeaaGreatDoor.M
open Go.RowKit Go.Joins

def HasAt (wx : World) (b : Nat) : Nat → List Value → Prop
  | _, [] => True
  | i, v :: vs => wx.cell? ⟨b, i, none⟩ = some v ∧ HasAt wx b (i + 1) vs
def Has (wx : World) : List (Nat × List Value) → Prop
  | [] => True
  | p :: l => (p.1 < wx.heap.size ∧ (∀ o, wx.frozen? ⟨p.1, o, none⟩ = false) ∧ HasAt wx p.1 0 p.2) ∧ Has wx l
theorem HasAt.step {wx w1 : World} {b : Nat} (hb : Below wx.heap.size wx w1) (hlt : b < wx.heap.size) : ∀ {i : Nat} {vs : List Value}, HasAt wx b i vs → HasAt w1 b i vs
  | _, [], _ => trivial
  | i, _ :: _, ⟨h, t⟩ => ⟨(hb.cell (p := ⟨b, i, none⟩) hlt).trans h, HasAt.step hb hlt t⟩
theorem Has.step {wx w1 : World} (hb : Below wx.heap.size wx w1) : ∀ {l : List (Nat × List Value)}, Has wx l → Has w1 l
  | [], _ => trivial
  | p :: _, ⟨⟨h1, h2, h3⟩, t⟩ => ⟨⟨Nat.lt_of_lt_of_le h1 hb.size, fun o => (hb.frozen (p := ⟨p.1, o, none⟩) h1).trans (h2 o), HasAt.step hb h1 h3⟩, Has.step hb t⟩
theorem Has.mem {wx : World} {p : Nat × List Value} : ∀ {l : List (Nat × List Value)}, Has wx l → p ∈ l → (p.1 < wx.heap.size ∧ (∀ o, wx.frozen? ⟨p.1, o, none⟩ = false) ∧ HasAt wx p.1 0 p.2)
  | _ :: _, ⟨h, t⟩, hm => by
    rcases List.mem_cons.mp hm with rfl | hm
    · exact h
    · exact Has.mem t hm
theorem Has.sub {wx : World} {l : List (Nat × List Value)} (h : Has wx l) : ∀ {l' : List (Nat × List Value)}, (∀ p ∈ l', p ∈ l) → Has wx l'
  | [], _ => trivial
  | p :: _, hs => ⟨h.mem (hs p (List.mem_cons_self ..)), Has.sub h (fun q hq => hs q (List.mem_cons_of_mem _ hq))⟩
theorem hasAt_of {wx : World} {b : Nat} : ∀ (vs : List Value) (i : Nat), (∀ j v, vs[j]? = some v → wx.cell? ⟨b, i + j, none⟩ = some v) → HasAt wx b i vs
  | [], _, _ => trivial
  | v :: vs, i, h => ⟨h 0 v rfl, hasAt_of vs (i + 1) (fun j u hj => by have := h (j + 1) u hj; rwa [show i + (j + 1) = i + 1 + j by omega] at this)⟩

/-- Behind w nothing old has turned; each listed block holds its values. -/
structure St (w wx : World) (l : List (Nat × List Value)) : Prop where
  bel : Below w.heap.size w wx
  has : Has wx l
theorem St.nil (w : World) : St w w [] := ⟨Below.refl _ _, trivial⟩
theorem St.step {w wx w1 : World} {l : List (Nat × List Value)} (h : St w wx l) (hb : Below wx.heap.size wx w1) : St w w1 l := ⟨bstep h.bel hb (Nat.le_refl _), h.has.step hb⟩
theorem St.al {w wx : World} {l : List (Nat × List Value)} (h : St w wx l) (o : Obj) : St w (wx.alloc o) l := h.step (below_alloc1 wx o)
theorem St.dr {w wx : World} {l : List (Nat × List Value)} (h : St w wx l) : St w wx.drew l := h.step (Below.refl _ _).drew
theorem St.sub {w wx : World} {l l' : List (Nat × List Value)} (h : St w wx l) (hs : ∀ p ∈ l', p ∈ l) : St w wx l' := ⟨h.bel, h.has.sub hs⟩
theorem St.push {w wx : World} {l : List (Nat × List Value)} (h : St w wx l) (vs : List Value) (t : TypeId) : St w (wx.alloc (.cells vs.toArray t)) ((wx.heap.size, vs) :: l) := by
  refine ⟨(h.al _).bel, ⟨by simp, fun o => World.frozen?_alloc_at _ _ _ _ rfl, hasAt_of _ _ (fun j v hj => ?_)⟩, (h.al _).has⟩
  rw [Nat.zero_add, World.cell?_alloc_at _ _ _ _ rfl]
  simpa using hj
theorem St.size {w wx : World} {l : List (Nat × List Value)} (h : St w wx l) : w.heap.size ≤ wx.heap.size := h.bel.size

end Go.Proofs.YtkinbgcnenieeaaGreatDoor.M
namespace Go.Proofs.YtkinbgcnenieeaaGreatDoor.M
open Go.RowKit Go.Joins

structure T3 where
  l : Int
  x : Int
  y : Int
def T3.ok (c : T3) : Bool := cellB c.l c.x c.y
def T3.v (c : T3) : Value := .agg #[.int .i64 c.l, .int .i64 c.x, .int .i64 c.y]
def T3.vs (c : T3) : List Value := [.int .i64 c.l, .int .i64 c.x, .int .i64 c.y]

/-- From the cell at off on block g holds the Cells of L, three numbers each. -/
def Cs (w : World) (g off : Nat) (L : List T3) : Prop := g < w.heap.size ∧ ∀ k c, L[k]? = some c → w.cell? ⟨g, off + k * 3, none⟩ = some (.int .i64 c.l) ∧ w.cell? ⟨g, off + k * 3 + 1, none⟩ = some (.int .i64 c.x) ∧ w.cell? ⟨g, off + k * 3 + 2, none⟩ = some (.int .i64 c.y)
/-- A slice at p, as long as L, reads as L. -/
def Sl (w : World) (p : Option Addr) (L : List T3) : Prop := L = [] ∨ ∃ g off, p = some ⟨g, off, none⟩ ∧ Cs w g off L
theorem Cs.step {w w' : World} {g off : Nat} {L : List T3} (h : Cs w g off L) (hb : Below w.heap.size w w') : Cs w' g off L :=
  ⟨Nat.lt_of_lt_of_le h.1 hb.size, fun k c hk => ⟨(hb.cell (p := ⟨g, _, none⟩) h.1).trans (h.2 k c hk).1, (hb.cell (p := ⟨g, _, none⟩) h.1).trans (h.2 k c hk).2.1, (hb.cell (p := ⟨g, _, none⟩) h.1).trans (h.2 k c hk).2.2⟩⟩
theorem Sl.step {w w' : World} {p : Option Addr} {L : List T3} (h : Sl w p L) (hb : Below w.heap.size w w') : Sl w' p L := by
  rcases h with h | ⟨g, off, h1, h2⟩
  · exact .inl h
  · exact .inr ⟨g, off, h1, h2.step hb⟩
theorem Sl.at {w : World} {p : Option Addr} {L : List T3} (h : Sl w p L) {k : Nat} (hk : k < L.length) : ∃ g off, p = some ⟨g, off, none⟩ ∧ Cs w g off L := by
  rcases h with rfl | h
  · simp at hk
  · exact h

def okL (L : List T3) : Bool := decide (L.length ≤ 100) && L.all T3.ok
theorem all_take {L : List T3} {f : T3 → Bool} {k : Nat} (hk : k < L.length) : (L.take (k + 1)).all f = ((L.take k).all f && f L[k]) := by
  rw [List.take_succ_eq_append_getElem hk, List.all_append]; simp
theorem all_no {L : List T3} {f : T3 → Bool} {k : Nat} (hk : k < L.length) (h : f L[k] = false) : L.all f = false := by
  rw [Bool.eq_false_iff]; intro h2; rw [List.all_eq_true] at h2; have := h2 L[k] (List.getElem_mem hk); rw [h] at this; cases this

set_option maxHeartbeats 1000000 in
theorem areRight_any (p : Option Addr) (cap : Nat) (L : List T3) (w : World) (hL : Sl w p L) (hn : L.length ≤ 1048576) :
    Calls Tryz.prog 72 #[.slice p L.length cap] w fun e w' => e = .returned (.bool (okL L)) ∧ Below w.heap.size w w' := by
  by_cases h100 : L.length ≤ 100
  · have hi : (L.length : Int) ≤ 100 := by omega
    go_enter Tryz.func72, Tryz.ntmps72
    go_wp2
    go_loopw [10] (fun i wr => ∃ k : Nat, k ≤ L.length ∧ i = .int .i64 k ∧ (L.take k).all T3.ok = true ∧ Below w.heap.size w wr) (fun i _ => L.length - (intOf i).toNat)
    case atStart => exact ⟨0, by omega, rfl, rfl, Below.refl _ _⟩
    case round =>
      obtain ⟨k, hk, rfl, hall, hb⟩ := hrel
      by_cases hlt : k < L.length
      · have hki : (k : Int) < L.length := by omega
        obtain ⟨g, off, rfl, hC⟩ := (hL.step hb).at hlt
        obtain ⟨c0, c1, c2⟩ := hC.2 k L[k] (List.getElem?_eq_getElem hlt)
        cases hv : T3.ok L[k]
        · go_wp2_with (go_at_call 83; refine (isRight_v hv _).mono ?_; rintro e w1 ⟨rfl, hb2⟩)
          go_ret
          exact ⟨ret_bool (by rw [okL, all_no hlt hv, Bool.and_false]), bstepA hb hb2 (Nat.le_refl _)⟩
        · go_wp2_with (go_at_call 83; refine (isRight_v hv _).mono ?_; rintro e w1 ⟨rfl, hb2⟩)
          go_roundw
          case rel => exact ⟨k + 1, by omega, by go_num, by rw [all_take hlt, hall, hv]; rfl, bstepA hb hb2 (Nat.le_refl _)⟩
          case measure => simp [intOf]; omega
      · obtain rfl : k = L.length := by omega
        go_wp2
        go_ret
        rw [List.take_length] at hall
        exact ⟨ret_bool (by rw [okL, hall, decide_eq_true h100]; rfl), hb⟩
  · have hi : ¬ (L.length : Int) ≤ 100 := by omega
    go_enter Tryz.func72, Tryz.ntmps72
    go_wp2
    go_ret
    exact ⟨ret_bool (by rw [okL, decide_eq_false h100]; rfl), Below.refl _ _⟩
end Go.Proofs.YtkinbgcnenieeaaGreatDoor.M
