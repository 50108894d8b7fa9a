/-
  Contracts of the functions of chapter 1 over numbers, as they are reached from chapter 3: boxes that are right, what two have in common, how many Spots, whether one is held.
-/
import Derived.Test.YtkinbgcnenieeaaMX2
import Derived.Laws.EntriesVeiled
import Derived.Deep.RegionHeld3
import Derived.Deep.DrawnRows
namespace Go.Proofs.Ytkinbgcnenieeaa.M
open Go.RowKit Go.Joins
def okB (x y w h : Int) : Bool := decide (0 ≤ x ∧ x ≤ 255 ∧ 0 ≤ y ∧ y ≤ 255 ∧ 1 ≤ w ∧ w ≤ 256 - x ∧ 1 ≤ h ∧ h ≤ 256 - y)
theorem okB_t {x y w h : Int} : okB x y w h = true ↔ (0 ≤ x ∧ x ≤ 255 ∧ 0 ≤ y ∧ y ≤ 255 ∧ 1 ≤ w ∧ w ≤ 256 - x ∧ 1 ≤ h ∧ h ≤ 256 - y) := by unfold okB; exact decide_eq_true_iff
def areaI (x y a b : Int) : Int := if okB x y a b then a * b else 0
def inR (x y a b s t : Int) : Bool := decide (x ≤ s ∧ s < x + a ∧ y ≤ t ∧ t < y + b)
def mW (x1 a1 x2 a2 : Int) : Int := min (x1 + a1) (x2 + a2) - max x1 x2
def mB (x1 y1 a1 b1 x2 y2 a2 b2 : Int) : Bool := decide (1 ≤ mW x1 a1 x2 a2 ∧ 1 ≤ mW y1 b1 y2 b2)
theorem okB_f {x y w h : Int} : okB x y w h = false ↔ ¬ (0 ≤ x ∧ x ≤ 255 ∧ 0 ≤ y ∧ y ≤ 255 ∧ 1 ≤ w ∧ w ≤ 256 - x ∧ 1 ≤ h ∧ h ≤ 256 - y) := by unfold okB; exact decide_eq_false_iff_not
theorem mul_bd2 {a b : Int} (h1 : 0 ≤ a) (h2 : a ≤ 256) (h3 : 0 ≤ b) (h4 : b ≤ 256) : 0 ≤ a * b ∧ a * b ≤ 65536 :=
  ⟨Int.mul_nonneg h1 h3, by have := Int.mul_le_mul h2 h4 h3 (by decide); omega⟩
set_option maxHeartbeats 400000 in
theorem sMin_any (a b : Int) (w : World) :
    Calls Try.prog 44 #[.int .i64 a, .int .i64 b] w fun e w' => e = .returned (.int .i64 (min a b)) ∧ w = w' := by
  go_enter Try.func44, Try.ntmps44
  go_wp2
  all_goals (go_ret; exact ⟨ret_i64 (by omega), rfl⟩)
set_option maxHeartbeats 1000000 in
theorem sl1Holds_any (x1 y1 a1 b1 s2 t2 : Int) (h : okB x1 y1 a1 b1 = true) (w : World) :
    Calls Try.prog 35 #[.agg #[.int .i64 x1, .int .i64 y1, .int .i64 a1, .int .i64 b1], .agg #[.int .i64 s2, .int .i64 t2]] w fun e w' => e = .returned (.bool (inR x1 y1 a1 b1 s2 t2)) ∧ Below w.heap.size w w' := by
  have k := okB_t.mp h
  clear h
  go_enter Try.func35, Try.ntmps35
  go_wp2
  all_goals (go_ret; exact ⟨ret_bool (by unfold inR; first | exact (decide_eq_true (by omega)).symm | exact (decide_eq_false (by omega)).symm | exact decide_eq_decide.mpr (by omega)), below_alloc2 _ _ _⟩)
def meetV (x1 y1 a1 b1 x2 y2 a2 b2 : Int) : Value := if okB x1 y1 a1 b1 && okB x2 y2 a2 b2 && mB x1 y1 a1 b1 x2 y2 a2 b2 then .tuple #[.agg #[.int .i64 (max x1 x2), .int .i64 (max y1 y2), .int .i64 (mW x1 a1 x2 a2), .int .i64 (mW y1 b1 y2 b2)], .bool true] else .tuple #[.agg #[.int .i64 0, .int .i64 0, .int .i64 0, .int .i64 0], .bool false]
theorem ret_two {a b c d : Int} (h : a = c) (k : b = d) : Ending.returned (.tuple #[.int .i64 a, .int .i64 b]) = .returned (.tuple #[.int .i64 c, .int .i64 d]) := by rw [h, k]
theorem wrI {n : Int} (h1 : -1000000 ≤ n) (h2 : n ≤ 1000000) : IntKind.i64.wrap n = n := by rw [IntKind.wrap_i64]; omega
def peek (w : World) (a : Addr) : Value := (w.cell? a).getD undef
theorem peek_of {w : World} {a : Addr} {v : Value} (h : w.cell? a = some v) : w.cell? a = some (peek w a) := by simp [peek, h]
theorem peek_set {w : World} {a b : Addr} {u : Value} (h : w.cell? a = some (peek w a)) : (w.setCell b u).cell? a = some (peek (w.setCell b u) a) := by
  obtain ⟨v', hv⟩ := cell?_setCell_some (w := w) (p := b) (x := u) (q := a) h
  exact peek_of hv
theorem thr_step {P w1 : World} {g : Nat} (hg : g < P.heap.size) (hb : Below P.heap.size P w1) (h : P.cell? ⟨g, 0, none⟩ = some (peek P ⟨g, 0, none⟩) ∧ P.cell? ⟨g, 1, none⟩ = some (peek P ⟨g, 1, none⟩) ∧ P.frozen? ⟨g, 0, none⟩ = false ∧ P.frozen? ⟨g, 1, none⟩ = false) :
    w1.cell? ⟨g, 0, none⟩ = some (peek w1 ⟨g, 0, none⟩) ∧ w1.cell? ⟨g, 1, none⟩ = some (peek w1 ⟨g, 1, none⟩) ∧ w1.frozen? ⟨g, 0, none⟩ = false ∧ w1.frozen? ⟨g, 1, none⟩ = false := by
  obtain ⟨hc, hf⟩ := bcell hb
  exact ⟨peek_of ((hc g 0 hg).trans h.1), peek_of ((hc g 1 hg).trans h.2.1), (hf g 0 hg).trans h.2.2.1, (hf g 1 hg).trans h.2.2.2⟩
theorem thr_set {P : World} {g : Nat} {u v : Value} (h : P.cell? ⟨g, 0, none⟩ = some (peek P ⟨g, 0, none⟩) ∧ P.cell? ⟨g, 1, none⟩ = some (peek P ⟨g, 1, none⟩) ∧ P.frozen? ⟨g, 0, none⟩ = false ∧ P.frozen? ⟨g, 1, none⟩ = false) :
    ((P.setCell ⟨g, 0, none⟩ u).setCell ⟨g, 1, none⟩ v).cell? ⟨g, 0, none⟩ = some (peek ((P.setCell ⟨g, 0, none⟩ u).setCell ⟨g, 1, none⟩ v) ⟨g, 0, none⟩) ∧ ((P.setCell ⟨g, 0, none⟩ u).setCell ⟨g, 1, none⟩ v).cell? ⟨g, 1, none⟩ = some (peek ((P.setCell ⟨g, 0, none⟩ u).setCell ⟨g, 1, none⟩ v) ⟨g, 1, none⟩) ∧ ((P.setCell ⟨g, 0, none⟩ u).setCell ⟨g, 1, none⟩ v).frozen? ⟨g, 0, none⟩ = false ∧ ((P.setCell ⟨g, 0, none⟩ u).setCell ⟨g, 1, none⟩ v).frozen? ⟨g, 1, none⟩ = false :=
  ⟨peek_set (peek_set h.1), peek_set (peek_set h.2.1), by simp [h.2.2.1], by simp [h.2.2.2]⟩
theorem ok_meet {x1 y1 a1 b1 x2 y2 a2 b2 : Int} (h1 : okB x1 y1 a1 b1 = true) (h2 : okB x2 y2 a2 b2 = true) :
    okB (max x1 x2) (max y1 y2) (min (x1 + a1 - 1) (x2 + a2 - 1) - max x1 x2 + 1) (min (y1 + b1 - 1) (y2 + b2 - 1) - max y1 y2 + 1) = mB x1 y1 a1 b1 x2 y2 a2 b2 := by
  have k := okB_t.mp h1
  have k' := okB_t.mp h2
  unfold okB mB mW
  exact decide_eq_decide.mpr (by omega)
theorem meet_val {x1 y1 a1 b1 x2 y2 a2 b2 : Int} (hv : (okB x1 y1 a1 b1 && okB x2 y2 a2 b2) = true) (hm : mB x1 y1 a1 b1 x2 y2 a2 b2 = true) : Ending.returned (.tuple #[.agg #[.int .i64 (max x1 x2), .int .i64 (max y1 y2), .int .i64 (min (x1 + a1 - 1) (x2 + a2 - 1) - max x1 x2 + 1), .int .i64 (min (y1 + b1 - 1) (y2 + b2 - 1) - max y1 y2 + 1)], .bool true]) = .returned (meetV x1 y1 a1 b1 x2 y2 a2 b2) := by
  have e1 : min (x1 + a1 - 1) (x2 + a2 - 1) - max x1 x2 + 1 = mW x1 a1 x2 a2 := by unfold mW; omega
  have e2 : min (y1 + b1 - 1) (y2 + b2 - 1) - max y1 y2 + 1 = mW y1 b1 y2 b2 := by unfold mW; omega
  rw [e1, e2]; simp [meetV, hv, hm]
end Go.Proofs.Ytkinbgcnenieeaa.M
