/-
  Contracts whose statements leave an order open, first part: spec.l1Around, spec.Around; the program's drawnIn, nearest.
-/
import Derived.Test.YtipfcmfcdfofmaaGreatW3
import Derived.Deep.RegionHeld3
import Derived.Deep.DrawnRows
namespace Go.Proofs.YtipfcmfcdfofmaaGreat
open Go.RowKit Go.Joins
attribute [local go_sem ↓] Go.wp_at_zero Go.wp_at_succ

theorem wr {n : Int} (h1 : -1000000 ≤ n) (h2 : n ≤ 1000000) : IntKind.i64.wrap n = n := by rw [IntKind.wrap_i64]; omega
def near (x a s : Int) : Int := min (max s x) (x + a - 1)
def peek (w : World) (a : Addr) : Value := (w.cell? a).getD undef
theorem peek_of {w : World} {a : Addr} {v : Value} (h : w.cell? a = some v) : w.cell? a = some (peek w a) := by simp [peek, h]
theorem peek_set {w : World} {a b : Addr} {u : Value} (h : w.cell? a = some (peek w a)) : (w.setCell b u).cell? a = some (peek (w.setCell b u) a) := by
  obtain ⟨v', hv⟩ := cell?_setCell_some (w := w) (p := b) (x := u) (q := a) h
  exact peek_of hv
theorem thr_step {P w1 : World} {g : Nat} (hg : g < P.heap.size) (hb : Below P.heap.size P w1) (h : P.cell? ⟨g, 0, none⟩ = some (peek P ⟨g, 0, none⟩) ∧ P.cell? ⟨g, 1, none⟩ = some (peek P ⟨g, 1, none⟩) ∧ P.frozen? ⟨g, 0, none⟩ = false ∧ P.frozen? ⟨g, 1, none⟩ = false) :
    w1.cell? ⟨g, 0, none⟩ = some (peek w1 ⟨g, 0, none⟩) ∧ w1.cell? ⟨g, 1, none⟩ = some (peek w1 ⟨g, 1, none⟩) ∧ w1.frozen? ⟨g, 0, none⟩ = false ∧ w1.frozen? ⟨g, 1, none⟩ = false := by
  obtain ⟨hc, hf⟩ := bcell hb
  exact ⟨peek_of ((hc g 0 hg).trans h.1), peek_of ((hc g 1 hg).trans h.2.1), (hf g 0 hg).trans h.2.2.1, (hf g 1 hg).trans h.2.2.2⟩
theorem thr_set {P : World} {g : Nat} {u v : Value} (h : P.cell? ⟨g, 0, none⟩ = some (peek P ⟨g, 0, none⟩) ∧ P.cell? ⟨g, 1, none⟩ = some (peek P ⟨g, 1, none⟩) ∧ P.frozen? ⟨g, 0, none⟩ = false ∧ P.frozen? ⟨g, 1, none⟩ = false) :
    ((P.setCell ⟨g, 0, none⟩ u).setCell ⟨g, 1, none⟩ v).cell? ⟨g, 0, none⟩ = some (peek ((P.setCell ⟨g, 0, none⟩ u).setCell ⟨g, 1, none⟩ v) ⟨g, 0, none⟩) ∧ ((P.setCell ⟨g, 0, none⟩ u).setCell ⟨g, 1, none⟩ v).cell? ⟨g, 1, none⟩ = some (peek ((P.setCell ⟨g, 0, none⟩ u).setCell ⟨g, 1, none⟩ v) ⟨g, 1, none⟩) ∧ ((P.setCell ⟨g, 0, none⟩ u).setCell ⟨g, 1, none⟩ v).frozen? ⟨g, 0, none⟩ = false ∧ ((P.setCell ⟨g, 0, none⟩ u).setCell ⟨g, 1, none⟩ v).frozen? ⟨g, 1, none⟩ = false :=
  ⟨peek_set (peek_set h.1), peek_set (peek_set h.2.1), by simp [h.2.2.1], by simp [h.2.2.2]⟩

set_option maxHeartbeats 2000000 in
theorem sl1Around_any (x1 y1 a1 b1 x2 y2 a2 b2 : Int) (w : World) (h1 : okB x1 y1 a1 b1 = true) (h2 : okB x2 y2 a2 b2 = true) :
    Calls Tryz.prog 50 #[.agg #[.int .i64 x1, .int .i64 y1, .int .i64 a1, .int .i64 b1], .agg #[.int .i64 x2, .int .i64 y2, .int .i64 a2, .int .i64 b2]] w fun e w' => e = .returned (.agg #[.int .i64 (min x1 x2), .int .i64 (min y1 y2), .int .i64 (uW x1 a1 x2 a2), .int .i64 (uW y1 b1 y2 b2)]) ∧ Below w.heap.size w w' := by
  have k := okB_t.mp h1
  have k' := okB_t.mp h2
  clear h1 h2
  unfold uW
  have e1 := wr (n := x1 + a1) (by omega) (by omega)
  have e2 := wr (n := x2 + a2) (by omega) (by omega)
  have e3 := wr (n := y1 + b1) (by omega) (by omega)
  have e4 := wr (n := y2 + b2) (by omega) (by omega)
  have e5 := wr (n := max (x1 + a1) (x2 + a2) - min x1 x2) (by omega) (by omega)
  have e6 := wr (n := max (y1 + b1) (y2 + b2) - min y1 y2) (by omega) (by omega)
  go_enter Tryz.func50, Tryz.ntmps50
  go_wp2_with (go_at_call 90; refine (sMin_any _ _ _).mono ?_; rintro e w1 ⟨rfl, rfl⟩)
  go_region_held3 (fun w' => w'.cell? ⟨w.heap.size, 0, none⟩ = some (.int .i64 x1) ∧ w'.cell? ⟨w.heap.size, 1, none⟩ = some (.int .i64 y1) ∧ w'.cell? ⟨w.heap.size, 2, none⟩ = some (.int .i64 a1) ∧ w'.cell? ⟨w.heap.size, 3, none⟩ = some (.int .i64 b1) ∧ w'.cell? ⟨w.heap.size + 1, 0, none⟩ = some (.int .i64 x2) ∧ w'.cell? ⟨w.heap.size + 1, 1, none⟩ = some (.int .i64 y2) ∧ w'.cell? ⟨w.heap.size + 1, 2, none⟩ = some (.int .i64 a2) ∧ w'.cell? ⟨w.heap.size + 1, 3, none⟩ = some (.int .i64 b2)) (simp [go_sem, World.cell?_alloc_past])
    (first | (go_at_call 91; refine (sMax_any _ _ _).mono ?_; rintro e w1 ⟨rfl, rfl⟩))
  go_wp2
  refine bodyPost_ret (v := .agg #[.int .i64 (min x1 x2), .int .i64 (min y1 y2), .int .i64 (max (x1 + a1) (x2 + a2) - min x1 x2), .int .i64 (max (y1 + b1) (y2 + b2) - min y1 y2)]) (by simp [results, Tryz.results50, go_sem]) rfl ⟨rfl, ?_⟩
  exact (below_alloc3 _ _ _ _).drew

def aroundV (x1 y1 a1 b1 x2 y2 a2 b2 : Int) : Value := if okB x1 y1 a1 b1 && okB x2 y2 a2 b2 then .agg #[.int .i64 (min x1 x2), .int .i64 (min y1 y2), .int .i64 (uW x1 a1 x2 a2), .int .i64 (uW y1 b1 y2 b2)] else .agg #[.int .i64 0, .int .i64 0, .int .i64 0, .int .i64 0]

end Go.Proofs.YtipfcmfcdfofmaaGreat
