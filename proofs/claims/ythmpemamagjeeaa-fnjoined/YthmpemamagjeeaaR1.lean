/-
  Contracts of the functions of chapter 1 over numbers, as they are reached from chapter 3: boxes that are right, what two have in common, how many Spots, whether one is held.
-/
import Derived.Test.YthmpemamagjeeaaX2
import Derived.Laws.EntriesVeiled
import Derived.Deep.RegionHeld3
import Derived.Deep.DrawnRows
namespace Go.Proofs.Ythmpemamagjeeaa
open Go.RowKit Go.Joins
def okB (x y w h : Int) : Bool := decide (0 ≤ x ∧ x ≤ 255 ∧ 0 ≤ y ∧ y ≤ 255 ∧ 1 ≤ w ∧ w ≤ 256 - x ∧ 1 ≤ h ∧ h ≤ 256 - y)
theorem okB_t {x y w h : Int} : okB x y w h = true ↔ (0 ≤ x ∧ x ≤ 255 ∧ 0 ≤ y ∧ y ≤ 255 ∧ 1 ≤ w ∧ w ≤ 256 - x ∧ 1 ≤ h ∧ h ≤ 256 - y) := by unfold okB; exact decide_eq_true_iff
set_option maxHeartbeats 400000 in
theorem toRect_any (x y a b : Int) (w : World) :
    Calls Try.prog 36 #[.agg #[.int .i64 x, .int .i64 y, .int .i64 a, .int .i64 b]] w fun e w' => e = .returned (.agg #[.int .i64 x, .int .i64 y, .int .i64 a, .int .i64 b]) ∧ Below w.heap.size w w' := by
  go_enter Try.func36, Try.ntmps36
  go_wp2
  refine bodyPost_ret (v := .agg #[.int .i64 x, .int .i64 y, .int .i64 a, .int .i64 b]) (by simp [results, Try.results36, go_sem]) rfl ⟨rfl, ?_⟩
  exact below_alloc3 _ _ _ _
set_option maxHeartbeats 1000000 in
theorem sOk_any (x y a b : Int) (w : World) :
    Calls Try.prog 19 #[.agg #[.int .i64 x, .int .i64 y, .int .i64 a, .int .i64 b]] w fun e w' => e = .returned (.bool (okB x y a b)) ∧ Below w.heap.size w w' := by
  go_enter Try.func19, Try.ntmps19
  go_wp2
  all_goals (go_ret; exact ⟨ret_bool (by unfold okB; first | exact (decide_eq_true (by omega)).symm | exact (decide_eq_false (by omega)).symm | exact decide_eq_decide.mpr (by omega)), below_alloc1 _ _⟩)
set_option maxHeartbeats 1000000 in
theorem rcRight_any (x y a b : Int) (w : World) :
    Calls Try.prog 44 #[.agg #[.int .i64 x, .int .i64 y, .int .i64 a, .int .i64 b]] w fun e w' => e = .returned (.bool (okB x y a b)) ∧ Below w.heap.size w w' := by
  go_enter Try.func44, Try.ntmps44
  go_wp2
  all_goals (go_ret; exact ⟨ret_bool (by unfold okB; first | exact (decide_eq_true (by omega)).symm | exact (decide_eq_false (by omega)).symm | exact decide_eq_decide.mpr (by omega)), below_alloc3 _ _ _ _⟩)
def areaI (x y a b : Int) : Int := if okB x y a b then a * b else 0
def inR (x y a b s t : Int) : Bool := decide (x ≤ s ∧ s < x + a ∧ y ≤ t ∧ t < y + b)
def mW (x1 a1 x2 a2 : Int) : Int := min (x1 + a1) (x2 + a2) - max x1 x2
def mB (x1 y1 a1 b1 x2 y2 a2 b2 : Int) : Bool := decide (1 ≤ mW x1 a1 x2 a2 ∧ 1 ≤ mW y1 b1 y2 b2)
theorem okB_f {x y w h : Int} : okB x y w h = false ↔ ¬ (0 ≤ x ∧ x ≤ 255 ∧ 0 ≤ y ∧ y ≤ 255 ∧ 1 ≤ w ∧ w ≤ 256 - x ∧ 1 ≤ h ∧ h ≤ 256 - y) := by unfold okB; exact decide_eq_false_iff_not
theorem mul_bd2 {a b : Int} (h1 : 0 ≤ a) (h2 : a ≤ 256) (h3 : 0 ≤ b) (h4 : b ≤ 256) : 0 ≤ a * b ∧ a * b ≤ 65536 :=
  ⟨Int.mul_nonneg h1 h3, by have := Int.mul_le_mul h2 h4 h3 (by decide); omega⟩
set_option maxHeartbeats 400000 in
theorem sMax_any (a b : Int) (w : World) :
    Calls Try.prog 92 #[.int .i64 a, .int .i64 b] w fun e w' => e = .returned (.int .i64 (max a b)) ∧ w = w' := by
  go_enter Try.func92, Try.ntmps92
  go_wp2
  all_goals (go_ret; exact ⟨ret_i64 (by omega), rfl⟩)
set_option maxHeartbeats 400000 in
theorem sMin_any (a b : Int) (w : World) :
    Calls Try.prog 91 #[.int .i64 a, .int .i64 b] w fun e w' => e = .returned (.int .i64 (min a b)) ∧ w = w' := by
  go_enter Try.func91, Try.ntmps91
  go_wp2
  all_goals (go_ret; exact ⟨ret_i64 (by omega), rfl⟩)
set_option maxHeartbeats 400000 in
theorem iArea_any (x1 y1 a1 b1 : Int) (w : World) :
    Calls Try.prog 21 #[.agg #[.int .i64 x1, .int .i64 y1, .int .i64 a1, .int .i64 b1]] w fun e w' => e = .returned (.int .i64 (areaI x1 y1 a1 b1)) ∧ Below w.heap.size w w' := by
  cases h : okB x1 y1 a1 b1
  · go_enter Try.func21, Try.ntmps21
    go_wp2_with ((go_at_call 44; refine (rcRight_any _ _ _ _ _).mono ?_; rintro e w1 ⟨rfl, hb2⟩; (first | replace hb := bstep hb hb2 (Nat.le_refl _) | replace hb := bstepA hb hb2 (Nat.le_refl _) | have hb := hb2); (try clear hc hf); obtain ⟨hc, hf⟩ := bcell hb))
    go_ret
    exact ⟨ret_i64 (by simp [areaI, h]), ba1 hb⟩
  · have k := okB_t.mp h
    obtain ⟨k1, k2⟩ := mul_bd2 (a := a1) (b := b1) (by omega) (by omega) (by omega) (by omega)
    go_enter Try.func21, Try.ntmps21
    go_wp2_with ((go_at_call 44; refine (rcRight_any _ _ _ _ _).mono ?_; rintro e w1 ⟨rfl, hb2⟩; (first | replace hb := bstep hb hb2 (Nat.le_refl _) | replace hb := bstepA hb hb2 (Nat.le_refl _) | have hb := hb2); (try clear hc hf); obtain ⟨hc, hf⟩ := bcell hb))
    go_ret
    exact ⟨ret_i64 (by simp [areaI, h]), ba1 hb⟩
set_option maxHeartbeats 1000000 in
theorem sl1Holds_any (x1 y1 a1 b1 s2 t2 : Int) (h : okB x1 y1 a1 b1 = true) (w : World) :
    Calls Try.prog 85 #[.agg #[.int .i64 x1, .int .i64 y1, .int .i64 a1, .int .i64 b1], .agg #[.int .i64 s2, .int .i64 t2]] w fun e w' => e = .returned (.bool (inR x1 y1 a1 b1 s2 t2)) ∧ Below w.heap.size w w' := by
  have k := okB_t.mp h
  clear h
  go_enter Try.func85, Try.ntmps85
  go_wp2
  all_goals (go_ret; exact ⟨ret_bool (by unfold inR; first | exact (decide_eq_true (by omega)).symm | exact (decide_eq_false (by omega)).symm | exact decide_eq_decide.mpr (by omega)), below_alloc2 _ _ _⟩)
set_option maxHeartbeats 400000 in
theorem lastX_any (x1 y1 a1 b1 : Int) (w : World) (h : okB x1 y1 a1 b1 = true) :
    Calls Try.prog 64 #[.agg #[.int .i64 x1, .int .i64 y1, .int .i64 a1, .int .i64 b1]] w fun e w' => e = .returned (.int .i64 (x1 + a1 - 1)) ∧ Below w.heap.size w w' := by
  have k := okB_t.mp h
  clear h
  go_enter Try.func64, Try.ntmps64
  go_wp2
  go_ret
  exact ⟨rfl, below_alloc1 _ _⟩
set_option maxHeartbeats 400000 in
theorem lastY_any (x1 y1 a1 b1 : Int) (w : World) (h : okB x1 y1 a1 b1 = true) :
    Calls Try.prog 65 #[.agg #[.int .i64 x1, .int .i64 y1, .int .i64 a1, .int .i64 b1]] w fun e w' => e = .returned (.int .i64 (y1 + b1 - 1)) ∧ Below w.heap.size w w' := by
  have k := okB_t.mp h
  clear h
  go_enter Try.func65, Try.ntmps65
  go_wp2
  go_ret
  exact ⟨rfl, below_alloc1 _ _⟩
set_option maxHeartbeats 400000 in
theorem spanned_any (s1 t1 s2 t2 : Int) (w : World) (h : 0 ≤ s1 ∧ s1 ≤ 255 ∧ 0 ≤ t1 ∧ t1 ≤ 255 ∧ 0 ≤ s2 ∧ s2 ≤ 255 ∧ 0 ≤ t2 ∧ t2 ≤ 255) :
    Calls Try.prog 66 #[.agg #[.int .i64 s1, .int .i64 t1], .agg #[.int .i64 s2, .int .i64 t2]] w fun e w' => e = .returned (.agg #[.int .i64 s1, .int .i64 t1, .int .i64 (s2 - s1 + 1), .int .i64 (t2 - t1 + 1)]) ∧ Below w.heap.size w w' := by
  go_enter Try.func66, Try.ntmps66
  go_wp2
  refine bodyPost_ret (v := .agg #[.int .i64 s1, .int .i64 t1, .int .i64 (s2 - s1 + 1), .int .i64 (t2 - t1 + 1)]) (by simp [results, Try.results66, go_sem]) rfl ⟨rfl, ?_⟩
  exact below_alloc3 _ _ _ _
set_option maxHeartbeats 1000000 in
theorem sl1Meet_no (x1 y1 a1 b1 x2 y2 a2 b2 : Int) (w : World) (h1 : okB x1 y1 a1 b1 = true) (h2 : okB x2 y2 a2 b2 = true) (hm : mB x1 y1 a1 b1 x2 y2 a2 b2 = false) :
    Calls Try.prog 82 #[.agg #[.int .i64 x1, .int .i64 y1, .int .i64 a1, .int .i64 b1], .agg #[.int .i64 x2, .int .i64 y2, .int .i64 a2, .int .i64 b2]] w fun e w' => e = .returned (.tuple #[.agg #[.int .i64 0, .int .i64 0, .int .i64 0, .int .i64 0], .bool false]) ∧ Below w.heap.size w w' := by
  have k := okB_t.mp h1
  have k' := okB_t.mp h2
  have km := decide_eq_false_iff_not.mp hm
  unfold mW at km
  clear h1 h2 hm
  go_enter Try.func82, Try.ntmps82
  go_wp2_with (first | (go_at_call 92; refine (sMax_any _ _ _).mono ?_; rintro e w1 ⟨rfl, rfl⟩) | (go_at_call 91; refine (sMin_any _ _ _).mono ?_; rintro e w1 ⟨rfl, rfl⟩))
  all_goals first | (exfalso; omega) | exact bodyPost_ret (v := .tuple #[.agg #[.int .i64 0, .int .i64 0, .int .i64 0, .int .i64 0], .bool false]) (by simp [results, Try.results82, go_sem]) rfl ⟨rfl, below_alloc3 _ _ _ _⟩
set_option maxHeartbeats 1000000 in
theorem sl1Meet_yes (x1 y1 a1 b1 x2 y2 a2 b2 : Int) (w : World) (h1 : okB x1 y1 a1 b1 = true) (h2 : okB x2 y2 a2 b2 = true) (hm : mB x1 y1 a1 b1 x2 y2 a2 b2 = true) :
    Calls Try.prog 82 #[.agg #[.int .i64 x1, .int .i64 y1, .int .i64 a1, .int .i64 b1], .agg #[.int .i64 x2, .int .i64 y2, .int .i64 a2, .int .i64 b2]] w fun e w' => e = .returned (.tuple #[.agg #[.int .i64 (max x1 x2), .int .i64 (max y1 y2), .int .i64 (mW x1 a1 x2 a2), .int .i64 (mW y1 b1 y2 b2)], .bool true]) ∧ Below w.heap.size w w' := by
  have k := okB_t.mp h1
  have k' := okB_t.mp h2
  have km := decide_eq_true_iff.mp hm
  unfold mW at km
  unfold mW
  clear h1 h2 hm
  go_enter Try.func82, Try.ntmps82
  go_wp2_with (first | (go_at_call 92; refine (sMax_any _ _ _).mono ?_; rintro e w1 ⟨rfl, rfl⟩) | (go_at_call 91; refine (sMin_any _ _ _).mono ?_; rintro e w1 ⟨rfl, rfl⟩))
  all_goals first | (exfalso; omega) | exact bodyPost_ret (v := .tuple #[.agg #[.int .i64 (max x1 x2), .int .i64 (max y1 y2), .int .i64 (min (x1 + a1) (x2 + a2) - max x1 x2), .int .i64 (min (y1 + b1) (y2 + b2) - max y1 y2)], .bool true]) (by simp [results, Try.results82, go_sem]) rfl ⟨rfl, below_alloc3 _ _ _ _⟩
def meetV (x1 y1 a1 b1 x2 y2 a2 b2 : Int) : Value := if okB x1 y1 a1 b1 && okB x2 y2 a2 b2 && mB x1 y1 a1 b1 x2 y2 a2 b2 then .tuple #[.agg #[.int .i64 (max x1 x2), .int .i64 (max y1 y2), .int .i64 (mW x1 a1 x2 a2), .int .i64 (mW y1 b1 y2 b2)], .bool true] else .tuple #[.agg #[.int .i64 0, .int .i64 0, .int .i64 0, .int .i64 0], .bool false]
set_option maxHeartbeats 1000000 in
theorem every_rr (x1 y1 a1 b1 x2 y2 a2 b2 : Int) (g : Nat) (w : World) (hg : g < w.heap.size)
    (h0 : w.cell? ⟨g, 0, none⟩ = some (.func (Fn.func 44) #[.agg #[.int .i64 x1, .int .i64 y1, .int .i64 a1, .int .i64 b1]] #[])) (h1 : w.cell? ⟨g, 1, none⟩ = some (.func (Fn.func 44) #[.agg #[.int .i64 x2, .int .i64 y2, .int .i64 a2, .int .i64 b2]] #[])) :
    Calls Try.prog 51 #[.slice (some ⟨g, 0, none⟩) 2 2] w fun e w' => e = .returned (.bool (okB x1 y1 a1 b1 && okB x2 y2 a2 b2)) ∧ Below w.heap.size w w' := by
  cases k1 : okB x1 y1 a1 b1
  · go_enter Try.func51, Try.ntmps51
    go_wp2
    refine wp_loop_rounds 3 ?_
    rw [rounds_succ]
    go_wp2_with ((go_at_call 44; refine (rcRight_any x1 y1 a1 b1 _).mono ?_; rintro e w1 ⟨rfl, hb2⟩; (first | replace hb := bstep hb hb2 (Nat.le_refl _) | replace hb := bstepA hb hb2 (Nat.le_refl _) | have hb := hb2); (try clear hc hf); obtain ⟨hc, hf⟩ := bcell hb))
    go_ret
    exact ⟨rfl, hb⟩
  cases k2 : okB x2 y2 a2 b2
  · go_enter Try.func51, Try.ntmps51
    go_wp2
    refine wp_loop_rounds 3 ?_
    rw [rounds_succ]
    go_wp2_with ((go_at_call 44; refine (rcRight_any x1 y1 a1 b1 _).mono ?_; rintro e w1 ⟨rfl, hb2⟩; (first | replace hb := bstep hb hb2 (Nat.le_refl _) | replace hb := bstepA hb hb2 (Nat.le_refl _) | have hb := hb2); (try clear hc hf); obtain ⟨hc, hf⟩ := bcell hb))
    rw [rounds_succ]
    go_wp2_with ((go_at_call 44; refine (rcRight_any x2 y2 a2 b2 _).mono ?_; rintro e w1 ⟨rfl, hb2⟩; (first | replace hb := bstep hb hb2 (Nat.le_refl _) | replace hb := bstepA hb hb2 (Nat.le_refl _) | have hb := hb2); (try clear hc hf); obtain ⟨hc, hf⟩ := bcell hb))
    go_ret
    exact ⟨rfl, hb⟩
  · go_enter Try.func51, Try.ntmps51
    go_wp2
    refine wp_loop_rounds 3 ?_
    rw [rounds_succ]
    go_wp2_with ((go_at_call 44; refine (rcRight_any x1 y1 a1 b1 _).mono ?_; rintro e w1 ⟨rfl, hb2⟩; (first | replace hb := bstep hb hb2 (Nat.le_refl _) | replace hb := bstepA hb hb2 (Nat.le_refl _) | have hb := hb2); (try clear hc hf); obtain ⟨hc, hf⟩ := bcell hb))
    rw [rounds_succ]
    go_wp2_with ((go_at_call 44; refine (rcRight_any x2 y2 a2 b2 _).mono ?_; rintro e w1 ⟨rfl, hb2⟩; (first | replace hb := bstep hb hb2 (Nat.le_refl _) | replace hb := bstepA hb hb2 (Nat.le_refl _) | have hb := hb2); (try clear hc hf); obtain ⟨hc, hf⟩ := bcell hb))
    rw [rounds_succ]
    go_wp2
    go_ret
    exact ⟨rfl, hb⟩
theorem ret_two {a b c d : Int} (h : a = c) (k : b = d) : Ending.returned (.tuple #[.int .i64 a, .int .i64 b]) = .returned (.tuple #[.int .i64 c, .int .i64 d]) := by rw [h, k]
set_option maxHeartbeats 1000000 in
theorem ends1 (p q : Int) (g : Nat) (w : World) (h0 : w.cell? ⟨g, 0, none⟩ = some (.int .i64 q)) :
    Calls Try.prog 63 #[.int .i64 p, .slice (some ⟨g, 0, none⟩) 1 1] w fun e w' => e = .returned (.tuple #[.int .i64 (min p q), .int .i64 (max p q)]) ∧ w = w' := by
  go_enter Try.func63, Try.ntmps63
  go_wp2
  refine wp_loop_rounds 2 ?_
  rw [rounds_succ]
  go_wp2
  all_goals (rw [rounds_succ]; go_wp2)
  all_goals (go_ret2; exact ⟨ret_two (by omega) (by omega), rfl⟩)
theorem wrI {n : Int} (h1 : -1000000 ≤ n) (h2 : n ≤ 1000000) : IntKind.i64.wrap n = n := by rw [IntKind.wrap_i64]; omega
def peek (w : World) (a : Addr) : Value := (w.cell? a).getD undef
theorem peek_of {w : World} {a : Addr} {v : Value} (h : w.cell? a = some v) : w.cell? a = some (peek w a) := by simp [peek, h]
theorem peek_set {w : World} {a b : Addr} {u : Value} (h : w.cell? a = some (peek w a)) : (w.setCell b u).cell? a = some (peek (w.setCell b u) a) := by
  obtain ⟨v', hv⟩ := cell?_setCell_some (w := w) (p := b) (x := u) (q := a) h
  exact peek_of hv
theorem thr_step {P w1 : World} {g : Nat} (hg : g < P.heap.size) (hb : Below P.heap.size P w1) (h : P.cell? ⟨g, 0, none⟩ = some (peek P ⟨g, 0, none⟩) ∧ P.cell? ⟨g, 1, none⟩ = some (peek P ⟨g, 1, none⟩) ∧ P.frozen? ⟨g, 0, none⟩ = false ∧ P.frozen? ⟨g, 1, none⟩ = false) :
    w1.cell? ⟨g, 0, none⟩ = some (peek w1 ⟨g, 0, none⟩) ∧ w1.cell? ⟨g, 1, none⟩ = some (peek w1 ⟨g, 1, none⟩) ∧ w1.frozen? ⟨g, 0, none⟩ = false ∧ w1.frozen? ⟨g, 1, none⟩ = false := by
  obtain ⟨hc, hf⟩ := bcell hb
  exact ⟨peek_of ((hc g 0 hg).trans h.1), peek_of ((hc g 1 hg).trans h.2.1), (hf g 0 hg).trans h.2.2.1, (hf g 1 hg).trans h.2.2.2⟩
theorem thr_set {P : World} {g : Nat} {u v : Value} (h : P.cell? ⟨g, 0, none⟩ = some (peek P ⟨g, 0, none⟩) ∧ P.cell? ⟨g, 1, none⟩ = some (peek P ⟨g, 1, none⟩) ∧ P.frozen? ⟨g, 0, none⟩ = false ∧ P.frozen? ⟨g, 1, none⟩ = false) :
    ((P.setCell ⟨g, 0, none⟩ u).setCell ⟨g, 1, none⟩ v).cell? ⟨g, 0, none⟩ = some (peek ((P.setCell ⟨g, 0, none⟩ u).setCell ⟨g, 1, none⟩ v) ⟨g, 0, none⟩) ∧ ((P.setCell ⟨g, 0, none⟩ u).setCell ⟨g, 1, none⟩ v).cell? ⟨g, 1, none⟩ = some (peek ((P.setCell ⟨g, 0, none⟩ u).setCell ⟨g, 1, none⟩ v) ⟨g, 1, none⟩) ∧ ((P.setCell ⟨g, 0, none⟩ u).setCell ⟨g, 1, none⟩ v).frozen? ⟨g, 0, none⟩ = false ∧ ((P.setCell ⟨g, 0, none⟩ u).setCell ⟨g, 1, none⟩ v).frozen? ⟨g, 1, none⟩ = false :=
  ⟨peek_set (peek_set h.1), peek_set (peek_set h.2.1), by simp [h.2.2.1], by simp [h.2.2.2]⟩
theorem every_rr_v (x1 y1 a1 b1 x2 y2 a2 b2 : Int) (v : Bool) (g : Nat) (w : World) (hv : (okB x1 y1 a1 b1 && okB x2 y2 a2 b2) = v) (hg : g < w.heap.size)
    (h0 : w.cell? ⟨g, 0, none⟩ = some (.func (Fn.func 44) #[.agg #[.int .i64 x1, .int .i64 y1, .int .i64 a1, .int .i64 b1]] #[])) (h1 : w.cell? ⟨g, 1, none⟩ = some (.func (Fn.func 44) #[.agg #[.int .i64 x2, .int .i64 y2, .int .i64 a2, .int .i64 b2]] #[])) :
    Calls Try.prog 51 #[.slice (some ⟨g, 0, none⟩) 2 2] w fun e w' => e = .returned (.bool v) ∧ Below w.heap.size w w' := by
  subst hv; exact every_rr x1 y1 a1 b1 x2 y2 a2 b2 g w hg h0 h1
theorem ends1b (p q : Int) (g : Nat) (w : World) (h0 : w.cell? ⟨g, 0, none⟩ = some (.int .i64 q)) :
    Calls Try.prog 63 #[.int .i64 p, .slice (some ⟨g, 0, none⟩) 1 1] w fun e w' => e = .returned (.tuple #[.int .i64 (min p q), .int .i64 (max p q)]) ∧ Below w.heap.size w w' :=
  (ends1 p q g w h0).mono fun _ _ h => ⟨h.1, h.2 ▸ Below.refl _ _⟩
theorem ok_meet {x1 y1 a1 b1 x2 y2 a2 b2 : Int} (h1 : okB x1 y1 a1 b1 = true) (h2 : okB x2 y2 a2 b2 = true) :
    okB (max x1 x2) (max y1 y2) (min (x1 + a1 - 1) (x2 + a2 - 1) - max x1 x2 + 1) (min (y1 + b1 - 1) (y2 + b2 - 1) - max y1 y2 + 1) = mB x1 y1 a1 b1 x2 y2 a2 b2 := by
  have k := okB_t.mp h1
  have k' := okB_t.mp h2
  unfold okB mB mW
  exact decide_eq_decide.mpr (by omega)
theorem meet_val {x1 y1 a1 b1 x2 y2 a2 b2 : Int} (hv : (okB x1 y1 a1 b1 && okB x2 y2 a2 b2) = true) (hm : mB x1 y1 a1 b1 x2 y2 a2 b2 = true) : Ending.returned (.tuple #[.agg #[.int .i64 (max x1 x2), .int .i64 (max y1 y2), .int .i64 (min (x1 + a1 - 1) (x2 + a2 - 1) - max x1 x2 + 1), .int .i64 (min (y1 + b1 - 1) (y2 + b2 - 1) - max y1 y2 + 1)], .bool true]) = .returned (meetV x1 y1 a1 b1 x2 y2 a2 b2) := by
  have e1 : min (x1 + a1 - 1) (x2 + a2 - 1) - max x1 x2 + 1 = mW x1 a1 x2 a2 := by unfold mW; omega
  have e2 : min (y1 + b1 - 1) (y2 + b2 - 1) - max y1 y2 + 1 = mW y1 b1 y2 b2 := by unfold mW; omega
  rw [e1, e2]; simp [meetV, hv, hm]
set_option maxHeartbeats 1000000 in
theorem iMeet_not (x1 y1 a1 b1 x2 y2 a2 b2 : Int) (w : World) (hv : (okB x1 y1 a1 b1 && okB x2 y2 a2 b2) = false) :
    Calls Try.prog 23 #[.agg #[.int .i64 x1, .int .i64 y1, .int .i64 a1, .int .i64 b1], .agg #[.int .i64 x2, .int .i64 y2, .int .i64 a2, .int .i64 b2]] w fun e w' => e = .returned (meetV x1 y1 a1 b1 x2 y2 a2 b2) ∧ Below w.heap.size w w' := by
  go_enter Try.func23, Try.ntmps23
  go_wp2_with ((go_at_call 51; refine (every_rr_v x1 y1 a1 b1 x2 y2 a2 b2 _ _ _ hv ?_ ?_ ?_).mono ?_; (focus (simp; done)); (focus (simp [go_sem]; done)); (focus (simp [go_sem]; done)); rintro e w1 ⟨rfl, hb2⟩; have hb := bstepA (Below.refl _ _) hb2 (Nat.le_refl _); obtain ⟨hc, hf⟩ := bcell hb))
  exact bodyPost_ret (v := .tuple #[.agg #[.int .i64 0, .int .i64 0, .int .i64 0, .int .i64 0], .bool false]) (by simp [results, Try.results23, go_sem, hc]) rfl ⟨by simp [meetV, hv], sc4 (ba3 hb) (by omega)⟩
set_option maxRecDepth 100000 in
set_option maxHeartbeats 4000000 in
theorem iMeet_no (x1 y1 a1 b1 x2 y2 a2 b2 : Int) (w : World) (hv : (okB x1 y1 a1 b1 && okB x2 y2 a2 b2) = true) (hm : mB x1 y1 a1 b1 x2 y2 a2 b2 = false) :
    Calls Try.prog 23 #[.agg #[.int .i64 x1, .int .i64 y1, .int .i64 a1, .int .i64 b1], .agg #[.int .i64 x2, .int .i64 y2, .int .i64 a2, .int .i64 b2]] w fun e w' => e = .returned (meetV x1 y1 a1 b1 x2 y2 a2 b2) ∧ Below w.heap.size w w' := by
    obtain ⟨g1, g2⟩ := (Bool.and_eq_true _ _).mp hv
    have k := okB_t.mp g1
    have k' := okB_t.mp g2
    have hok := ok_meet g1 g2
    rw [hm] at hok
    have hS : ∀ w', Below (((w.alloc (.cells #[.int .i64 x1, .int .i64 y1, .int .i64 a1, .int .i64 b1] 25)).alloc (.cells #[.int .i64 x2, .int .i64 y2, .int .i64 a2, .int .i64 b2] 25)).alloc (.cells #[.int .i64 0, .int .i64 0, .int .i64 0, .int .i64 0] 25)).heap.size (((w.alloc (.cells #[.int .i64 x1, .int .i64 y1, .int .i64 a1, .int .i64 b1] 25)).alloc (.cells #[.int .i64 x2, .int .i64 y2, .int .i64 a2, .int .i64 b2] 25)).alloc (.cells #[.int .i64 0, .int .i64 0, .int .i64 0, .int .i64 0] 25)) w' → (w'.cell? ⟨w.heap.size, 0, none⟩ = some (.int .i64 x1) ∧ w'.cell? ⟨w.heap.size, 1, none⟩ = some (.int .i64 y1) ∧ w'.cell? ⟨w.heap.size, 2, none⟩ = some (.int .i64 a1) ∧ w'.cell? ⟨w.heap.size, 3, none⟩ = some (.int .i64 b1) ∧ w'.cell? ⟨w.heap.size + 1, 0, none⟩ = some (.int .i64 x2) ∧ w'.cell? ⟨w.heap.size + 1, 1, none⟩ = some (.int .i64 y2) ∧ w'.cell? ⟨w.heap.size + 1, 2, none⟩ = some (.int .i64 a2) ∧ w'.cell? ⟨w.heap.size + 1, 3, none⟩ = some (.int .i64 b2)) := by
      intro w' h
      obtain ⟨hcl, _⟩ := bcell h
      refine ⟨?_, ?_, ?_, ?_, ?_, ?_, ?_, ?_⟩ <;> (rw [hcl _ _ (by simp <;> omega)]; simp [go_sem])
    go_enter Try.func23, Try.ntmps23
    go_wp2_with (first | (go_at_call 51; refine (every_rr_v x1 y1 a1 b1 x2 y2 a2 b2 _ _ _ hv ?_ ?_ ?_).mono ?_; (focus (simp; done)); (focus (simp [go_sem]; done)); (focus (simp [go_sem]; done)); rintro e w1 ⟨rfl, hb2⟩; have hb := bstepA (Below.refl _ _) hb2 (Nat.le_refl _); obtain ⟨hc, hf⟩ := bcell hb) | (go_at_call 63; refine (ends1b _ x2 _ _ ?_).mono ?_; (focus (simp [go_sem]; done)); rintro e w1 ⟨rfl, hb2⟩; replace hb := bstepA hb hb2 (Nat.le_refl _); (try clear hc hf); obtain ⟨hc, hf⟩ := bcell hb) | (go_at_call 63; refine (ends1b _ y2 _ _ ?_).mono ?_; (focus (simp [go_sem]; done)); rintro e w1 ⟨rfl, hb2⟩; replace hb := bstepA hb hb2 (Nat.le_refl _); (try clear hc hf); obtain ⟨hc, hf⟩ := bcell hb))
    go_region_held3 (fun w' => Below (((w.alloc (.cells #[.int .i64 x1, .int .i64 y1, .int .i64 a1, .int .i64 b1] 25)).alloc (.cells #[.int .i64 x2, .int .i64 y2, .int .i64 a2, .int .i64 b2] 25)).alloc (.cells #[.int .i64 0, .int .i64 0, .int .i64 0, .int .i64 0] 25)).heap.size (((w.alloc (.cells #[.int .i64 x1, .int .i64 y1, .int .i64 a1, .int .i64 b1] 25)).alloc (.cells #[.int .i64 x2, .int .i64 y2, .int .i64 a2, .int .i64 b2] 25)).alloc (.cells #[.int .i64 0, .int .i64 0, .int .i64 0, .int .i64 0] 25)) w' ∧ w'.cell? ⟨w.heap.size, 0, none⟩ = some (.int .i64 x1) ∧ w'.cell? ⟨w.heap.size, 1, none⟩ = some (.int .i64 y1) ∧ w'.cell? ⟨w.heap.size, 2, none⟩ = some (.int .i64 a1) ∧ w'.cell? ⟨w.heap.size, 3, none⟩ = some (.int .i64 b1) ∧ w'.cell? ⟨w.heap.size + 1, 0, none⟩ = some (.int .i64 x2) ∧ w'.cell? ⟨w.heap.size + 1, 1, none⟩ = some (.int .i64 y2) ∧ w'.cell? ⟨w.heap.size + 1, 2, none⟩ = some (.int .i64 a2) ∧ w'.cell? ⟨w.heap.size + 1, 3, none⟩ = some (.int .i64 b2)) (first | exact ‹Below _ _ _ ∧ _› | exact keepS hS (bstep (‹Below _ _ _ ∧ _›).1 hb2 (Nat.le_refl _)) | exact keepS hS ((‹Below _ _ _ ∧ _›).1.alloc (‹Below _ _ _ ∧ _›).1.size _) | exact keepS hS hb.drew | exact keepS hS (Below.refl _ _).drew | fail)
      (first | (go_at_call 64; refine (lastX_any _ _ _ _ _ g1).mono ?_; rintro e w1 ⟨rfl, hb2⟩) | (go_at_call 64; refine (lastX_any _ _ _ _ _ g2).mono ?_; rintro e w1 ⟨rfl, hb2⟩) | (go_at_call 63; refine (ends1b _ (x2 + a2 - 1) _ _ ?_).mono ?_; (focus (simp [go_sem]; done)); rintro e w1 ⟨rfl, hb2⟩))
    obtain ⟨hb, _⟩ := ‹Below _ _ _ ∧ _›
    obtain ⟨hc, hf⟩ := bcell hb
    go_wp2
    go_region_held3 (fun w' => Below (((w.alloc (.cells #[.int .i64 x1, .int .i64 y1, .int .i64 a1, .int .i64 b1] 25)).alloc (.cells #[.int .i64 x2, .int .i64 y2, .int .i64 a2, .int .i64 b2] 25)).alloc (.cells #[.int .i64 0, .int .i64 0, .int .i64 0, .int .i64 0] 25)).heap.size (((w.alloc (.cells #[.int .i64 x1, .int .i64 y1, .int .i64 a1, .int .i64 b1] 25)).alloc (.cells #[.int .i64 x2, .int .i64 y2, .int .i64 a2, .int .i64 b2] 25)).alloc (.cells #[.int .i64 0, .int .i64 0, .int .i64 0, .int .i64 0] 25)) w' ∧ w'.cell? ⟨w.heap.size, 0, none⟩ = some (.int .i64 x1) ∧ w'.cell? ⟨w.heap.size, 1, none⟩ = some (.int .i64 y1) ∧ w'.cell? ⟨w.heap.size, 2, none⟩ = some (.int .i64 a1) ∧ w'.cell? ⟨w.heap.size, 3, none⟩ = some (.int .i64 b1) ∧ w'.cell? ⟨w.heap.size + 1, 0, none⟩ = some (.int .i64 x2) ∧ w'.cell? ⟨w.heap.size + 1, 1, none⟩ = some (.int .i64 y2) ∧ w'.cell? ⟨w.heap.size + 1, 2, none⟩ = some (.int .i64 a2) ∧ w'.cell? ⟨w.heap.size + 1, 3, none⟩ = some (.int .i64 b2)) (first | exact ‹Below _ _ _ ∧ _› | exact keepS hS (bstep (‹Below _ _ _ ∧ _›).1 hb2 (Nat.le_refl _)) | exact keepS hS ((‹Below _ _ _ ∧ _›).1.alloc (‹Below _ _ _ ∧ _›).1.size _) | exact keepS hS hb.drew | exact keepS hS (Below.refl _ _).drew | fail)
      (first | (go_at_call 65; refine (lastY_any _ _ _ _ _ g1).mono ?_; rintro e w1 ⟨rfl, hb2⟩) | (go_at_call 65; refine (lastY_any _ _ _ _ _ g2).mono ?_; rintro e w1 ⟨rfl, hb2⟩) | (go_at_call 63; refine (ends1b _ (y2 + b2 - 1) _ _ ?_).mono ?_; (focus (simp [go_sem]; done)); rintro e w1 ⟨rfl, hb2⟩))
    obtain ⟨hb, _⟩ := ‹Below _ _ _ ∧ _›
    obtain ⟨hc, hf⟩ := bcell hb
    go_wp2_with (first | (go_at_call 66; refine (spanned_any _ _ _ _ _ ?_).mono ?_; (focus omega); rintro e w1 ⟨rfl, hb2⟩; replace hb := bstep hb hb2 (Nat.le_refl _); (try clear hc hf); obtain ⟨hc, hf⟩ := bcell hb) | (go_at_call 44; refine (rcRight_any _ _ _ _ _).mono ?_; rintro e w1 ⟨rfl, hb2⟩; obtain ⟨hc2, hf2⟩ := bcell hb2; replace hb := bstepA hb hb2 (Nat.le_refl _); (try clear hc hf); obtain ⟨hc, hf⟩ := bcell hb))
    exact bodyPost_ret (v := .tuple #[.agg #[.int .i64 0, .int .i64 0, .int .i64 0, .int .i64 0], .bool false]) (by simp [results, Try.results23, go_sem, hc]) rfl ⟨by simp [meetV, hm], sc4 (ba3 hb) (by omega)⟩
set_option maxRecDepth 100000 in
set_option maxHeartbeats 4000000 in
theorem iMeet_yes (x1 y1 a1 b1 x2 y2 a2 b2 : Int) (w : World) (hv : (okB x1 y1 a1 b1 && okB x2 y2 a2 b2) = true) (hm : mB x1 y1 a1 b1 x2 y2 a2 b2 = true) :
    Calls Try.prog 23 #[.agg #[.int .i64 x1, .int .i64 y1, .int .i64 a1, .int .i64 b1], .agg #[.int .i64 x2, .int .i64 y2, .int .i64 a2, .int .i64 b2]] w fun e w' => e = .returned (meetV x1 y1 a1 b1 x2 y2 a2 b2) ∧ Below w.heap.size w w' := by
    obtain ⟨g1, g2⟩ := (Bool.and_eq_true _ _).mp hv
    have k := okB_t.mp g1
    have k' := okB_t.mp g2
    have hok := ok_meet g1 g2
    rw [hm] at hok
    have hS : ∀ w', Below (((w.alloc (.cells #[.int .i64 x1, .int .i64 y1, .int .i64 a1, .int .i64 b1] 25)).alloc (.cells #[.int .i64 x2, .int .i64 y2, .int .i64 a2, .int .i64 b2] 25)).alloc (.cells #[.int .i64 0, .int .i64 0, .int .i64 0, .int .i64 0] 25)).heap.size (((w.alloc (.cells #[.int .i64 x1, .int .i64 y1, .int .i64 a1, .int .i64 b1] 25)).alloc (.cells #[.int .i64 x2, .int .i64 y2, .int .i64 a2, .int .i64 b2] 25)).alloc (.cells #[.int .i64 0, .int .i64 0, .int .i64 0, .int .i64 0] 25)) w' → (w'.cell? ⟨w.heap.size, 0, none⟩ = some (.int .i64 x1) ∧ w'.cell? ⟨w.heap.size, 1, none⟩ = some (.int .i64 y1) ∧ w'.cell? ⟨w.heap.size, 2, none⟩ = some (.int .i64 a1) ∧ w'.cell? ⟨w.heap.size, 3, none⟩ = some (.int .i64 b1) ∧ w'.cell? ⟨w.heap.size + 1, 0, none⟩ = some (.int .i64 x2) ∧ w'.cell? ⟨w.heap.size + 1, 1, none⟩ = some (.int .i64 y2) ∧ w'.cell? ⟨w.heap.size + 1, 2, none⟩ = some (.int .i64 a2) ∧ w'.cell? ⟨w.heap.size + 1, 3, none⟩ = some (.int .i64 b2)) := by
      intro w' h
      obtain ⟨hcl, _⟩ := bcell h
      refine ⟨?_, ?_, ?_, ?_, ?_, ?_, ?_, ?_⟩ <;> (rw [hcl _ _ (by simp <;> omega)]; simp [go_sem])
    go_enter Try.func23, Try.ntmps23
    go_wp2_with (first | (go_at_call 51; refine (every_rr_v x1 y1 a1 b1 x2 y2 a2 b2 _ _ _ hv ?_ ?_ ?_).mono ?_; (focus (simp; done)); (focus (simp [go_sem]; done)); (focus (simp [go_sem]; done)); rintro e w1 ⟨rfl, hb2⟩; have hb := bstepA (Below.refl _ _) hb2 (Nat.le_refl _); obtain ⟨hc, hf⟩ := bcell hb) | (go_at_call 63; refine (ends1b _ x2 _ _ ?_).mono ?_; (focus (simp [go_sem]; done)); rintro e w1 ⟨rfl, hb2⟩; replace hb := bstepA hb hb2 (Nat.le_refl _); (try clear hc hf); obtain ⟨hc, hf⟩ := bcell hb) | (go_at_call 63; refine (ends1b _ y2 _ _ ?_).mono ?_; (focus (simp [go_sem]; done)); rintro e w1 ⟨rfl, hb2⟩; replace hb := bstepA hb hb2 (Nat.le_refl _); (try clear hc hf); obtain ⟨hc, hf⟩ := bcell hb))
    go_region_held3 (fun w' => Below (((w.alloc (.cells #[.int .i64 x1, .int .i64 y1, .int .i64 a1, .int .i64 b1] 25)).alloc (.cells #[.int .i64 x2, .int .i64 y2, .int .i64 a2, .int .i64 b2] 25)).alloc (.cells #[.int .i64 0, .int .i64 0, .int .i64 0, .int .i64 0] 25)).heap.size (((w.alloc (.cells #[.int .i64 x1, .int .i64 y1, .int .i64 a1, .int .i64 b1] 25)).alloc (.cells #[.int .i64 x2, .int .i64 y2, .int .i64 a2, .int .i64 b2] 25)).alloc (.cells #[.int .i64 0, .int .i64 0, .int .i64 0, .int .i64 0] 25)) w' ∧ w'.cell? ⟨w.heap.size, 0, none⟩ = some (.int .i64 x1) ∧ w'.cell? ⟨w.heap.size, 1, none⟩ = some (.int .i64 y1) ∧ w'.cell? ⟨w.heap.size, 2, none⟩ = some (.int .i64 a1) ∧ w'.cell? ⟨w.heap.size, 3, none⟩ = some (.int .i64 b1) ∧ w'.cell? ⟨w.heap.size + 1, 0, none⟩ = some (.int .i64 x2) ∧ w'.cell? ⟨w.heap.size + 1, 1, none⟩ = some (.int .i64 y2) ∧ w'.cell? ⟨w.heap.size + 1, 2, none⟩ = some (.int .i64 a2) ∧ w'.cell? ⟨w.heap.size + 1, 3, none⟩ = some (.int .i64 b2)) (first | exact ‹Below _ _ _ ∧ _› | exact keepS hS (bstep (‹Below _ _ _ ∧ _›).1 hb2 (Nat.le_refl _)) | exact keepS hS ((‹Below _ _ _ ∧ _›).1.alloc (‹Below _ _ _ ∧ _›).1.size _) | exact keepS hS hb.drew | exact keepS hS (Below.refl _ _).drew | fail)
      (first | (go_at_call 64; refine (lastX_any _ _ _ _ _ g1).mono ?_; rintro e w1 ⟨rfl, hb2⟩) | (go_at_call 64; refine (lastX_any _ _ _ _ _ g2).mono ?_; rintro e w1 ⟨rfl, hb2⟩) | (go_at_call 63; refine (ends1b _ (x2 + a2 - 1) _ _ ?_).mono ?_; (focus (simp [go_sem]; done)); rintro e w1 ⟨rfl, hb2⟩))
    obtain ⟨hb, _⟩ := ‹Below _ _ _ ∧ _›
    obtain ⟨hc, hf⟩ := bcell hb
    go_wp2
    go_region_held3 (fun w' => Below (((w.alloc (.cells #[.int .i64 x1, .int .i64 y1, .int .i64 a1, .int .i64 b1] 25)).alloc (.cells #[.int .i64 x2, .int .i64 y2, .int .i64 a2, .int .i64 b2] 25)).alloc (.cells #[.int .i64 0, .int .i64 0, .int .i64 0, .int .i64 0] 25)).heap.size (((w.alloc (.cells #[.int .i64 x1, .int .i64 y1, .int .i64 a1, .int .i64 b1] 25)).alloc (.cells #[.int .i64 x2, .int .i64 y2, .int .i64 a2, .int .i64 b2] 25)).alloc (.cells #[.int .i64 0, .int .i64 0, .int .i64 0, .int .i64 0] 25)) w' ∧ w'.cell? ⟨w.heap.size, 0, none⟩ = some (.int .i64 x1) ∧ w'.cell? ⟨w.heap.size, 1, none⟩ = some (.int .i64 y1) ∧ w'.cell? ⟨w.heap.size, 2, none⟩ = some (.int .i64 a1) ∧ w'.cell? ⟨w.heap.size, 3, none⟩ = some (.int .i64 b1) ∧ w'.cell? ⟨w.heap.size + 1, 0, none⟩ = some (.int .i64 x2) ∧ w'.cell? ⟨w.heap.size + 1, 1, none⟩ = some (.int .i64 y2) ∧ w'.cell? ⟨w.heap.size + 1, 2, none⟩ = some (.int .i64 a2) ∧ w'.cell? ⟨w.heap.size + 1, 3, none⟩ = some (.int .i64 b2)) (first | exact ‹Below _ _ _ ∧ _› | exact keepS hS (bstep (‹Below _ _ _ ∧ _›).1 hb2 (Nat.le_refl _)) | exact keepS hS ((‹Below _ _ _ ∧ _›).1.alloc (‹Below _ _ _ ∧ _›).1.size _) | exact keepS hS hb.drew | exact keepS hS (Below.refl _ _).drew | fail)
      (first | (go_at_call 65; refine (lastY_any _ _ _ _ _ g1).mono ?_; rintro e w1 ⟨rfl, hb2⟩) | (go_at_call 65; refine (lastY_any _ _ _ _ _ g2).mono ?_; rintro e w1 ⟨rfl, hb2⟩) | (go_at_call 63; refine (ends1b _ (y2 + b2 - 1) _ _ ?_).mono ?_; (focus (simp [go_sem]; done)); rintro e w1 ⟨rfl, hb2⟩))
    obtain ⟨hb, _⟩ := ‹Below _ _ _ ∧ _›
    obtain ⟨hc, hf⟩ := bcell hb
    go_wp2_with (first | (go_at_call 66; refine (spanned_any _ _ _ _ _ ?_).mono ?_; (focus omega); rintro e w1 ⟨rfl, hb2⟩; replace hb := bstep hb hb2 (Nat.le_refl _); (try clear hc hf); obtain ⟨hc, hf⟩ := bcell hb) | (go_at_call 44; refine (rcRight_any _ _ _ _ _).mono ?_; rintro e w1 ⟨rfl, hb2⟩; obtain ⟨hc2, hf2⟩ := bcell hb2; replace hb := bstepA hb hb2 (Nat.le_refl _); (try clear hc hf); obtain ⟨hc, hf⟩ := bcell hb))
    exact bodyPost_ret (v := .tuple #[.agg #[.int .i64 (max x1 x2), .int .i64 (max y1 y2), .int .i64 (min (x1 + a1 - 1) (x2 + a2 - 1) - max x1 x2 + 1), .int .i64 (min (y1 + b1 - 1) (y2 + b2 - 1) - max y1 y2 + 1)], .bool true]) (by simp [results, Try.results23, go_sem, hc]) rfl ⟨meet_val hv hm, sc4 (ba3 hb) (by omega)⟩
theorem iMeet_any (x1 y1 a1 b1 x2 y2 a2 b2 : Int) (w : World) :
    Calls Try.prog 23 #[.agg #[.int .i64 x1, .int .i64 y1, .int .i64 a1, .int .i64 b1], .agg #[.int .i64 x2, .int .i64 y2, .int .i64 a2, .int .i64 b2]] w fun e w' => e = .returned (meetV x1 y1 a1 b1 x2 y2 a2 b2) ∧ Below w.heap.size w w' := by
  cases hv : (okB x1 y1 a1 b1 && okB x2 y2 a2 b2)
  · exact iMeet_not _ _ _ _ _ _ _ _ w hv
  · cases hm : mB x1 y1 a1 b1 x2 y2 a2 b2
    · exact iMeet_no _ _ _ _ _ _ _ _ w hv hm
    · exact iMeet_yes _ _ _ _ _ _ _ _ w hv hm
end Go.Proofs.Ythmpemamagjeeaa
