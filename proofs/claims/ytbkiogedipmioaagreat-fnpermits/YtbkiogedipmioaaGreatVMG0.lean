/-
  Contracts that say, too, that a call draws no answer back: 'Below' with the count of draws. The small functions that the sort's comparison reaches.
-/
import Derived.Test.YtbkiogedipmioaaGreatVMO1
import Derived.Test.YtbkiogedipmioaaGreatVML4
import Derived.Sort.Grow
namespace Go.Proofs.YtbkiogedipmioaaGreat.V.M.D
open Go.RowKit Go.Joins
attribute [local go_sem] Oper.semAt_some

structure Below (B : Nat) (w w' : World) : Prop where
  os : w'.os = w.os
  tape : w'.tape = w.tape
  output : w'.output = w.output
  size : w.heap.size ≤ w'.heap.size
  block : ∀ k, k < B → w'.heap[k]? = w.heap[k]?
  drawn : w.drawn ≤ w'.drawn
theorem Below.old {B : Nat} {w w' : World} (h : Below B w w') : Go.RowKit.Below B w w' := ⟨h.os, h.tape, h.output, h.size, h.block⟩
theorem Below.of {B : Nat} {w w' : World} (h : Go.RowKit.Below B w w') (hd : w.drawn ≤ w'.drawn) : Below B w w' := ⟨h.os, h.tape, h.output, h.size, h.block, hd⟩
theorem Below.refl (B : Nat) (w : World) : Below B w w := ⟨rfl, rfl, rfl, Nat.le_refl _, fun _ _ => rfl, Nat.le_refl _⟩
theorem Below.trans {B : Nat} {a b c : World} (h : Below B a b) (k : Below B b c) : Below B a c := .of (h.old.trans k.old) (Nat.le_trans h.drawn k.drawn)
theorem Below.mono {B B' : Nat} {a b : World} (h : Below B a b) (hb : B' ≤ B) : Below B' a b := .of (h.old.mono hb) h.drawn
theorem Below.cell {B : Nat} {w w' : World} (h : Below B w w') {p : Addr} (hp : p.block < B) : w'.cell? p = w.cell? p := h.old.cell hp
theorem Below.frozen {B : Nat} {w w' : World} (h : Below B w w') {p : Addr} (hp : p.block < B) : w'.frozen? p = w.frozen? p := h.old.frozen hp
theorem Below.alloc {B : Nat} {a w : World} (h : Below B a w) (hb : B ≤ w.heap.size) (o : Obj) : Below B a (w.alloc o) := .of (h.old.alloc hb o) h.drawn
theorem Below.setCell {B : Nat} {a w : World} (h : Below B a w) {p : Addr} (hp : B ≤ p.block) (v : Value) : Below B a (w.setCell p v) := .of (h.old.setCell hp v) h.drawn
theorem Below.drew {B : Nat} {a w : World} (h : Below B a w) : Below B a w.drew := .of h.old.drew (Nat.le_trans h.drawn (Nat.le_succ _))
theorem Below.heap_alloc (w : World) (o : Obj) (k : Nat) (hk : k < w.heap.size) : (w.alloc o).heap[k]? = w.heap[k]? := Go.RowKit.Below.heap_alloc w o k hk
theorem Below.heap_setCell (w : World) (p : Addr) (v : Value) (k : Nat) (hk : k ≠ p.block) : (w.setCell p v).heap[k]? = w.heap[k]? := Go.RowKit.Below.heap_setCell w p v k hk
theorem below_alloc1 (w : World) (o : Obj) : Below w.heap.size w (w.alloc o) := .of (Go.Joins.below_alloc1 w o) (Nat.le_refl _)
theorem below_alloc2 (w : World) (o p : Obj) : Below w.heap.size w ((w.alloc o).alloc p) := .of (Go.Joins.below_alloc2 w o p) (Nat.le_refl _)
theorem below_alloc3 (w : World) (o p q : Obj) : Below w.heap.size w (((w.alloc o).alloc p).alloc q) := .of (Go.Joins.below_alloc3 w o p q) (Nat.le_refl _)
/-- What only makes memory and draws. -/
theorem Below.grown {w w' : World} (h : Below w.heap.size w w') : ∃ q os', w' = Go.Sort.grow (w.drewN q) os' := by
  obtain ⟨h1, h2, h3, h4, h5, h6⟩ := h
  refine ⟨w'.drawn - w.drawn, w'.heap.extract w.heap.size w'.heap.size, ?_⟩
  obtain ⟨heap, tape, drawn, os, output⟩ := w
  obtain ⟨heap', tape', drawn', os', output'⟩ := w'
  simp only at h1 h2 h3 h4 h5 h6
  subst h1 h2 h3
  simp only [Go.Sort.grow, World.drewN]
  congr 1
  · refine Array.ext_getElem? fun i => ?_
    by_cases hi : i < heap.size
    · rw [Array.getElem?_append_left hi]; exact h5 i hi
    · rw [Array.getElem?_append_right (by omega), Array.getElem?_extract]
      simp only [Nat.min_self]
      split
      · congr 1; omega
      · exact Array.getElem?_eq_none (by omega)
  · omega
theorem bcell {W w1 : World} (hb : Below W.heap.size W w1) : (∀ b o, b < W.heap.size → w1.cell? ⟨b, o, none⟩ = W.cell? ⟨b, o, none⟩) ∧ (∀ b o, b < W.heap.size → w1.frozen? ⟨b, o, none⟩ = W.frozen? ⟨b, o, none⟩) :=
  ⟨fun b o h => hb.cell (p := ⟨b, o, none⟩) h, fun b o h => hb.frozen (p := ⟨b, o, none⟩) h⟩
theorem bstep {B : Nat} {W w1 w2 : World} (h : Below B W w1) (hb : Below w1.heap.size w1 w2) (hB : B ≤ W.heap.size) : Below B W w2 := h.trans (hb.mono (Nat.le_trans hB h.size))
theorem bstepA {B : Nat} {W w1 w2 : World} {o : Obj} (h : Below B W w1) (hb : Below (w1.alloc o).heap.size (w1.alloc o) w2) (hB : B ≤ W.heap.size) : Below B W w2 :=
  bstep (h.alloc (Nat.le_trans hB h.size) o) hb hB
theorem bstepB {B : Nat} {W w1 w2 : World} {o o2 : Obj} (h : Below B W w1) (hb : Below ((w1.alloc o).alloc o2).heap.size ((w1.alloc o).alloc o2) w2) (hB : B ≤ W.heap.size) : Below B W w2 :=
  bstepA (h.alloc (Nat.le_trans hB h.size) o) hb hB
theorem ba1 {w w1 : World} {o : Obj} (hb : Below (w.alloc o).heap.size (w.alloc o) w1) : Below w.heap.size w w1 := (below_alloc1 w o).trans (hb.mono (by simp))
theorem ba2 {w w1 : World} {o p : Obj} (hb : Below ((w.alloc o).alloc p).heap.size ((w.alloc o).alloc p) w1) : Below w.heap.size w w1 := (below_alloc2 w o p).trans (hb.mono (by simp; omega))
theorem ba3 {w w1 : World} {o p q : Obj} (hb : Below (((w.alloc o).alloc p).alloc q).heap.size (((w.alloc o).alloc p).alloc q) w1) : Below w.heap.size w w1 := (below_alloc3 w o p q).trans (hb.mono (by simp; omega))
theorem sc4 {B : Nat} {w w1 : World} {g : Nat} (h : Below B w w1) (hg : B ≤ g) {v0 v1 v2 v3 : Value} : Below B w ((((w1.setCell ⟨g, 0, none⟩ v0).setCell ⟨g, 1, none⟩ v1).setCell ⟨g, 2, none⟩ v2).setCell ⟨g, 3, none⟩ v3) :=
  (((h.setCell (p := ⟨g, 0, none⟩) hg v0).setCell (p := ⟨g, 1, none⟩) hg v1).setCell (p := ⟨g, 2, none⟩) hg v2).setCell (p := ⟨g, 3, none⟩) hg v3
theorem sc2 {B : Nat} {w w1 : World} {g : Nat} (h : Below B w w1) (hg : B ≤ g) {v0 v1 : Value} : Below B w ((w1.setCell ⟨g, 0, none⟩ v0).setCell ⟨g, 1, none⟩ v1) :=
  (h.setCell (p := ⟨g, 0, none⟩) hg v0).setCell (p := ⟨g, 1, none⟩) hg v1
theorem sc3 {B : Nat} {w w1 : World} {g : Nat} (h : Below B w w1) (hg : B ≤ g) {v0 v1 v2 : Value} : Below B w (((w1.setCell ⟨g, 0, none⟩ v0).setCell ⟨g, 1, none⟩ v1).setCell ⟨g, 2, none⟩ v2) :=
  ((h.setCell (p := ⟨g, 0, none⟩) hg v0).setCell (p := ⟨g, 1, none⟩) hg v1).setCell (p := ⟨g, 2, none⟩) hg v2
set_option maxHeartbeats 400000 in
theorem spRight_any (x y : Int) (w : World) :
    Calls Tryz.prog 49 #[.agg #[.int .i64 x, .int .i64 y]] w fun e w' => e = .returned (.bool (spB x y)) ∧ Below w.heap.size w w' := by
  go_enter Tryz.func49, Tryz.ntmps49
  go_wp2
  all_goals (go_ret; exact ⟨ret_bool (by unfold spB; first | exact (decide_eq_true (by omega)).symm | exact (decide_eq_false (by omega)).symm | exact decide_eq_decide.mpr (by omega)), below_alloc1 _ _⟩)
theorem bdrewN {B : Nat} {a w : World} (h : Below B a w) (n : Nat) : Below B a (w.drewN n) := h.trans ⟨rfl, rfl, rfl, Nat.le_refl _, fun _ _ => rfl, Nat.le_add_right _ _⟩
set_option maxHeartbeats 1000000 in
theorem isRight_any (l x y : Int) (w : World) :
    Calls Tryz.prog 85 #[.agg #[.int .i64 l, .int .i64 x, .int .i64 y]] w fun e w' => e = .returned (.bool (cellB l x y)) ∧ Below w.heap.size w w' := by
  cases hv : levB l
  · go_enter Tryz.func85, Tryz.ntmps85
    go_wp2
    go_quiet ((go_at_call 87; refine Calls.quiet_of_same (isLevel_v hv _)))
    go_wp2
    go_ret
    exact ⟨ret_bool (by unfold levB at hv; unfold cellB; have := of_decide_eq_false hv; exact (decide_eq_false (by omega)).symm), bdrewN (below_alloc1 _ _) _⟩
  obtain ⟨h0, h8⟩ := levB_t.mp hv
  obtain ⟨p1, p2⟩ := pw h0 h8
  have e1 : wrap64 (2 ^ l.toNat) = 2 ^ l.toNat := w64 (by omega) (by omega)
  cases h1 : decide (0 ≤ x)
  · go_enter Tryz.func85, Tryz.ntmps85
    go_wp2
    go_quiet ((go_at_call 87; refine Calls.quiet_of_same (isLevel_v hv _)))
    go_wp2
    go_ret
    exact ⟨ret_bool (by unfold cellB; have := of_decide_eq_false h1; exact (decide_eq_false (by omega)).symm), bdrewN (below_alloc1 _ _) _⟩
  have k1 : 0 ≤ x := of_decide_eq_true h1
  cases h2 : decide (x < 2 ^ l.toNat)
  · go_enter Tryz.func85, Tryz.ntmps85
    go_wp2
    go_quiet ((go_at_call 87; refine Calls.quiet_of_same (isLevel_v hv _)))
    go_wp2
    go_ret
    exact ⟨ret_bool (by unfold cellB; have := of_decide_eq_false h2; exact (decide_eq_false (by omega)).symm), bdrewN (below_alloc1 _ _) _⟩
  have k2 : x < 2 ^ l.toNat := of_decide_eq_true h2
  cases h3 : decide (0 ≤ y)
  · go_enter Tryz.func85, Tryz.ntmps85
    go_wp2
    go_quiet ((go_at_call 87; refine Calls.quiet_of_same (isLevel_v hv _)))
    go_wp2
    go_ret
    exact ⟨ret_bool (by unfold cellB; have := of_decide_eq_false h3; exact (decide_eq_false (by omega)).symm), bdrewN (below_alloc1 _ _) _⟩
  have k3 : 0 ≤ y := of_decide_eq_true h3
  go_enter Tryz.func85, Tryz.ntmps85
  go_wp2
  go_quiet ((go_at_call 87; refine Calls.quiet_of_same (isLevel_v hv _)))
  go_wp2
  go_ret
  exact ⟨ret_bool (by unfold cellB; exact decide_eq_decide.mpr (by omega)), bdrewN (below_alloc1 _ _) _⟩
theorem isRight_v {l x y : Int} {v : Bool} (hv : cellB l x y = v) (w : World) :
    Calls Tryz.prog 85 #[.agg #[.int .i64 l, .int .i64 x, .int .i64 y]] w fun e w' => e = .returned (.bool v) ∧ Below w.heap.size w w' := by subst hv; exact isRight_any l x y w
theorem spRight_v {x y : Int} {v : Bool} (hv : spB x y = v) (w : World) :
    Calls Tryz.prog 49 #[.agg #[.int .i64 x, .int .i64 y]] w fun e w' => e = .returned (.bool v) ∧ Below w.heap.size w w' := by subst hv; exact spRight_any x y w
set_option maxHeartbeats 1000000 in
theorem iRectOf_at {l x y d : Int} (h : cellB l x y = true) (hd : wrap64 (2 ^ (8 - l).toNat) = d) (hd2 : sd l = d) (hl : 0 ≤ wrap64 (8 - l) ∧ wrap64 (8 - l) ≤ 64 ∧ (wrap64 (8 - l)) = 8 - l) (w : World) :
    Calls Tryz.prog 156 #[.agg #[.int .i64 l, .int .i64 x, .int .i64 y]] w fun e w' => e = .returned (.agg #[.int .i64 (rX l x y), .int .i64 (rY l x y), .int .i64 (rS l x y), .int .i64 (rS l x y)]) ∧ Below w.heap.size w w' := by
  obtain ⟨h0, h8, hx, hx1, hy, hy1⟩ := cellB_t.mp h
  obtain ⟨q1, q2⟩ := mul_bd h0 h8 hx hx1
  obtain ⟨r1, r2⟩ := mul_bd h0 h8 hy hy1
  obtain ⟨p1, p2⟩ := sd_bd h0 h8
  have ex : rX l x y = x * d := by simp [rX, h, hd2]
  have ey : rY l x y = y * d := by simp [rY, h, hd2]
  have es : rS l x y = d := by simp [rS, h, hd2]
  rw [hd2] at q1 q2 r1 r2 p1 p2
  have f1 : wrap64 (x * d) = x * d := w64 (by omega) (by omega)
  have f2 : wrap64 (y * d) = y * d := w64 (by omega) (by omega)
  rw [ex, ey, es]
  obtain ⟨g1, g2, g3⟩ := hl
  clear ex ey es hd2 h0 h8 hx hx1 hy hy1 q1 q2 r1 r2 p1 p2
  generalize hm : wrap64 (8 - l) = m at g1 g2 g3
  go_enter Tryz.func156, Tryz.ntmps156
  go_wp2_with (go_at_call 85; refine (isRight_v h _).mono ?_; rintro e w1 ⟨rfl, hb2⟩; (first | replace hb := bstep hb hb2 (Nat.le_refl _) | have hb := hb2); obtain ⟨hc, hf⟩ := bcell hb)
  refine bodyPost_ret (v := .agg #[.int .i64 (x * d), .int .i64 (y * d), .int .i64 d, .int .i64 d]) (by first | (simp [results, Tryz.results156, go_sem, hc]; done) | (simp [results, Tryz.results156, go_sem, hc]; exact ⟨by rw [hd, f1], by rw [hd, f2], hd⟩)) rfl ⟨rfl, ?_⟩
  exact sc4 (ba2 hb) (Nat.le_succ _)
set_option maxHeartbeats 1000000 in
theorem iRectOf_any (l x y : Int) (w : World) :
    Calls Tryz.prog 156 #[.agg #[.int .i64 l, .int .i64 x, .int .i64 y]] w fun e w' => e = .returned (.agg #[.int .i64 (rX l x y), .int .i64 (rY l x y), .int .i64 (rS l x y), .int .i64 (rS l x y)]) ∧ Below w.heap.size w w' := by
  cases h : cellB l x y
  · have ex : rX l x y = 0 := by simp [rX, h]
    have ey : rY l x y = 0 := by simp [rY, h]
    have es : rS l x y = 0 := by simp [rS, h]
    rw [ex, ey, es]
    go_enter Tryz.func156, Tryz.ntmps156
    go_wp2_with (go_at_call 85; refine (isRight_v h _).mono ?_; rintro e w1 ⟨rfl, hb2⟩; (first | replace hb := bstep hb hb2 (Nat.le_refl _) | have hb := hb2); obtain ⟨hc, hf⟩ := bcell hb)
    refine bodyPost_ret (v := .agg #[.int .i64 0, .int .i64 0, .int .i64 0, .int .i64 0]) (by simp [results, Tryz.results156, go_sem, hc]) rfl ⟨rfl, ?_⟩
    exact sc4 (ba2 hb) (Nat.le_succ _)
  · obtain ⟨h0, h8⟩ := cell_lev h
    obtain ⟨p1, p2⟩ := sd_bd h0 h8
    have g3 : wrap64 (8 - l) = 8 - l := w64 (by omega) (by omega)
    exact iRectOf_at h (d := sd l) (by rw [pw8 h0 h8]; exact w64 (a := sd l) (by omega) (by omega)) rfl ⟨by omega, by omega, g3⟩ w
set_option maxHeartbeats 1000000 in
theorem iUp_any (l x y : Int) (w : World) :
    Calls Tryz.prog 133 #[.agg #[.int .i64 l, .int .i64 x, .int .i64 y]] w fun e w' => e = .returned (.agg #[.int .i64 (uL l x y), .int .i64 (uX l x y), .int .i64 (uY l x y)]) ∧ Below w.heap.size w w' := by
  cases h : cellB l x y
  · have ex : uL l x y = 0 := by simp [uL, h]
    have ey : uX l x y = 0 := by simp [uX, h]
    have es : uY l x y = 0 := by simp [uY, h]
    rw [ex, ey, es]
    go_enter Tryz.func133, Tryz.ntmps133
    go_wp2_with (go_at_call 85; refine (isRight_v h _).mono ?_; rintro e w1 ⟨rfl, hb2⟩; (first | replace hb := bstep hb hb2 (Nat.le_refl _) | have hb := hb2); obtain ⟨hc, hf⟩ := bcell hb)
    refine bodyPost_ret (v := .agg #[.int .i64 0, .int .i64 0, .int .i64 0]) (by simp [results, Tryz.results133, go_sem, hc]) rfl ⟨rfl, ?_⟩
    exact sc3 (ba2 hb) (Nat.le_succ _)
  obtain ⟨h0, h8, hx, hx1, hy, hy1⟩ := cellB_t.mp h
  obtain ⟨p1, p2⟩ := pw h0 h8
  by_cases k : l = 0
  · subst k
    have ex : uL 0 x y = 0 := by simp [uL]
    have ey : uX 0 x y = 0 := by simp [uX]
    have es : uY 0 x y = 0 := by simp [uY]
    simp at hx1 hy1
    obtain rfl : x = 0 := by omega
    obtain rfl : y = 0 := by omega
    rw [ex, ey, es]
    go_enter Tryz.func133, Tryz.ntmps133
    go_wp2_with (go_at_call 85; refine (isRight_v h _).mono ?_; rintro e w1 ⟨rfl, hb2⟩; (first | replace hb := bstep hb hb2 (Nat.le_refl _) | have hb := hb2); obtain ⟨hc, hf⟩ := bcell hb)
    refine bodyPost_ret (v := .agg #[.int .i64 0, .int .i64 0, .int .i64 0]) (by simp [results, Tryz.results133, go_sem, hc]) rfl ⟨rfl, ?_⟩
    exact sc3 (ba2 hb) (Nat.le_succ _)
  · have ex : uL l x y = l - 1 := by simp [uL, h, k]
    have ey : uX l x y = x / 2 := by simp [uX, h, k]
    have es : uY l x y = y / 2 := by simp [uY, h, k]
    have hk : (l == 0) = false := by simpa using k
    have f1 : wrap64 (l - 1) = l - 1 := w64 (by omega) (by omega)
    have d1 : x.tdiv 2 = x / 2 := Int.tdiv_eq_ediv_of_nonneg hx
    have d2 : y.tdiv 2 = y / 2 := Int.tdiv_eq_ediv_of_nonneg hy
    have d3 : wrap64 (x / 2) = x / 2 := w64 (by omega) (by omega)
    have d4 : wrap64 (y / 2) = y / 2 := w64 (by omega) (by omega)
    rw [ex, ey, es]
    go_enter Tryz.func133, Tryz.ntmps133
    go_wp2_with (go_at_call 85; refine (isRight_v h _).mono ?_; rintro e w1 ⟨rfl, hb2⟩; (first | replace hb := bstep hb hb2 (Nat.le_refl _) | have hb := hb2); obtain ⟨hc, hf⟩ := bcell hb)
    refine bodyPost_ret (v := .agg #[.int .i64 (l - 1), .int .i64 (x / 2), .int .i64 (y / 2)]) (by simp [results, Tryz.results133, go_sem, hc]) rfl ⟨rfl, ?_⟩
    exact sc3 (ba2 hb) (Nat.le_succ _)
set_option maxHeartbeats 1000000 in
theorem iCellAt_any (s t l : Int) (w : World) :
    Calls Tryz.prog 51 #[.agg #[.int .i64 s, .int .i64 t], .int .i64 l] w fun e w' => e = .returned (.agg #[.int .i64 (aL s t l), .int .i64 (aX s t l), .int .i64 (aY s t l)]) ∧ Below w.heap.size w w' := by
  cases h1 : spB s t
  · have h : (spB s t && levB l) = false := by rw [h1]; rfl
    have ex : aL s t l = 0 := by simp [aL, h]
    have ey : aX s t l = 0 := by simp [aX, h]
    have es : aY s t l = 0 := by simp [aY, h]
    rw [ex, ey, es]
    go_enter Tryz.func51, Tryz.ntmps51
    go_wp2_with (go_at_call 49; refine (spRight_v h1 _).mono ?_; rintro e w1 ⟨rfl, hb2⟩; (first | replace hb := bstep hb hb2 (Nat.le_refl _) | have hb := hb2); obtain ⟨hc, hf⟩ := bcell hb)
    refine bodyPost_ret (v := .agg #[.int .i64 0, .int .i64 0, .int .i64 0]) (by simp [results, Tryz.results51, go_sem, hc]) rfl ⟨rfl, ?_⟩
    exact sc3 (ba2 hb) (Nat.le_succ _)
  cases k : levB l
  · have h : (spB s t && levB l) = false := by rw [h1, k]; rfl
    have k1 : levB l = false := k
    have ex : aL s t l = 0 := by simp [aL, h]
    have ey : aX s t l = 0 := by simp [aX, h]
    have es : aY s t l = 0 := by simp [aY, h]
    rw [ex, ey, es]
    go_enter Tryz.func51, Tryz.ntmps51
    go_wp2_with (first | (go_at_call 49; refine (spRight_v h1 _).mono ?_; rintro e w1 ⟨rfl, hb2⟩; (first | replace hb := bstep hb hb2 (Nat.le_refl _) | have hb := hb2); obtain ⟨hc, hf⟩ := bcell hb) | (go_at_call 87; refine (isLevel_v k1 _).mono ?_; rintro e w3 ⟨rfl, rfl⟩))
    refine bodyPost_ret (v := .agg #[.int .i64 0, .int .i64 0, .int .i64 0]) (by simp [results, Tryz.results51, go_sem, hc]) rfl ⟨rfl, ?_⟩
    exact sc3 (ba2 hb) (Nat.le_succ _)
  · have h : (spB s t && levB l) = true := by rw [h1, k]; rfl
    have k1 : levB l = true := k
    obtain ⟨h0, h8⟩ := levB_t.mp k
    obtain ⟨q1, q2, q3, q4⟩ := spB_t.mp h1
    have ex : aL s t l = l := by simp [aL, h]
    have ey : aX s t l = s / 2 ^ (8 - l).toNat := by simp [aX, h]
    have es : aY s t l = t / 2 ^ (8 - l).toNat := by simp [aY, h]
    have f1 : wrap64 (8 - l) = 8 - l := w64 (by omega) (by omega)
    have g1 : 0 ≤ 8 - l := by omega
    have g2 : 8 - l ≤ 64 := by omega
    rw [ex, ey, es]
    go_enter Tryz.func51, Tryz.ntmps51
    go_wp2_with (first | (go_at_call 49; refine (spRight_v h1 _).mono ?_; rintro e w1 ⟨rfl, hb2⟩; (first | replace hb := bstep hb hb2 (Nat.le_refl _) | have hb := hb2); obtain ⟨hc, hf⟩ := bcell hb) | (go_at_call 87; refine (isLevel_v k1 _).mono ?_; rintro e w3 ⟨rfl, rfl⟩))
    go_region
    all_goals go_wp2
    all_goals (refine bodyPost_ret (v := .agg #[.int .i64 l, .int .i64 (s / 2 ^ (8 - l).toNat), .int .i64 (t / 2 ^ (8 - l).toNat)]) (by simp [results, Tryz.results51, go_sem, hc]) rfl ⟨rfl, ?_⟩)
    all_goals exact sc3 (ba2 hb).drew (Nat.le_succ _)
def HasAt (wx : World) (b : Nat) : Nat → List Value → Prop
  | _, [] => True
  | i, v :: vs => wx.cell? ⟨b, i, none⟩ = some v ∧ HasAt wx b (i + 1) vs
def Has (wx : World) : List (Nat × List Value) → Prop
  | [] => True
  | p :: l => (p.1 < wx.heap.size ∧ (∀ o, wx.frozen? ⟨p.1, o, none⟩ = false) ∧ HasAt wx p.1 0 p.2) ∧ Has wx l
theorem HasAt.step {wx w1 : World} {b : Nat} (hb : Below wx.heap.size wx w1) (hlt : b < wx.heap.size) : ∀ {i : Nat} {vs : List Value}, HasAt wx b i vs → HasAt w1 b i vs
  | _, [], _ => trivial
  | i, _ :: _, ⟨h, t⟩ => ⟨(hb.cell (p := ⟨b, i, none⟩) hlt).trans h, HasAt.step hb hlt t⟩
theorem Has.step {wx w1 : World} (hb : Below wx.heap.size wx w1) : ∀ {l : List (Nat × List Value)}, Has wx l → Has w1 l
  | [], _ => trivial
  | p :: _, ⟨⟨h1, h2, h3⟩, t⟩ => ⟨⟨Nat.lt_of_lt_of_le h1 hb.size, fun o => (hb.frozen (p := ⟨p.1, o, none⟩) h1).trans (h2 o), HasAt.step hb h1 h3⟩, Has.step hb t⟩
theorem Has.mem {wx : World} {p : Nat × List Value} : ∀ {l : List (Nat × List Value)}, Has wx l → p ∈ l → (p.1 < wx.heap.size ∧ (∀ o, wx.frozen? ⟨p.1, o, none⟩ = false) ∧ HasAt wx p.1 0 p.2)
  | _ :: _, ⟨h, t⟩, hm => by
    rcases List.mem_cons.mp hm with rfl | hm
    · exact h
    · exact Has.mem t hm
theorem Has.sub {wx : World} {l : List (Nat × List Value)} (h : Has wx l) : ∀ {l' : List (Nat × List Value)}, (∀ p ∈ l', p ∈ l) → Has wx l'
  | [], _ => trivial
  | p :: _, hs => ⟨h.mem (hs p (List.mem_cons_self ..)), Has.sub h (fun q hq => hs q (List.mem_cons_of_mem _ hq))⟩
theorem hasAt_of {wx : World} {b : Nat} : ∀ (vs : List Value) (i : Nat), (∀ j v, vs[j]? = some v → wx.cell? ⟨b, i + j, none⟩ = some v) → HasAt wx b i vs
  | [], _, _ => trivial
  | v :: vs, i, h => ⟨h 0 v rfl, hasAt_of vs (i + 1) (fun j u hj => by have := h (j + 1) u hj; rwa [show i + (j + 1) = i + 1 + j by omega] at this)⟩
/-- Behind w nothing old has turned; each listed block holds its values. -/
structure St (w wx : World) (l : List (Nat × List Value)) : Prop where
  bel : Below w.heap.size w wx
  has : Has wx l
theorem St.nil (w : World) : St w w [] := ⟨Below.refl _ _, trivial⟩
theorem St.step {w wx w1 : World} {l : List (Nat × List Value)} (h : St w wx l) (hb : Below wx.heap.size wx w1) : St w w1 l := ⟨bstep h.bel hb (Nat.le_refl _), h.has.step hb⟩
theorem St.al {w wx : World} {l : List (Nat × List Value)} (h : St w wx l) (o : Obj) : St w (wx.alloc o) l := h.step (below_alloc1 wx o)
theorem St.dr {w wx : World} {l : List (Nat × List Value)} (h : St w wx l) : St w wx.drew l := h.step (Below.refl _ _).drew
theorem St.sub {w wx : World} {l l' : List (Nat × List Value)} (h : St w wx l) (hs : ∀ p ∈ l', p ∈ l) : St w wx l' := ⟨h.bel, h.has.sub hs⟩
theorem St.push {w wx : World} {l : List (Nat × List Value)} (h : St w wx l) (vs : List Value) (t : TypeId) : St w (wx.alloc (.cells vs.toArray t)) ((wx.heap.size, vs) :: l) := by
  refine ⟨(h.al _).bel, ⟨by simp, fun o => World.frozen?_alloc_at _ _ _ _ rfl, hasAt_of _ _ (fun j v hj => ?_)⟩, (h.al _).has⟩
  rw [Nat.zero_add, World.cell?_alloc_at _ _ _ _ rfl]
  simpa using hj
theorem St.size {w wx : World} {l : List (Nat × List Value)} (h : St w wx l) : w.heap.size ≤ wx.heap.size := h.bel.size
/-- What lay from block B on lies as it lay. -/
structure KeepF (B : Nat) (W W' : World) : Prop where
  size : W.heap.size ≤ W'.heap.size
  same : ∀ k, B ≤ k → k < W.heap.size → W'.heap[k]? = W.heap[k]?
theorem KeepF.refl (B : Nat) (W : World) : KeepF B W W := ⟨Nat.le_refl _, fun _ _ _ => rfl⟩
theorem KeepF.trans {B : Nat} {X Y Z : World} (h : KeepF B X Y) (k : KeepF B Y Z) : KeepF B X Z :=
  ⟨Nat.le_trans h.size k.size, fun i hB hi => (k.same i hB (Nat.lt_of_lt_of_le hi h.size)).trans (h.same i hB hi)⟩
theorem KeepF.alloc (B : Nat) (W : World) (o : Obj) : KeepF B W (W.alloc o) := ⟨by simp, fun k _ hk => Below.heap_alloc W o k hk⟩
theorem KeepF.setCell {B b : Nat} (W : World) (i : Nat) (v : Value) (hb : b < B) : KeepF B W (W.setCell ⟨b, i, none⟩ v) :=
  ⟨by simp, fun k hB _ => Below.heap_setCell W ⟨b, i, none⟩ v k (fun e => by have e' : k = b := e; omega)⟩
theorem KeepF.of_below {B : Nat} {W W' : World} (h : Below W.heap.size W W') : KeepF B W W' := ⟨h.size, fun k _ hk => h.block k hk⟩
/-- J asks nothing of what lies from block B on. -/
def Stab (B : Nat) (J : Nat → World → Prop) : Prop := ∀ k X Y, J k X → Below B X Y → J k Y
theorem below_putObj {B l : Nat} (W : World) (o : Obj) (hl : B ≤ l) : Below B W (W.putObj l o) := ⟨rfl, rfl, rfl, by simp, fun _ hk => World.putObj_heap_other (by omega), Nat.le_refl _⟩
/-- The value of an iterator that hands out enc 0, enc 1, .. enc (N - 1), or is told to stop. -/
def UpSeq (P : Program) (gf : Nat) (lb : Array Value) (enc : Nat → Value) (N B : Nat) (w : World) : Prop :=
  ∀ (l : Nat) (J Jx : Nat → World → Prop) (W : World), Below w.heap.size w W → B ≤ W.heap.size → Stab W.heap.size J → Stab W.heap.size Jx →
    (∀ k W1, k < N → J k W1 → YieldAt Fence.wide 1 P l #[enc k] W1 fun e W' =>
      (e = .returned (.bool true) ∧ J (k + 1) W' ∧ KeepF B W1 W') ∨ (e = .returned (.bool false) ∧ Jx k W')) →
    J 0 W →
    CallsIn Fence.wide 2 P gf (#[.func (.yield l) #[] #[]] ++ lb) W fun e W' => (∃ v, e = .returned v) ∧ (J N W' ∨ ∃ k, k < N ∧ Jx k W')
/-- How a round may be left. -/
def postU (B : Nat) (I Ix : Nat → World → Prop) (k : Nat) (W : World) : Exit → Act → World → Prop
  | .normal, _, W' => KeepF B W W' ∧ I (k + 1) W'
  | .ret, _, W' => KeepF B W W' ∧ Ix k W'
  | _, _, _ => False
theorem range_up {P : Program} {g : Operand} {p : Tmp} {assign body : Code} {Q : Exit → Act → World → Prop} {a : Act} {w : World} {gf : Nat} {lb : Array Value}
    (hg : a.eval g = .func (.func gf) #[] lb) (eg : ∀ args w, (callFunc gf args).run P w = .ok (.enter gf args) w)
    {enc : Nat → Value} {cs : Nat → Array Value} {t : TypeId} {N : Nat} (hseq : UpSeq P gf lb enc N w.heap.size w)
    (I Ix : Nat → World → Prop) (hI : Stab w.heap.size I) (hIx : Stab w.heap.size Ix) (h0 : I 0 w) (a1 : Nat → Nat → Act)
    (hassign : ∀ (l k : Nat) (W : World) (K : Act → World → Prop), K (a1 k W.heap.size) (W.alloc (.cells (cs k) t)) →
      assign.wpIn (Fence.wide.inRound l) 1 P (Exit.then K (fun _ _ _ => False)) { tmps := ((#[p] : Array Tmp).zip #[enc k]).foldl (fun t (p, v) => t.setIfInBounds p v) a.tmps, defers := [] } W)
    (hbody : ∀ (l k v : Nat) (W : World), k < N → I k W → w.heap.size ≤ v → v < W.heap.size → W.heap[v]? = some (.cells (cs k) t) → w.heap.size ≤ W.heap.size →
      body.wpIn (Fence.wide.inRound l) 1 P (postU w.heap.size I Ix k W) (a1 k v) W)
    (hdone : ∀ (W : World), I N W → W.heap[w.heap.size]? = some (.deferred (some [])) → Q .normal { a with defers := { target := .collected w.heap.size, args := #[] } :: a.defers } W)
    (hstop : ∀ (k : Nat) (W : World), k < N → Ix k W → W.heap[w.heap.size]? = some (.deferred (some [])) → Code.ret.wpIn Fence.wide 3 P Q { a with defers := { target := .collected w.heap.size, args := #[] } :: a.defers } W) :
    (Code.rangeFunc g #[p] assign body).wpIn Fence.wide 3 P Q a w := by
  refine wpIn_rangeFunc fun fn hfn => ?_
  obtain ⟨rc, hrc⟩ : ∃ rc : LoopState → Option Code → Loop, rc = fun st pe => { state := st, pending := pe, fn, tmps := a.tmps, params := #[p], assign, body, defers := w.heap.size } := ⟨_, rfl⟩
  obtain ⟨W1, hW1⟩ : ∃ W1, (w.alloc (.deferred (some []))).alloc (.loop (rc .ready none)) = W1 := ⟨_, rfl⟩
  have hz : W1.heap.size = w.heap.size + 1 + 1 := by rw [← hW1]; simp
  have hL1 : W1.heap[w.heap.size + 1]? = some (.loop (rc .ready none)) := by
    rw [← hW1]; have := World.alloc_heap_new (w.alloc (.deferred (some []))) (.loop (rc .ready none)); rwa [World.size_alloc] at this
  have hK1 : W1.heap[w.heap.size]? = some (.deferred (some [])) := by
    rw [← hW1]; exact (Below.heap_alloc _ _ _ (by simp)).trans (World.alloc_heap_new w _)
  have hb1 : Below w.heap.size w W1 := by rw [← hW1]; exact below_alloc2 _ _ _
  refine ⟨w.heap.size + 1, [{ target := .collected w.heap.size, args := #[] }], W1, { target := .fn (.func gf) lb, args := #[.func (.yield (w.heap.size + 1)) #[] #[]] }, W1, gf,
    #[.func (.yield (w.heap.size + 1)) #[] #[]] ++ lb, W1, ?_, ?_, fun _ _ => trivial, ?_, fun _ => by decide, ?_⟩
  · rw [← hW1, hrc]; exact run_enterLoop_outer _ _ _ _ _
  · simp only [resolve, hg]
    simp [go_sem]
  · simp [invoke, go_sem, eg]
  · refine (hseq (w.heap.size + 1)
      (fun k W => I k W ∧ W.heap[w.heap.size + 1]? = some (.loop (rc .ready none)) ∧ W.heap[w.heap.size]? = some (.deferred (some [])))
      (fun k W => Ix k W ∧ W.heap[w.heap.size + 1]? = some (.loop (rc .done (some .ret))) ∧ W.heap[w.heap.size]? = some (.deferred (some [])))
      W1 hb1 (by omega)
      (fun k X Y hs hb => ⟨hI k X Y hs.1 (hb.mono (by omega)), (hb.block _ (by omega)).trans hs.2.1, (hb.block _ (by omega)).trans hs.2.2⟩)
      (fun k X Y hs hb => ⟨hIx k X Y hs.1 (hb.mono (by omega)), (hb.block _ (by omega)).trans hs.2.1, (hb.block _ (by omega)).trans hs.2.2⟩)
      ?_ ⟨hI 0 _ _ h0 hb1, hL1, hK1⟩).mono ?_
    · rintro k W hkN ⟨hi, hl, hk⟩
      have hlt : w.heap.size + 1 < W.heap.size := (Array.getElem?_eq_some_iff.1 hl).1
      have hy := run_yield (P := P) (args := #[enc k]) hl (by rw [hrc]; rfl)
      rw [hrc] at hy
      refine ⟨fn, _, assign, body, hy, roundIn_of_wpIn hfn ?_⟩
      clear hy
      refine hassign _ k W _ ?_
      obtain ⟨Wa, hWa⟩ : ∃ Wa, W.alloc (.cells (cs k) t) = Wa := ⟨_, rfl⟩
      rw [hWa]
      have kfa : KeepF w.heap.size W Wa := by rw [← hWa]; exact KeepF.alloc _ _ _
      have hza : Wa.heap.size = W.heap.size + 1 := by rw [← hWa]; simp
      have hva : Wa.heap[W.heap.size]? = some (.cells (cs k) t) := by rw [← hWa]; exact World.alloc_heap_new _ _
      have hia : I k Wa := by rw [← hWa]; exact hI _ _ _ hi ((Below.refl _ _).alloc (by omega) _)
      have hla := (kfa.same _ (by omega) hlt).trans hl
      have hka := (kfa.same _ (Nat.le_refl _) (by omega)).trans hk
      obtain ⟨bz, hbz⟩ : ∃ bz : Obj, bz = .loop { rc .ready none with state := .busy } := ⟨_, rfl⟩
      refine ⟨_, run_beginRound hla (by rw [hrc]), ?_⟩
      rw [← hbz]
      have hlb : (Wa.putObj (w.heap.size + 1) bz).heap[w.heap.size + 1]? = some bz := World.putObj_heap_same (by omega)
      refine wpIn_mono (hbody _ k W.heap.size _ hkN (hI _ _ _ hia (below_putObj _ _ (by omega))) (by omega) (by simp; omega) ((World.putObj_heap_other (by omega)).trans hva) (by simp; omega)) ?_
      have fin : ∀ (j : Option Code) (W3 : World), KeepF w.heap.size (Wa.putObj (w.heap.size + 1) bz) W3 →
          (Instr.endRound (w.heap.size + 1) j).run P W3 = .ok (.bool j.isNone) (W3.putObj (w.heap.size + 1) (.loop (rc (if j.isNone then .ready else .done) j))) ∧
          (W3.putObj (w.heap.size + 1) (.loop (rc (if j.isNone then .ready else .done) j))).heap[w.heap.size + 1]? = some (.loop (rc (if j.isNone then .ready else .done) j)) ∧
          (W3.putObj (w.heap.size + 1) (.loop (rc (if j.isNone then .ready else .done) j))).heap[w.heap.size]? = some (.deferred (some [])) := fun j W3 h3 => by
        have hz3 := h3.size
        simp at hz3
        have hl3 := (h3.same (w.heap.size + 1) (by omega) (by simp; omega)).trans hlb
        rw [hbz] at hl3
        have := run_endRound (P := P) j hl3
        rw [hrc] at this ⊢
        refine ⟨this, World.putObj_heap_same (by omega), (World.putObj_heap_other (by omega)).trans ?_⟩
        exact (h3.same _ (Nat.le_refl _) (by simp; omega)).trans ((World.putObj_heap_other (by omega)).trans hka)
      rintro e a3 W3 hp
      cases e with
      | normal =>
        obtain ⟨h3, hi3⟩ := hp
        obtain ⟨hr, hl4, hk4⟩ := fin none W3 h3
        refine ⟨_, _, hr, .inl ⟨rfl, ⟨hI _ _ _ hi3 (below_putObj _ _ (by omega)), hl4, hk4⟩, ⟨?_, fun i hB hi => ?_⟩⟩⟩
        · have := h3.size; simp at this; simp; omega
        · by_cases e : i = w.heap.size + 1
          · subst e; rw [hl4, hl]; rfl
          · refine (World.putObj_heap_other e).trans ((h3.same i hB (by simp; omega)).trans ((World.putObj_heap_other e).trans (kfa.same i hB hi)))
      | ret =>
        obtain ⟨h3, hi3⟩ := hp
        obtain ⟨hr, hl4, hk4⟩ := fin (some .ret) W3 h3
        exact ⟨_, _, hr, .inr ⟨rfl, hIx _ _ _ hi3 (below_putObj _ _ (by omega)), hl4, hk4⟩⟩
      | exit id => exact hp.elim
      | goto t => exact hp.elim
      | panic ch => exact hp.elim
      | outgrown => exact hp.elim
    · rintro e W2 ⟨⟨v, rfl⟩, (⟨hi, hl, hk⟩ | ⟨k, hkN, hi, hl, hk⟩)⟩
      · exact ⟨none, _, by have := run_endLoop (P := P) hl (by rw [hrc]; simp); rw [hrc] at this; exact this, hdone _ (hI _ _ _ hi (below_putObj _ _ (by omega))) ((World.putObj_heap_other (by omega)).trans hk)⟩
      · exact ⟨some .ret, _, by have := run_endLoop (P := P) hl (by rw [hrc]; simp); rw [hrc] at this; exact this, hstop k _ hkN (hIx _ _ _ hi (below_putObj _ _ (by omega))) ((World.putObj_heap_other (by omega)).trans hk)⟩
theorem keepF_cell {B g i : Nat} {W W' : World} (h : KeepF B W W') (hB : B ≤ g) (hg : g < W.heap.size) : W'.cell? ⟨g, i, none⟩ = W.cell? ⟨g, i, none⟩ := World.cell?_of_block (h.same g hB hg)
theorem keepF_frozen {B g i : Nat} {W W' : World} (h : KeepF B W W') (hB : B ≤ g) (hg : g < W.heap.size) : W'.frozen? ⟨g, i, none⟩ = W.frozen? ⟨g, i, none⟩ := World.frozen?_of_block (h.same g hB hg)
set_option maxRecDepth 100000 in
set_option maxHeartbeats 2000000 in
theorem up_seq {l x y : Int} (h : cellB l x y = true) (b : Nat) (w : World) (hb : b < w.heap.size)
    (c0 : w.cell? ⟨b, 0, none⟩ = some (.int .i64 l)) (c1 : w.cell? ⟨b, 1, none⟩ = some (.int .i64 x)) (c2 : w.cell? ⟨b, 2, none⟩ = some (.int .i64 y)) :
    UpSeq Tryz.prog 132 #[.pointer (some ⟨b, 0, none⟩)] (encU l x y) (l.toNat + 1) w.heap.size w := by
  intro lp J Jx W hW hB hJ hJx hY h0
  have d0 := (hW.cell (p := ⟨b, 0, none⟩) hb).trans c0
  have d1 := (hW.cell (p := ⟨b, 1, none⟩) hb).trans c1
  have d2 := (hW.cell (p := ⟨b, 2, none⟩) hb).trans c2
  obtain ⟨hl0, hl8⟩ := cell_lev h
  refine callsIn_of_wp Tryz.func132 rfl trivial ?_ rfl
  simp only [Tryz.ntmps132, List.size_toArray, List.length_cons, List.length_nil, Nat.reduceAdd, Nat.reduceSub, Array.replicate_succ, Array.replicate_zero, List.push_toArray, List.append_toArray, List.nil_append, List.cons_append]
  gi_wp2
  gi_loopw [] (fun wr => ∃ k : Nat, k ≤ l.toNat ∧ J k wr ∧ W.heap.size < wr.heap.size ∧ wr.cell? ⟨W.heap.size, 0, none⟩ = some (.int .i64 (l - k)) ∧ wr.cell? ⟨W.heap.size, 1, none⟩ = some (.int .i64 (half x k)) ∧ wr.cell? ⟨W.heap.size, 2, none⟩ = some (.int .i64 (half y k)) ∧ ∀ o, wr.frozen? ⟨W.heap.size, o, none⟩ = false)
    (fun wr => (intAt (wr.cell? ⟨W.heap.size, 0, none⟩)).toNat)
  case atStart =>
    refine ⟨0, by omega, hJ _ _ _ h0 (below_alloc1 _ _), by simp, ?_, ?_, ?_, ?_⟩
    · simp [go_sem]
    · simp [go_sem, half]
    · simp [go_sem, half]
    · intro o; exact World.frozen?_alloc_at _ _ _ _ rfl
  case round =>
    obtain ⟨k, hk, hj, hlt, e0, e1, e2, hf⟩ := hrel
    obtain ⟨fn, tmps, assign, body, hy, hR⟩ := hY k wr (by omega) hj
    dsimp only [encU] at hy
    gi_wp2
    refine hR.mono ?_
    rintro e W3 (⟨rfl, hJ3, hk3⟩ | ⟨rfl, hJx3⟩)
    · have hz3 := hk3.size
      have f0 := (keepF_cell (i := 0) hk3 hB hlt).trans e0
      have f1 := (keepF_cell (i := 1) hk3 hB hlt).trans e1
      have f2 := (keepF_cell (i := 2) hk3 hB hlt).trans e2
      have ff : ∀ o, W3.frozen? ⟨W.heap.size, o, none⟩ = false := fun o => (keepF_frozen hk3 hB hlt).trans (hf o)
      have hok := anc_ok h hk
      by_cases hz : 0 < l - (k : Int)
      · have hlu : uL (l - k) (half x k) (half y k) = l - ((k + 1 : Nat) : Int) := by simp only [uL, hok, if_true]; rw [if_neg (by omega)]; omega
        have hxu : uX (l - k) (half x k) (half y k) = half x (k + 1) := by simp only [uX, hok, if_true]; rw [if_neg (by omega)]; rfl
        have hyu : uY (l - k) (half x k) (half y k) = half y (k + 1) := by simp only [uY, hok, if_true]; rw [if_neg (by omega)]; rfl
        gi_wp2_with (refine ⟨trivial, ?_⟩; gi_at_call 133; refine (callsIn_wide.2 (iUp_any _ _ _ _)).mono ?_; rw [hlu, hxu, hyu]; rintro e w4 ⟨rfl, hb4⟩; have hz4 := hb4.size; have g0 := (hb4.cell (p := ⟨W.heap.size, 0, none⟩) (by show W.heap.size < W3.heap.size; omega)).trans f0; have g1 := (hb4.cell (p := ⟨W.heap.size, 1, none⟩) (by show W.heap.size < W3.heap.size; omega)).trans f1; have g2 := (hb4.cell (p := ⟨W.heap.size, 2, none⟩) (by show W.heap.size < W3.heap.size; omega)).trans f2; have gf : ∀ o, w4.frozen? ⟨W.heap.size, o, none⟩ = false := fun o => (hb4.frozen (p := ⟨W.heap.size, o, none⟩) (by show W.heap.size < W3.heap.size; omega)).trans (ff o))
        go_roundw
        case rel =>
          refine ⟨k + 1, by omega, hJ _ _ _ hJ3 (sc3 (hb4.mono (by omega)) (Nat.le_refl _)), by simp; omega, ?_, ?_, ?_, ?_⟩
          · go_simp
          · go_simp
          · go_simp
          · intro o; go_simp
        case measure =>
          have q : ∀ v, v = some (Value.int .i64 (l - ((k : Int) + 1))) → (intAt v).toNat < (intAt (some (.int .i64 (l - (k : Int))))).toNat := by rintro _ rfl; simp only [intAt]; omega
          rw [e0]
          exact q _ (by go_simp)
      · gi_wp2
        go_end0
        exact ⟨⟨_, rfl⟩, .inl (by rw [show l.toNat = k by omega]; exact hJ3)⟩
    · gi_wp2
      go_end0
      exact ⟨⟨_, rfl⟩, .inr ⟨k, by omega, hJx3⟩⟩
theorem St.stab {B : Nat} {w X Y : World} {l : List (Nat × List Value)} (h : St w X l) (hb : Below B X Y) (hB : w.heap.size ≤ B) (hl : ∀ p ∈ l, p.1 < B) : St w Y l := by
  refine ⟨h.bel.trans (hb.mono hB), ?_⟩
  have hh := h.has
  clear h
  induction l with
  | nil => trivial
  | cons p t ih =>
    obtain ⟨⟨h1, h2, h3⟩, h4⟩ := hh
    have hp := hl p (List.mem_cons_self ..)
    refine ⟨⟨Nat.lt_of_lt_of_le h1 hb.size, fun o => (hb.frozen (p := ⟨p.1, o, none⟩) hp).trans (h2 o), ?_⟩, ih (fun q hq => hl q (List.mem_cons_of_mem _ hq)) h4⟩
    have : ∀ (i : Nat) (vs : List Value), HasAt X p.1 i vs → HasAt Y p.1 i vs := by
      intro i vs
      induction vs generalizing i with
      | nil => intro _; trivial
      | cons v vs ihv => intro hv; exact ⟨(hb.cell (p := ⟨p.1, i, none⟩) hp).trans hv.1, ihv _ hv.2⟩
    exact this _ _ h3
theorem HasAt.far {W : World} {b g i : Nat} {v : Value} (hne : b ≠ g) : ∀ {j : Nat} {vs : List Value}, HasAt W g j vs → HasAt (W.setCell ⟨b, i, none⟩ v) g j vs
  | _, [], _ => trivial
  | j, _ :: _, ⟨h, t⟩ => ⟨(World.cell?_of_block (Below.heap_setCell W ⟨b, i, none⟩ v g (fun e => hne (by have e' : g = b := e; omega)))).trans h, HasAt.far hne t⟩
theorem Has.far {W : World} {b i : Nat} {v : Value} : ∀ {l : List (Nat × List Value)}, (∀ p ∈ l, b ≠ p.1) → Has W l → Has (W.setCell ⟨b, i, none⟩ v) l
  | [], _, _ => trivial
  | p :: _, hl, ⟨⟨h1, h2, h3⟩, t⟩ => ⟨⟨by simpa using h1, fun o => (World.frozen?_setCell ..).trans (h2 o), HasAt.far (hl p (List.mem_cons_self ..)) h3⟩, Has.far (fun q hq => hl q (List.mem_cons_of_mem _ hq)) t⟩
/-- A store into a box of one cell. -/
theorem St.set1 {w W : World} {b : Nat} {u : Value} {l : List (Nat × List Value)} (h : St w W ((b, [u]) :: l)) (v : Value) (hb : w.heap.size ≤ b) (hl : ∀ p ∈ l, b ≠ p.1) : St w (W.setCell ⟨b, 0, none⟩ v) ((b, [v]) :: l) := by
  obtain ⟨h1, ⟨h2, h3, h4, _⟩, h5⟩ := h
  exact ⟨h1.setCell (p := ⟨b, 0, none⟩) hb _, ⟨⟨by simpa using h2, fun o => (World.frozen?_setCell ..).trans (h3 o), World.cell?_setCell_same' _ _ _ (by rw [h4]; rfl), trivial⟩, Has.far hl h5⟩⟩
set_option maxHeartbeats 400000 in
theorem place_any (l x y : Int) (w : World) :
    Calls Tryz.prog 172 #[.agg #[.int .i64 l, .int .i64 x, .int .i64 y]] w fun e w' => e = .returned (.int .i64 (plI x y)) ∧ Below w.heap.size w w' := by
  have h1 := i64_and1 x
  have h2 := i64_and1 y
  have h3 : wrap64 (2 * (y % 2)) = 2 * (y % 2) := w64 (by omega) (by omega)
  have h4 : wrap64 (2 * (y % 2) + x % 2) = 2 * (y % 2) + x % 2 := w64 (by omega) (by omega)
  go_enter Tryz.func172, Tryz.ntmps172
  go_wp2
  go_ret
  exact ⟨ret_i64 rfl, below_alloc1 _ _⟩
theorem St.add {w W : World} {v : Nat} {vs : List Value} {t : TypeId} {l : List (Nat × List Value)} (h : St w W l) (hv : W.heap[v]? = some (.cells vs.toArray t)) : St w W ((v, vs) :: l) :=
  ⟨h.bel, ⟨(Array.getElem?_eq_some_iff.1 hv).1, fun o => by simp [World.frozen?, hv], hasAt_of _ _ (fun j u hj => by simp [World.cell?, hv]; simpa using hj)⟩, h.has⟩
theorem iCellAt8 {s t : Int} (h : spB s t = true) (w : World) :
    Calls Tryz.prog 51 #[.agg #[.int .i64 s, .int .i64 t], .int .i64 8] w fun e w' => e = .returned (.agg #[.int .i64 8, .int .i64 s, .int .i64 t]) ∧ Below w.heap.size w w' := by
  have hl : levB 8 = true := by decide
  have := iCellAt_any s t 8 w
  simp only [aL, aX, aY, h, hl, Bool.and_self, if_true] at this
  simpa using this
set_option maxRecDepth 100000 in
set_option maxHeartbeats 2000000 in
theorem iOrder_any (s t : Int) (w : World) :
    Calls Tryz.prog 157 #[.agg #[.int .i64 s, .int .i64 t]] w fun e w' => e = .returned (.int .i64 (ordI s t)) ∧ Below w.heap.size w w' := by
  have hs := St.nil w
  cases h : spB s t
  · have e0 : ordI s t = -1 := by simp [ordI, h]
    rw [e0]
    go_enter Tryz.func157, Tryz.ntmps157
    go_wp2_with (go_at_call 49; refine (spRight_v h _).mono ?_; rintro e w1 ⟨rfl, hb2⟩; (first | replace hs := hs.step hb2 | replace hs := (hs.push _ _).step hb2 | replace hs := ((hs.push _ _).push _ _).step hb2 | replace hs := (((hs.push _ _).push _ _).push _ _).step hb2); (try simp only [World.size_alloc] at hs); (try clear hk); have hk := hs.has; simp [Has, HasAt] at hk)
    go_ret
    exact ⟨rfl, hs.bel⟩
  · obtain ⟨ha, hb, hc, hd⟩ := spB_t.mp h
    refine (callsIn_wide (n := 3)).1 ?_
    refine callsIn_of_wp_marks Tryz.func157 rfl trivial ?_ rfl
    simp only [Tryz.ntmps157, List.size_toArray, List.length_cons, List.length_nil, Nat.reduceAdd, Nat.reduceSub, Array.replicate_succ, Array.replicate_zero, List.push_toArray, List.append_toArray, List.nil_append, List.cons_append]
    gi_wp2_with (first | (refine ⟨trivial, ?_⟩; gi_at_call 49; refine (callsIn_wide.2 (spRight_v h _)).mono ?_; rintro e w1 ⟨rfl, hb2⟩; (first | replace hs := hs.step hb2 | replace hs := (hs.push _ _).step hb2 | replace hs := ((hs.push _ _).push _ _).step hb2 | replace hs := (((hs.push _ _).push _ _).push _ _).step hb2); (try simp only [World.size_alloc] at hs); (try clear hk); have hk := hs.has; simp [Has, HasAt] at hk) | (refine ⟨trivial, ?_⟩; gi_at_call 51; refine (callsIn_wide.2 (iCellAt8 h _)).mono ?_; rintro e w1 ⟨rfl, hb2⟩; (first | replace hs := hs.step hb2 | replace hs := (hs.push _ _).step hb2 | replace hs := ((hs.push _ _).push _ _).step hb2 | replace hs := (((hs.push _ _).push _ _).push _ _).step hb2); (try simp only [World.size_alloc] at hs); (try clear hk); have hk := hs.has; simp [Has, HasAt] at hk) | (refine ⟨trivial, ?_⟩; gi_at_call 119; refine (callsIn_wide.2 (upward_any _ _ _ _)).mono ?_; rintro e w2 ⟨rfl, rfl⟩))
    rename_i w0 _ _ _
    have hs0 := (hs.push [.int .i64 8, .int .i64 s, .int .i64 t] 89).sub (l' := [(w1.heap.size, [.int .i64 8, .int .i64 s, .int .i64 t]), (w0.heap.size, [.int .i64 0]), (w0.heap.size + 1, [.int .i64 1])]) (by simp)
    have hw0 : w.heap.size ≤ w0.heap.size := by have := Below.size ‹Below _ _ w0›; simp at this; omega
    clear hk hs hb2
    generalize w0.heap.size = b3 at hs0 hw0 ⊢
    generalize w1.heap.size = bx at hs0 ⊢
    generalize w1.alloc _ = W0 at hs0 ⊢
    have hk0 := hs0.has
    simp [Has, HasAt] at hk0
    have hz0 := hs0.size
    have lt3 : b3 < W0.heap.size := hk0.2.1.1
    have lt4 : b3 + 1 < W0.heap.size := hk0.2.2.1
    refine range_up (gf := 132) (lb := #[.pointer (some ⟨bx, 0, none⟩)]) rfl (enters_of Tryz.func132 (by kernel_rfl) rfl) (cs := cellsU 8 s t) (t := 89) (up_seq (cell8_ok h) bx W0 hk0.1.1 hk0.1.2.2.1 hk0.1.2.2.2.1 hk0.1.2.2.2.2)
      (fun k W => St w W [(b3, [.int .i64 (zz s t k)]), (b3 + 1, [.int .i64 (4 ^ k)])])
      (fun _ _ => False)
      (fun k X Y hq hb => hq.stab hb hz0 (by simp; omega))
      (fun k X Y hq hb => hq)
      (hs0.sub (by simp [zz]))
      (fun k v => { defers := [], tmps := #[Value.agg #[Value.int IntKind.i64 s, Value.int IntKind.i64 t],
          Value.pointer (some { block := w.heap.size, off := 0 }), Value.int IntKind.i64 0,
          Value.pointer (some { block := b3, off := 0 }),
          Value.pointer (some { block := b3 + 1, off := 0 }), Value.pointer (some { block := v, off := 0 }),
          Value.agg #[Value.int IntKind.i64 s, Value.int IntKind.i64 t], Value.bool true, Value.bool false,
          Value.agg #[Value.int IntKind.i64 s, Value.int IntKind.i64 t],
          Value.agg #[Value.int IntKind.i64 8, Value.int IntKind.i64 s, Value.int IntKind.i64 t],
          Value.func (Fn.func 132) #[] #[Value.pointer (some { block := bx, off := 0 })], encU 8 s t k, undef, undef,
          undef, undef, undef, undef, undef, undef, undef] }) ?assign ?body ?done ?stop
    case assign =>
      intro l1 k W K hK
      simp only [encU, cellsU] at hK ⊢
      gi_wp2
      exact hK
    case body =>
      rintro l1 k v W hkN hst hv1 hv2 hv3 hz1
      have hkN' : k ≤ 8 := by simp at hkN; omega
      have hst1 := hst.add (vs := [.int .i64 (8 - k), .int .i64 (half s k), .int .i64 (half t k)]) hv3
      have hk1 := hst1.has
      simp [Has, HasAt] at hk1
      obtain ⟨z1, z2⟩ := zz_bd s t k
      have z3 := pow4_le (k := k) (by omega)
      have z4 := pow4 k
      have hp : 0 ≤ plI (half s k) (half t k) ∧ plI (half s k) (half t k) ≤ 3 := by unfold plI; omega
      obtain ⟨z5, z6⟩ := zz_bd s t (k + 1)
      have z7 := pow4_le (k := k + 1) (by omega)
      have e1 : zz s t (k + 1) = zz s t k + 4 ^ k * plI (half s k) (half t k) := rfl
      have r1 : wrap64 (4 ^ k * plI (half s k) (half t k)) = 4 ^ k * plI (half s k) (half t k) := w64 (by have := Int.mul_nonneg (a := 4 ^ k) (b := plI (half s k) (half t k)) (by omega) hp.1; omega) (by omega)
      have r2 : wrap64 (zz s t k + 4 ^ k * plI (half s k) (half t k)) = zz s t (k + 1) := by rw [← e1]; exact w64 (by omega) (by omega)
      have r3 : wrap64 (4 ^ k * 4) = 4 ^ (k + 1) := by rw [Int.pow_succ]; exact w64 (by omega) (by omega)
      clear e1 z1 z2 z3 z4 z5 z6 z7 hp
      have hmo : Tryz.prog.follows .mixedOrders = true := by kernel_rfl
      gi_wp2
      gi_region_with_o (refine ⟨trivial, ?_⟩; gi_at_call 172; refine (CallsIn.inRound l1 (callsIn_wide.2 (place_any _ _ _ _))).mono ?_; rintro e w5 ⟨rfl, hb5⟩; (first | replace hst1 := hst1.step hb5 | replace hst1 := hst1.dr.step hb5); clear hk1; have hk1 := hst1.has; simp [Has, HasAt] at hk1)
      all_goals gi_wp2
      all_goals
        have h4 := (((hst1.sub (l' := [(b3, [.int .i64 (zz s t k)]), (b3 + 1, [.int .i64 (4 ^ k)])]) (by simp)).set1 (.int .i64 (zz s t (k + 1))) hw0 (by simp)).sub (l' := [(b3 + 1, [.int .i64 (4 ^ k)]), (b3, [.int .i64 (zz s t (k + 1))])]) (by simp)).set1 (.int .i64 (4 ^ (k + 1))) (by omega) (by simp)
        have h5 : KeepF W0.heap.size W w5 := ⟨hb5.size, fun i _ hi => hb5.block i hi⟩
        exact ⟨(h5.trans (KeepF.setCell _ 0 _ lt3)).trans (KeepF.setCell _ 0 _ lt4), h4.sub (by simp)⟩
    case done =>
      rintro W hst hD
      have hk1 := hst.has
      simp [Has, HasAt] at hk1
      gi_wp2
      refine ⟨by simp, .inl ⟨_, _, rfl, run_takeDeferred hD, ?_⟩⟩
      refine ⟨_, results_tmp rfl _ _ _, ?_, hst.bel.trans (below_putObj _ _ hz0)⟩
      refine ret_i64 ?_
      rw [zz9 h]; simp [ordI, h]
    case stop =>
      rintro k W hkN hst hD
      exact hst.elim
end Go.Proofs.YtbkiogedipmioaaGreat.V.M.D
