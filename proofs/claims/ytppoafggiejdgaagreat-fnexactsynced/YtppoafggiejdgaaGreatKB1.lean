/-
  Records: their kind, the looks whether one is right, the program's and the spec's, and which comes first.
-/
import Derived.Test.YtppoafggiejdgaaGreatKSA
import Derived.Test.YtppoafggiejdgaaGreatKRX
import Derived.Deep.RegionHeld3
import Derived.Lib.Hide
namespace Go.Proofs.YtppoafggiejdgaaGreat.K
open Go.RowKit Go.Joins
attribute [local go_sem] Oper.semAt_some

def kR : Kd Rc := ⟨70, 5, fun r => [.int .i64 r.t, .int .i64 r.i, .int .i64 r.x, .int .i64 r.y, .string r.s], fun _ => rfl⟩
def kL : Kd Rc := ⟨54, 5, fun r => [.int .i64 r.t, .int .i64 r.i, .int .i64 r.x, .int .i64 r.y, .string r.s], fun _ => rfl⟩
theorem info70 : (Tryz.prog.info? 70).map (fun i => (i.zero, i.size, i.bytes)) = some (some (.agg #[.int .i64 0, .int .i64 0, .int .i64 0, .int .i64 0, .string ByteArray.empty]), 5, 48) := by kernel_rfl
/-- A Record as a value. -/
abbrev Rc.v (r : Rc) : Value := .agg #[.int .i64 r.t, .int .i64 r.i, .int .i64 r.x, .int .i64 r.y, .string r.s]
theorem CsG.r5 {w : World} {g off : Nat} {L : List Rc} (h : CsG kR w g off L) {k : Nat} {r : Rc} (hk : L[k]? = some r) : w.cell? ⟨g, off + k * 5, none⟩ = some (.int .i64 r.t) ∧ w.cell? ⟨g, off + k * 5 + 1, none⟩ = some (.int .i64 r.i) ∧ w.cell? ⟨g, off + k * 5 + 2, none⟩ = some (.int .i64 r.x) ∧ w.cell? ⟨g, off + k * 5 + 3, none⟩ = some (.int .i64 r.y) ∧ w.cell? ⟨g, off + k * 5 + 4, none⟩ = some (.string r.s) :=
  ⟨h.at hk (i := 0) rfl, h.at hk (i := 1) rfl, h.at hk (i := 2) rfl, h.at hk (i := 3) rfl, h.at hk (i := 4) rfl⟩
theorem CsG.l5 {w : World} {g off : Nat} {L : List Rc} (h : CsG kL w g off L) {k : Nat} {r : Rc} (hk : L[k]? = some r) : w.cell? ⟨g, off + k * 5, none⟩ = some (.int .i64 r.t) ∧ w.cell? ⟨g, off + k * 5 + 1, none⟩ = some (.int .i64 r.i) ∧ w.cell? ⟨g, off + k * 5 + 2, none⟩ = some (.int .i64 r.x) ∧ w.cell? ⟨g, off + k * 5 + 3, none⟩ = some (.int .i64 r.y) ∧ w.cell? ⟨g, off + k * 5 + 4, none⟩ = some (.string r.s) :=
  ⟨h.at hk (i := 0) rfl, h.at hk (i := 1) rfl, h.at hk (i := 2) rfl, h.at hk (i := 3) rfl, h.at hk (i := 4) rfl⟩
theorem getR {L : List Rc} {k : Nat} (hk : k < L.length) : L[k]? = some (L.getD k zrc) := by simp [List.getD, hk]
theorem all_take {α : Type} {L : List α} {f : α → Bool} {k : Nat} (hk : k < L.length) : (L.take (k + 1)).all f = ((L.take k).all f && f L[k]) := by
  rw [List.take_succ_eq_append_getElem hk, List.all_append]; simp
theorem all_no {α : Type} {L : List α} {f : α → Bool} {k : Nat} {a : α} (hk : L[k]? = some a) (h : f a = false) : L.all f = false := by
  rw [Bool.eq_false_iff]; intro h2; rw [List.all_eq_true] at h2; have := h2 a (List.mem_of_getElem? hk); rw [h] at this; cases this
theorem bstepA {B : Nat} {W w1 w2 : World} {o : Obj} (h : Below B W w1) (hb : Below (w1.alloc o).heap.size (w1.alloc o) w2) (hB : B ≤ W.heap.size) : Below B W w2 :=
  bstep (h.alloc (Nat.le_trans hB h.size) o) hb hB
theorem ba1 {w w1 : World} {o : Obj} (hb : Below (w.alloc o).heap.size (w.alloc o) w1) : Below w.heap.size w w1 := (below_alloc1 w o).trans (hb.mono (by simp))

theorem isTenant_any (n : Int) (w : World) : Calls Tryz.prog 76 #[.int .i64 n] w fun e w' => e = .returned (.bool (rgB n 1 99)) ∧ w' = w := by
  go_enter Tryz.func76, Tryz.ntmps76
  go_wp2
  all_goals (go_ret; exact ⟨ret_bool (by unfold rgB; first | exact (decide_eq_true (by omega)).symm | exact (decide_eq_false (by omega)).symm | exact decide_eq_decide.mpr (by omega)), rfl⟩)
theorem isId_any (n : Int) (w : World) : Calls Tryz.prog 77 #[.int .i64 n] w fun e w' => e = .returned (.bool (rgB n 1 100000)) ∧ w' = w := by
  go_enter Tryz.func77, Tryz.ntmps77
  go_wp2
  all_goals (go_ret; exact ⟨ret_bool (by unfold rgB; first | exact (decide_eq_true (by omega)).symm | exact (decide_eq_false (by omega)).symm | exact decide_eq_decide.mpr (by omega)), rfl⟩)
theorem l1In_any (n a b : Int) (w : World) : Calls Tryz.prog 33 #[.int .i64 n, .int .i64 a, .int .i64 b] w fun e w' => e = .returned (.bool (rgB n a b)) ∧ w' = w := by
  go_enter Tryz.func33, Tryz.ntmps33
  go_wp2
  all_goals (go_ret; exact ⟨ret_bool (by unfold rgB; first | exact (decide_eq_true (by omega)).symm | exact (decide_eq_false (by omega)).symm | exact decide_eq_decide.mpr (by omega)), rfl⟩)
theorem isTenant_v {n : Int} {v : Bool} (hv : rgB n 1 99 = v) (w : World) : Calls Tryz.prog 76 #[.int .i64 n] w fun e w' => e = .returned (.bool v) ∧ w' = w := hv ▸ isTenant_any n w
theorem isId_v {n : Int} {v : Bool} (hv : rgB n 1 100000 = v) (w : World) : Calls Tryz.prog 77 #[.int .i64 n] w fun e w' => e = .returned (.bool v) ∧ w' = w := hv ▸ isId_any n w
theorem l1In_v {n a b : Int} {v : Bool} (hv : rgB n a b = v) (w : World) : Calls Tryz.prog 33 #[.int .i64 n, .int .i64 a, .int .i64 b] w fun e w' => e = .returned (.bool v) ∧ w' = w := hv ▸ l1In_any n a b w
theorem spotB_eq (x y : Int) : spotB x y = decide (0 ≤ x ∧ x ≤ 255 ∧ 0 ≤ y ∧ y ≤ 255) := by unfold spotB rgB; rw [← Bool.decide_and]; exact decide_eq_decide.mpr (by omega)
theorem isSpot_any (x y : Int) (w : World) : Calls Tryz.prog 78 #[.agg #[.int .i64 x, .int .i64 y]] w fun e w' => e = .returned (.bool (spotB x y)) ∧ Below w.heap.size w w' := by
  go_enter Tryz.func78, Tryz.ntmps78
  go_wp2
  all_goals (go_ret; exact ⟨ret_bool (by rw [spotB_eq]; first | exact (decide_eq_true (by omega)).symm | exact (decide_eq_false (by omega)).symm | exact decide_eq_decide.mpr (by omega)), below_alloc1 _ _⟩)
theorem l1Spot_any (x y : Int) (w : World) : Calls Tryz.prog 55 #[.agg #[.int .i64 x, .int .i64 y]] w fun e w' => e = .returned (.bool (spotB x y)) ∧ Below w.heap.size w w' := by
  cases h1 : rgB x 0 255 <;> cases h2 : rgB y 0 255
  all_goals
    go_enter Tryz.func55, Tryz.ntmps55
    go_wp2_with (go_at_call 33; refine (l1In_v (by assumption) _).mono ?_; rintro e w1 ⟨rfl, rfl⟩)
    go_ret
    exact ⟨ret_bool (by rw [spotB, h1, h2]; rfl), below_alloc1 _ _⟩
theorem isSpot_v {x y : Int} {v : Bool} (hv : spotB x y = v) (w : World) : Calls Tryz.prog 78 #[.agg #[.int .i64 x, .int .i64 y]] w fun e w' => e = .returned (.bool v) ∧ Below w.heap.size w w' := hv ▸ isSpot_any x y w
theorem l1Spot_v {x y : Int} {v : Bool} (hv : spotB x y = v) (w : World) : Calls Tryz.prog 55 #[.agg #[.int .i64 x, .int .i64 y]] w fun e w' => e = .returned (.bool v) ∧ Below w.heap.size w w' := hv ▸ l1Spot_any x y w
theorem szB_i {s : ByteArray} {v : Bool} (h : szB s = v) : decide ((s.size : Int) ≤ 20) = v := by rw [← h]; unfold szB; exact decide_eq_decide.mpr (by omega)
set_option maxHeartbeats 1000000 in
theorem isRec_any (r : Rc) (w : World) : Calls Tryz.prog 59 #[r.v] w fun e w' => e = .returned (.bool (recB r)) ∧ Below w.heap.size w w' := by
  obtain ⟨t, i, x, y, s⟩ := r
  have hst := (St.nil w).push [.int .i64 t, .int .i64 i, .int .i64 x, .int .i64 y, .string s] 70
  cases h1 : rgB t 1 99
  · go_enter Tryz.func59, Tryz.ntmps59
    go_wp2_with (go_at_call 76; refine (isTenant_v h1 _).mono ?_; rintro e w1 ⟨rfl, rfl⟩)
    go_ret
    exact ⟨ret_bool (by rw [recB]; simp only [h1, Bool.false_and]), hst.bel⟩
  cases h2 : rgB i 1 100000
  · go_enter Tryz.func59, Tryz.ntmps59
    go_wp2_with (first | (go_at_call 76; refine (isTenant_v h1 _).mono ?_; rintro e w1 ⟨rfl, rfl⟩) | (go_at_call 77; refine (isId_v h2 _).mono ?_; rintro e w1 ⟨rfl, rfl⟩))
    go_ret
    exact ⟨ret_bool (by rw [recB]; simp only [h1, h2, Bool.false_and, Bool.and_false]), hst.bel⟩
  cases h3 : spotB x y
  · go_enter Tryz.func59, Tryz.ntmps59
    go_wp2_with (first | (go_at_call 76; refine (isTenant_v h1 _).mono ?_; rintro e w1 ⟨rfl, rfl⟩) | (go_at_call 77; refine (isId_v h2 _).mono ?_; rintro e w1 ⟨rfl, rfl⟩) | (go_at_call 78; refine (isSpot_v h3 _).mono ?_; rintro e w1 ⟨rfl, hb1⟩; have hs1 := hst.step hb1))
    go_ret
    exact ⟨ret_bool (by rw [recB]; simp only [h1, h2, h3, Bool.false_and, Bool.and_false]), hs1.bel⟩
  obtain ⟨v, h4⟩ : ∃ v, szB s = v := ⟨_, rfl⟩
  have h5 := szB_i h4
  go_enter Tryz.func59, Tryz.ntmps59
  go_wp2_with (first | (go_at_call 76; refine (isTenant_v h1 _).mono ?_; rintro e w1 ⟨rfl, rfl⟩) | (go_at_call 77; refine (isId_v h2 _).mono ?_; rintro e w1 ⟨rfl, rfl⟩) | (go_at_call 78; refine (isSpot_v h3 _).mono ?_; rintro e w1 ⟨rfl, hb1⟩; have hs1 := hst.step hb1; have hk := hs1.has; simp [Has, HasAt] at hk))
  go_ret
  exact ⟨ret_bool (by rw [recB]; simp only [h1, h2, h3, h4, Bool.true_and]), hs1.bel⟩
set_option maxHeartbeats 1000000 in
theorem sRec_any (r : Rc) (w : World) : Calls Tryz.prog 53 #[r.v] w fun e w' => e = .returned (.bool (recB r)) ∧ Below w.heap.size w w' := by
  obtain ⟨t, i, x, y, s⟩ := r
  have hst := (St.nil w).push [.int .i64 t, .int .i64 i, .int .i64 x, .int .i64 y, .string s] 70
  cases h1 : rgB t 1 99
  · go_enter Tryz.func53, Tryz.ntmps53
    go_wp2_with (go_at_call 33; refine (l1In_v h1 _).mono ?_; rintro e w1 ⟨rfl, rfl⟩)
    go_ret
    exact ⟨ret_bool (by rw [recB]; simp only [h1, Bool.false_and]), hst.bel⟩
  cases h2 : rgB i 1 100000
  · go_enter Tryz.func53, Tryz.ntmps53
    go_wp2_with (first | (go_at_call 33; refine (l1In_v (by assumption) _).mono ?_; rintro e w1 ⟨rfl, rfl⟩))
    go_ret
    exact ⟨ret_bool (by rw [recB]; simp only [h1, h2, Bool.false_and, Bool.and_false]), hst.bel⟩
  cases h3 : spotB x y
  · go_enter Tryz.func53, Tryz.ntmps53
    go_wp2_with (first | (go_at_call 33; refine (l1In_v (by assumption) _).mono ?_; rintro e w1 ⟨rfl, rfl⟩) | (go_at_call 55; refine (l1Spot_v h3 _).mono ?_; rintro e w1 ⟨rfl, hb1⟩; have hs1 := hst.step hb1))
    go_ret
    exact ⟨ret_bool (by rw [recB]; simp only [h1, h2, h3, Bool.false_and, Bool.and_false]), hs1.bel⟩
  obtain ⟨v, h4⟩ : ∃ v, szB s = v := ⟨_, rfl⟩
  have h5 := szB_i h4
  go_enter Tryz.func53, Tryz.ntmps53
  go_wp2_with (first | (go_at_call 33; refine (l1In_v (by assumption) _).mono ?_; rintro e w1 ⟨rfl, rfl⟩) | (go_at_call 55; refine (l1Spot_v h3 _).mono ?_; rintro e w1 ⟨rfl, hb1⟩; have hs1 := hst.step hb1; have hk := hs1.has; simp [Has, HasAt] at hk))
  go_ret
  exact ⟨ret_bool (by rw [recB]; simp only [h1, h2, h3, h4, Bool.true_and]), hs1.bel⟩
theorem isRec_v {r : Rc} {v : Bool} (hv : recB r = v) (w : World) : Calls Tryz.prog 59 #[r.v] w fun e w' => e = .returned (.bool v) ∧ Below w.heap.size w w' := hv ▸ isRec_any r w
theorem sRec_v {r : Rc} {v : Bool} (hv : recB r = v) (w : World) : Calls Tryz.prog 53 #[r.v] w fun e w' => e = .returned (.bool v) ∧ Below w.heap.size w w' := hv ▸ sRec_any r w
theorem sLess_any (a b : Rc) (w : World) : Calls Tryz.prog 54 #[a.v, .int .i64 b.t, .int .i64 b.i] w fun e w' => e = .returned (.bool (lessB a b)) ∧ Below w.heap.size w w' := by
  go_enter Tryz.func54, Tryz.ntmps54
  go_wp2
  all_goals (go_ret; exact ⟨ret_bool (by unfold lessB; first | exact (decide_eq_true (by omega)).symm | exact (decide_eq_false (by omega)).symm | exact decide_eq_decide.mpr (by omega)), below_alloc1 _ _⟩)
theorem sLess_v {a b : Rc} {v : Bool} (hv : lessB a b = v) (w : World) : Calls Tryz.prog 54 #[a.v, .int .i64 b.t, .int .i64 b.i] w fun e w' => e = .returned (.bool v) ∧ Below w.heap.size w w' := hv ▸ sLess_any a b w
theorem isNaN_any (x : Int) (w : World) : Calls Tryz.prog 82 #[.int .i64 x] w fun e w' => e = .returned (.bool false) ∧ w' = w := by
  go_enter Tryz.func82, Tryz.ntmps82
  go_wp2
  go_ret
  exact ⟨rfl, rfl⟩
def cmpZ (a b : Int) : Int := if a < b then -1 else if b < a then 1 else 0
theorem compare_any (a b : Int) (w : World) : Calls Tryz.prog 68 #[.int .i64 a, .int .i64 b] w fun e w' => e = .returned (.int .i64 (cmpZ a b)) ∧ w' = w := by
  unfold cmpZ
  by_cases h1 : a < b
  · go_enter Tryz.func68, Tryz.ntmps68
    go_wp2_with (go_at_call 82; refine (isNaN_any _ _).mono ?_; rintro e w1 ⟨rfl, rfl⟩)
    go_ret
    exact ⟨by first | rfl | simp, rfl⟩
  · by_cases h2 : b < a
    · go_enter Tryz.func68, Tryz.ntmps68
      go_wp2_with (go_at_call 82; refine (isNaN_any _ _).mono ?_; rintro e w1 ⟨rfl, rfl⟩)
      go_ret
      exact ⟨by first | rfl | simp, rfl⟩
    · go_enter Tryz.func68, Tryz.ntmps68
      go_wp2_with (go_at_call 82; refine (isNaN_any _ _).mono ?_; rintro e w1 ⟨rfl, rfl⟩)
      go_ret
      exact ⟨by first | rfl | simp, rfl⟩
theorem cmpZ_pair (a b : Rc) : cmpI a b = if cmpZ a.t b.t = 0 then cmpZ a.i b.i else cmpZ a.t b.t := by
  unfold cmpI cmpZ
  repeat' split
  all_goals omega
set_option maxHeartbeats 1000000 in
theorem or_any (g : Nat) (a b : Int) (w : World) (h0 : w.cell? ⟨g, 0, none⟩ = some (.int .i64 a)) (h1 : w.cell? ⟨g, 1, none⟩ = some (.int .i64 b)) :
    Calls Tryz.prog 79 #[.slice (some ⟨g, 0, none⟩) 2 2] w fun e w' => e = .returned (.int .i64 (if a = 0 then b else a)) ∧ w' = w := by
  by_cases ha : a = 0
  · subst ha
    by_cases hb : b = 0
    · subst hb
      go_enter Tryz.func79, Tryz.ntmps79
      go_wp2
      refine wp_loop_rounds 3 ?_
      rw [rounds_succ]
      go_wp2
      rw [rounds_succ]
      go_wp2
      rw [rounds_succ]
      go_wp2
      go_ret
      exact ⟨rfl, rfl⟩
    · have hb' : (b != 0) = true := by simp [hb]
      go_enter Tryz.func79, Tryz.ntmps79
      go_wp2
      refine wp_loop_rounds 3 ?_
      rw [rounds_succ]
      go_wp2
      rw [rounds_succ]
      go_wp2
      go_ret
      exact ⟨rfl, rfl⟩
  · have ha' : (a != 0) = true := by simp [ha]
    go_enter Tryz.func79, Tryz.ntmps79
    go_wp2
    refine wp_loop_rounds 3 ?_
    rw [rounds_succ]
    go_wp2
    go_ret
    exact ⟨by first | rfl | simp [ha], rfl⟩
end Go.Proofs.YtppoafggiejdgaaGreat.K
