/-
  Contracts of the drawing functions: a rect and a spot; two spots. What is drawn is not told.
-/
import Derived.Test.YtjkandboanecgaaW9
import Derived.Test.YtjkandboanecgaaW10
namespace Go.Proofs.Ytjkandboanecgaa
open Go.RowKit Go.Joins
attribute [local go_sem ↓] Go.wp_at_zero Go.wp_at_succ

set_option maxHeartbeats 2000000 in
theorem drawHolds_any (a : Option Addr) (len cap : Nat) (zs : List Int) (g : Nat) (w : World) (hl : len ≤ 4096) (hr : Rd w g a len zs) :
    Calls Try.prog 42 #[.slice a len cap] w fun e w' => ∃ x1 y1 c1 d1 s2 t2 : Int, e = .returned (.tuple #[.agg #[.int .i64 x1, .int .i64 y1, .int .i64 c1, .int .i64 d1], .agg #[.int .i64 s2, .int .i64 t2]]) ∧ Below w.heap.size w w' := by
  have HR : Hid (Rd ((w.alloc (.cells #[.int .i64 0, .int .i64 0, .int .i64 0, .int .i64 0] 25)).alloc (.cells #[.int .i64 0, .int .i64 0] 32)) ((w.alloc (.cells #[.int .i64 0, .int .i64 0, .int .i64 0, .int .i64 0] 25)).alloc (.cells #[.int .i64 0, .int .i64 0] 32)).heap.size a len zs) := hr.up (below_alloc2 _ _ _) (by simp; omega)
  clear hr
  have HF : Hid (∀ h : Int, Cur (((w.alloc (.cells #[.int .i64 0, .int .i64 0, .int .i64 0, .int .i64 0] 25)).alloc (.cells #[.int .i64 0, .int .i64 0] 32)).alloc (.cells #[.slice a len cap, .int .i64 0, .int .i64 h] 68)) (w.heap.size + 1 + 1) a len cap zs) := fun h => by simpa using Cur.fresh (h := h) (cap := cap) hl HR.out
  have tok1 : True := trivial
  go_enter Try.func42, Try.ntmps42
  go_wp2_with (first | (go_at_call 34; refine (new_any a len cap zs _ hl HR.out).mono ?_; rintro e w0 ⟨h, rfl, rfl⟩) | (go_at_call 35; have _t := tok1; clear _t tok1; refine (draw_any (w.heap.size + 1 + 1) a len cap zs _ (HF.out _)).mono ?_; rintro e w1 ⟨x1, y1, c1, d1, rfl, hT, hcur'⟩; have hgn := Nat.ne_of_gt hcur'.hg; have hz := hT.size; (try simp at hz)))
  go_region_with ((go_at_call 45; refine (drawSpot_any (w.heap.size + 1 + 1) a len cap zs _ (hcur'.alloc _).drew).mono ?_; rintro e w2 ⟨s2, t2, rfl, hT2, hcur2⟩; have hcS := fun b o h1 h2 => hT2.cell (b := b) (o := o) h1 h2; replace hT := (hT.alloc _).drew.trans hT2; have hc := fun b o h1 h2 => hT.cell (b := b) (o := o) h1 h2; have hf := fun b o h1 h2 => hT.frozen (b := b) (o := o) h1 h2; have z00 : w2.cell? ⟨w.heap.size, 0, none⟩ = some (.int .i64 0) := (by rw [hT.cell (by simp <;> omega) (by omega)]; simp [go_sem]); have z01 : w2.cell? ⟨w.heap.size, 1, none⟩ = some (.int .i64 0) := (by rw [hT.cell (by simp <;> omega) (by omega)]; simp [go_sem]); have z02 : w2.cell? ⟨w.heap.size, 2, none⟩ = some (.int .i64 0) := (by rw [hT.cell (by simp <;> omega) (by omega)]; simp [go_sem]); have z03 : w2.cell? ⟨w.heap.size, 3, none⟩ = some (.int .i64 0) := (by rw [hT.cell (by simp <;> omega) (by omega)]; simp [go_sem]); have z10 : w2.cell? ⟨w.heap.size + 1, 0, none⟩ = some (.int .i64 0) := (by rw [hT.cell (by simp <;> omega) (by omega)]; simp [go_sem]); have z11 : w2.cell? ⟨w.heap.size + 1, 1, none⟩ = some (.int .i64 0) := (by rw [hT.cell (by simp <;> omega) (by omega)]; simp [go_sem]); have zf0 : ∀ o, w2.frozen? ⟨w.heap.size, o, none⟩ = false := fun o => (by rw [hT.frozen (by simp <;> omega) (by omega)]; simp [go_sem]); have zf1 : ∀ o, w2.frozen? ⟨w.heap.size + 1, o, none⟩ = false := fun o => (by rw [hT.frozen (by simp <;> omega) (by omega)]; simp [go_sem])))
  all_goals
    go_wp2
    have hB := (below_alloc3 _ _ _ _).trans (hT.below (B := w.heap.size) (by omega) (by simp <;> omega))
    refine bodyPost_ret (v := .tuple #[.agg #[.int .i64 x1, .int .i64 y1, .int .i64 c1, .int .i64 d1], .agg #[.int .i64 s2, .int .i64 t2]]) (by simp [results, Try.results42, go_sem, z00, z01, z02, z03, z10, z11]) rfl ⟨_, _, _, _, _, _, rfl, ?_⟩
    exact sc2 (sc4 hB (Nat.le_refl _)) (by omega)

set_option maxHeartbeats 2000000 in
theorem drawApart_any (a : Option Addr) (len cap : Nat) (zs : List Int) (g : Nat) (w : World) (hl : len ≤ 4096) (hr : Rd w g a len zs) :
    Calls Try.prog 17 #[.slice a len cap] w fun e w' => ∃ s1 t1 s2 t2 : Int, e = .returned (.tuple #[.agg #[.int .i64 s1, .int .i64 t1], .agg #[.int .i64 s2, .int .i64 t2]]) ∧ Below w.heap.size w w' := by
  have HR : Hid (Rd ((w.alloc (.cells #[.int .i64 0, .int .i64 0] 32)).alloc (.cells #[.int .i64 0, .int .i64 0] 32)) ((w.alloc (.cells #[.int .i64 0, .int .i64 0] 32)).alloc (.cells #[.int .i64 0, .int .i64 0] 32)).heap.size a len zs) := hr.up (below_alloc2 _ _ _) (by simp; omega)
  clear hr
  have HF : Hid (∀ h : Int, Cur (((w.alloc (.cells #[.int .i64 0, .int .i64 0] 32)).alloc (.cells #[.int .i64 0, .int .i64 0] 32)).alloc (.cells #[.slice a len cap, .int .i64 0, .int .i64 h] 68)) (w.heap.size + 1 + 1) a len cap zs) := fun h => by simpa using Cur.fresh (h := h) (cap := cap) hl HR.out
  have tok1 : True := trivial
  go_enter Try.func17, Try.ntmps17
  go_wp2_with (first | (go_at_call 34; refine (new_any a len cap zs _ hl HR.out).mono ?_; rintro e w0 ⟨h, rfl, rfl⟩) | (go_at_call 45; have _t := tok1; clear _t tok1; refine (drawSpot_any (w.heap.size + 1 + 1) a len cap zs _ (HF.out _)).mono ?_; rintro e w1 ⟨s1, t1, rfl, hT, hcur'⟩; have hgn := Nat.ne_of_gt hcur'.hg; have hz := hT.size; (try simp at hz)))
  go_region_with ((go_at_call 45; refine (drawSpot_any (w.heap.size + 1 + 1) a len cap zs _ (hcur'.alloc _).drew).mono ?_; rintro e w2 ⟨s2, t2, rfl, hT2, hcur2⟩; have hcS := fun b o h1 h2 => hT2.cell (b := b) (o := o) h1 h2; replace hT := (hT.alloc _).drew.trans hT2; have hc := fun b o h1 h2 => hT.cell (b := b) (o := o) h1 h2; have hf := fun b o h1 h2 => hT.frozen (b := b) (o := o) h1 h2; have z00 : w2.cell? ⟨w.heap.size, 0, none⟩ = some (.int .i64 0) := (by rw [hT.cell (by simp <;> omega) (by omega)]; simp [go_sem]); have z01 : w2.cell? ⟨w.heap.size, 1, none⟩ = some (.int .i64 0) := (by rw [hT.cell (by simp <;> omega) (by omega)]; simp [go_sem]); have z10 : w2.cell? ⟨w.heap.size + 1, 0, none⟩ = some (.int .i64 0) := (by rw [hT.cell (by simp <;> omega) (by omega)]; simp [go_sem]); have z11 : w2.cell? ⟨w.heap.size + 1, 1, none⟩ = some (.int .i64 0) := (by rw [hT.cell (by simp <;> omega) (by omega)]; simp [go_sem]); have zf0 : ∀ o, w2.frozen? ⟨w.heap.size, o, none⟩ = false := fun o => (by rw [hT.frozen (by simp <;> omega) (by omega)]; simp [go_sem]); have zf1 : ∀ o, w2.frozen? ⟨w.heap.size + 1, o, none⟩ = false := fun o => (by rw [hT.frozen (by simp <;> omega) (by omega)]; simp [go_sem])))
  all_goals
    go_wp2
    have hB := (below_alloc3 _ _ _ _).trans (hT.below (B := w.heap.size) (by omega) (by simp <;> omega))
    refine bodyPost_ret (v := .tuple #[.agg #[.int .i64 s1, .int .i64 t1], .agg #[.int .i64 s2, .int .i64 t2]]) (by simp [results, Try.results17, go_sem, z00, z01, z10, z11]) rfl ⟨_, _, _, _, rfl, ?_⟩
    exact sc2 (sc2 hB (Nat.le_refl _)) (by omega)

set_option maxHeartbeats 1000000 in
theorem drawFar_any (a : Option Addr) (len cap : Nat) (zs : List Int) (g : Nat) (w : World) (hl : len ≤ 4096) (hr : Rd w g a len zs) :
    Calls Try.prog 15 #[.slice a len cap] w fun e w' => ∃ x1 y1 c1 d1 s2 t2 : Int, e = .returned (.tuple #[.agg #[.int .i64 x1, .int .i64 y1, .int .i64 c1, .int .i64 d1], .agg #[.int .i64 s2, .int .i64 t2]]) ∧ Below w.heap.size w w' := by
  have HR : Hid (Rd ((w.alloc (.cells #[.int .i64 0, .int .i64 0, .int .i64 0, .int .i64 0] 25)).alloc (.cells #[.int .i64 0, .int .i64 0] 32)) (g + w.heap.size) a len zs) := hr.up (below_alloc2 _ _ _) (by omega)
  clear hr
  go_enter Try.func15, Try.ntmps15
  go_wp2_with (go_at_call 42; refine (drawHolds_any a len cap zs _ _ hl HR.out).mono ?_; rintro e w1 ⟨x1, y1, c1, d1, s2, t2, rfl, hb⟩; obtain ⟨hc, hf⟩ := bcell hb; have z00 : w1.cell? ⟨w.heap.size, 0, none⟩ = some (.int .i64 0) := (by rw [hc _ _ (by simp <;> omega)]; simp [go_sem]); have z01 : w1.cell? ⟨w.heap.size, 1, none⟩ = some (.int .i64 0) := (by rw [hc _ _ (by simp <;> omega)]; simp [go_sem]); have z02 : w1.cell? ⟨w.heap.size, 2, none⟩ = some (.int .i64 0) := (by rw [hc _ _ (by simp <;> omega)]; simp [go_sem]); have z03 : w1.cell? ⟨w.heap.size, 3, none⟩ = some (.int .i64 0) := (by rw [hc _ _ (by simp <;> omega)]; simp [go_sem]); have z10 : w1.cell? ⟨w.heap.size + 1, 0, none⟩ = some (.int .i64 0) := (by rw [hc _ _ (by simp <;> omega)]; simp [go_sem]); have z11 : w1.cell? ⟨w.heap.size + 1, 1, none⟩ = some (.int .i64 0) := (by rw [hc _ _ (by simp <;> omega)]; simp [go_sem]); have zf0 : ∀ o, w1.frozen? ⟨w.heap.size, o, none⟩ = false := fun o => (by rw [hf _ _ (by simp <;> omega)]; simp [go_sem]); have zf1 : ∀ o, w1.frozen? ⟨w.heap.size + 1, o, none⟩ = false := fun o => (by rw [hf _ _ (by simp <;> omega)]; simp [go_sem]))
  refine bodyPost_ret (v := .tuple #[.agg #[.int .i64 x1, .int .i64 y1, .int .i64 c1, .int .i64 d1], .agg #[.int .i64 s2, .int .i64 t2]]) (by simp [results, Try.results15, go_sem, z00, z01, z02, z03, z10, z11]) rfl ⟨_, _, _, _, _, _, rfl, ?_⟩
  exact sc2 (sc4 (ba2 hb) (Nat.le_refl _)) (by omega)
end Go.Proofs.Ytjkandboanecgaa
