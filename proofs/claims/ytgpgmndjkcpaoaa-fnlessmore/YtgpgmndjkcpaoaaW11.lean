/-
  Contracts of the drawing functions: two rects. What is drawn is not told.
-/
import Derived.Test.YtgpgmndjkcpaoaaW10
namespace Go.Proofs.Ytgpgmndjkcpaoaa
open Go.RowKit Go.Joins
attribute [local go_sem ↓] Go.wp_at_zero Go.wp_at_succ

set_option maxHeartbeats 2000000 in
theorem drawMeet_any (a : Option Addr) (len cap : Nat) (zs : List Int) (g : Nat) (w : World) (hl : len ≤ 4096) (hr : Rd w g a len zs) :
    Calls Try.prog 24 #[.slice a len cap] w fun e w' => ∃ x1 y1 c1 d1 x2 y2 c2 d2 : Int, e = .returned (.tuple #[.agg #[.int .i64 x1, .int .i64 y1, .int .i64 c1, .int .i64 d1], .agg #[.int .i64 x2, .int .i64 y2, .int .i64 c2, .int .i64 d2]]) ∧ Below w.heap.size w w' := by
  have HR : Hid (Rd ((w.alloc (.cells #[.int .i64 0, .int .i64 0, .int .i64 0, .int .i64 0] 35)).alloc (.cells #[.int .i64 0, .int .i64 0, .int .i64 0, .int .i64 0] 35)) ((w.alloc (.cells #[.int .i64 0, .int .i64 0, .int .i64 0, .int .i64 0] 35)).alloc (.cells #[.int .i64 0, .int .i64 0, .int .i64 0, .int .i64 0] 35)).heap.size a len zs) := hr.up (below_alloc2 _ _ _) (by simp; omega)
  clear hr
  have HF : Hid (∀ h : Int, Cur (((w.alloc (.cells #[.int .i64 0, .int .i64 0, .int .i64 0, .int .i64 0] 35)).alloc (.cells #[.int .i64 0, .int .i64 0, .int .i64 0, .int .i64 0] 35)).alloc (.cells #[.slice a len cap, .int .i64 0, .int .i64 h] 74)) (w.heap.size + 1 + 1) a len cap zs) := fun h => by simpa using Cur.fresh (h := h) (cap := cap) hl HR.out
  have tok1 : True := trivial
  go_enter Try.func24, Try.ntmps24
  go_wp2_with (first | (go_at_call 41; refine (new_any a len cap zs _ hl HR.out).mono ?_; rintro e w0 ⟨h, rfl, rfl⟩) | (go_at_call 52; have _t := tok1; clear _t tok1; refine (draw_any (w.heap.size + 1 + 1) a len cap zs _ (HF.out _)).mono ?_; rintro e w1 ⟨x1, y1, c1, d1, rfl, hT, hcur'⟩; have hgn := Nat.ne_of_gt hcur'.hg; have hz := hT.size; (try simp at hz)))
  go_region_with ((go_at_call 52; refine (draw_any (w.heap.size + 1 + 1) a len cap zs _ (hcur'.alloc _).drew).mono ?_; rintro e w2 ⟨x2, y2, c2, d2, rfl, hT2, hcur2⟩; have hcS := fun b o h1 h2 => hT2.cell (b := b) (o := o) h1 h2; replace hT := (hT.alloc _).drew.trans hT2; have hc := fun b o h1 h2 => hT.cell (b := b) (o := o) h1 h2; have hf := fun b o h1 h2 => hT.frozen (b := b) (o := o) h1 h2; have z00 : w2.cell? ⟨w.heap.size, 0, none⟩ = some (.int .i64 0) := (by rw [hT.cell (by simp <;> omega) (by omega)]; simp [go_sem]); have z01 : w2.cell? ⟨w.heap.size, 1, none⟩ = some (.int .i64 0) := (by rw [hT.cell (by simp <;> omega) (by omega)]; simp [go_sem]); have z02 : w2.cell? ⟨w.heap.size, 2, none⟩ = some (.int .i64 0) := (by rw [hT.cell (by simp <;> omega) (by omega)]; simp [go_sem]); have z03 : w2.cell? ⟨w.heap.size, 3, none⟩ = some (.int .i64 0) := (by rw [hT.cell (by simp <;> omega) (by omega)]; simp [go_sem]); have z10 : w2.cell? ⟨w.heap.size + 1, 0, none⟩ = some (.int .i64 0) := (by rw [hT.cell (by simp <;> omega) (by omega)]; simp [go_sem]); have z11 : w2.cell? ⟨w.heap.size + 1, 1, none⟩ = some (.int .i64 0) := (by rw [hT.cell (by simp <;> omega) (by omega)]; simp [go_sem]); have z12 : w2.cell? ⟨w.heap.size + 1, 2, none⟩ = some (.int .i64 0) := (by rw [hT.cell (by simp <;> omega) (by omega)]; simp [go_sem]); have z13 : w2.cell? ⟨w.heap.size + 1, 3, none⟩ = some (.int .i64 0) := (by rw [hT.cell (by simp <;> omega) (by omega)]; simp [go_sem]); have zf0 : ∀ o, w2.frozen? ⟨w.heap.size, o, none⟩ = false := fun o => (by rw [hT.frozen (by simp <;> omega) (by omega)]; simp [go_sem]); have zf1 : ∀ o, w2.frozen? ⟨w.heap.size + 1, o, none⟩ = false := fun o => (by rw [hT.frozen (by simp <;> omega) (by omega)]; simp [go_sem])))
  all_goals
    go_wp2
    have hB := (below_alloc3 _ _ _ _).trans (hT.below (B := w.heap.size) (by omega) (by simp <;> omega))
    refine bodyPost_ret (v := .tuple #[.agg #[.int .i64 x1, .int .i64 y1, .int .i64 c1, .int .i64 d1], .agg #[.int .i64 x2, .int .i64 y2, .int .i64 c2, .int .i64 d2]]) (by simp [results, Try.results24, go_sem, z00, z01, z02, z03, z10, z11, z12, z13]) rfl ⟨_, _, _, _, _, _, _, _, rfl, ?_⟩
    exact sc4 (sc4 hB (Nat.le_refl _)) (by omega)
end Go.Proofs.Ytgpgmndjkcpaoaa
