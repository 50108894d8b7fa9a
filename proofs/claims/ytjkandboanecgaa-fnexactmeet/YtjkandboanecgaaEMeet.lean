/-
  The law of Meet, walked: the program's answer is the spec's, for whatever numbers; nothing old in memory turns.
-/
import Derived.Test.YtjkandboanecgaaW6
import Derived.Deep.Cut
namespace Go.Proofs.Ytjkandboanecgaa
open Go.RowKit Go.Joins
attribute [local go_sem ↓] Go.wp_at_zero Go.wp_at_succ

theorem lt_alloc {X w1 : World} {o : Obj} (hb : Below (X.alloc o).heap.size (X.alloc o) w1) : X.heap.size < w1.heap.size := by have := hb.size; simp at this; omega
theorem lt_alloc_drew {X w1 : World} {o : Obj} (hb : Below (X.alloc o).drew.heap.size (X.alloc o).drew w1) : X.heap.size < w1.heap.size := by have := hb.size; simp at this; omega

set_option maxHeartbeats 8000000 in
theorem exactMeet (x1 y1 a1 b1 x2 y2 a2 b2 : Int) (w : World) :
    Calls Try.prog 6 #[.agg #[.int .i64 x1, .int .i64 y1, .int .i64 a1, .int .i64 b1], .agg #[.int .i64 x2, .int .i64 y2, .int .i64 a2, .int .i64 b2]] w fun e w' => e = .returned (.bool true) ∧ Below w.heap.size w w' := by
  have hS : ∀ w', Below ((w.alloc (.cells #[.int .i64 x1, .int .i64 y1, .int .i64 a1, .int .i64 b1] 44)).alloc (.cells #[.int .i64 x2, .int .i64 y2, .int .i64 a2, .int .i64 b2] 44)).heap.size ((w.alloc (.cells #[.int .i64 x1, .int .i64 y1, .int .i64 a1, .int .i64 b1] 44)).alloc (.cells #[.int .i64 x2, .int .i64 y2, .int .i64 a2, .int .i64 b2] 44)) w' → (w'.cell? ⟨w.heap.size, 0, none⟩ = some (.int .i64 x1) ∧ w'.cell? ⟨w.heap.size, 1, none⟩ = some (.int .i64 y1) ∧ w'.cell? ⟨w.heap.size, 2, none⟩ = some (.int .i64 a1) ∧ w'.cell? ⟨w.heap.size, 3, none⟩ = some (.int .i64 b1) ∧ w'.cell? ⟨w.heap.size + 1, 0, none⟩ = some (.int .i64 x2) ∧ w'.cell? ⟨w.heap.size + 1, 1, none⟩ = some (.int .i64 y2) ∧ w'.cell? ⟨w.heap.size + 1, 2, none⟩ = some (.int .i64 a2) ∧ w'.cell? ⟨w.heap.size + 1, 3, none⟩ = some (.int .i64 b2)) := by
    intro w' h
    obtain ⟨hcl, _⟩ := bcell h
    refine ⟨?_, ?_, ?_, ?_, ?_, ?_, ?_, ?_⟩ <;> (rw [hcl _ _ (by simp <;> omega)]; simp [go_sem])
  obtain ⟨v0, v1, v2, v3, m, hav⟩ : ∃ (v0 v1 v2 v3 : Int) (m : Bool), meetV x1 y1 a1 b1 x2 y2 a2 b2 = .tuple #[.agg #[.int .i64 v0, .int .i64 v1, .int .i64 v2, .int .i64 v3], .bool m] := by
    unfold meetV; split <;> exact ⟨_, _, _, _, _, rfl⟩
  go_enter Try.func6, Try.ntmps6
  go_upto_region 1 with fail
  go_cut [5, 6] from 9 (fun s5 s6 wx => ∃ g, s5 = .pointer (some ⟨g, 0, none⟩) ∧ s6 = .bool m ∧ g < wx.heap.size ∧ Below ((w.alloc (.cells #[.int .i64 x1, .int .i64 y1, .int .i64 a1, .int .i64 b1] 44)).alloc (.cells #[.int .i64 x2, .int .i64 y2, .int .i64 a2, .int .i64 b2] 44)).heap.size ((w.alloc (.cells #[.int .i64 x1, .int .i64 y1, .int .i64 a1, .int .i64 b1] 44)).alloc (.cells #[.int .i64 x2, .int .i64 y2, .int .i64 a2, .int .i64 b2] 44)) wx ∧ wx.cell? ⟨g, 0, none⟩ = some (.int .i64 v0) ∧ wx.cell? ⟨g, 1, none⟩ = some (.int .i64 v1) ∧ wx.cell? ⟨g, 2, none⟩ = some (.int .i64 v2) ∧ wx.cell? ⟨g, 3, none⟩ = some (.int .i64 v3))
  case first =>
    go_region_held3 (fun w' => Below ((w.alloc (.cells #[.int .i64 x1, .int .i64 y1, .int .i64 a1, .int .i64 b1] 44)).alloc (.cells #[.int .i64 x2, .int .i64 y2, .int .i64 a2, .int .i64 b2] 44)).heap.size ((w.alloc (.cells #[.int .i64 x1, .int .i64 y1, .int .i64 a1, .int .i64 b1] 44)).alloc (.cells #[.int .i64 x2, .int .i64 y2, .int .i64 a2, .int .i64 b2] 44)) w' ∧ w'.cell? ⟨w.heap.size, 0, none⟩ = some (.int .i64 x1) ∧ w'.cell? ⟨w.heap.size, 1, none⟩ = some (.int .i64 y1) ∧ w'.cell? ⟨w.heap.size, 2, none⟩ = some (.int .i64 a1) ∧ w'.cell? ⟨w.heap.size, 3, none⟩ = some (.int .i64 b1) ∧ w'.cell? ⟨w.heap.size + 1, 0, none⟩ = some (.int .i64 x2) ∧ w'.cell? ⟨w.heap.size + 1, 1, none⟩ = some (.int .i64 y2) ∧ w'.cell? ⟨w.heap.size + 1, 2, none⟩ = some (.int .i64 a2) ∧ w'.cell? ⟨w.heap.size + 1, 3, none⟩ = some (.int .i64 b2)) (first | exact ‹Below _ _ _ ∧ _› | exact keepS hS (bstep (‹Below _ _ _ ∧ _›).1 hb2 (Nat.le_refl _)) | exact keepS hS ((‹Below _ _ _ ∧ _›).1.alloc (‹Below _ _ _ ∧ _›).1.size _) | exact keepS hS (hB.alloc hB.size _) | exact keepS hS (sc4 hB (by first | omega | (simp <;> omega))) | exact keepS hS (Below.refl _ _).drew | fail)
      (first | (go_at_call 31; refine (toRect_any _ _ _ _ _).mono ?_; rintro e w1 ⟨rfl, hb2⟩; obtain ⟨hc, hf⟩ := bcell hb2; have hB := bstep (‹Below _ _ _ ∧ _›).1 hb2 (Nat.le_refl _); have hs := hB.size; (try simp at hs); (first | have hz := Nat.lt_of_lt_of_le hz hb2.size | (have hz := lt_alloc hb2; (try simp at hz)) | (have hz := lt_alloc_drew hb2; (try simp at hz)) | skip)) | (go_at_call 18; refine (sMeet_any _ _ _ _ _ _ _ _ _).mono ?_; rw [hav]; rintro e w1 ⟨rfl, hb2⟩; obtain ⟨hc, hf⟩ := bcell hb2; have hB := bstep (‹Below _ _ _ ∧ _›).1 hb2 (Nat.le_refl _); have hs := hB.size; (try simp at hs); (first | have hz := Nat.lt_of_lt_of_le hz hb2.size | (have hz := lt_alloc hb2; (try simp at hz)) | (have hz := lt_alloc_drew hb2; (try simp at hz)) | skip)))
    all_goals
      obtain ⟨hb, _⟩ := ‹Below _ _ _ ∧ _›
      go_wp2_with fail
      go_meet
      refine ⟨_, rfl, rfl, ?_, hb, ?_, ?_, ?_, ?_⟩
      · first | (simp; done) | (simp; omega)
      all_goals (go_simp; done)
  case rest =>
    obtain ⟨g, rfl, rfl, hg, hb0, e0, e1, e2, e3⟩ := hcut
    have hc0 := hS wc hb0
    clear hS
    have hS : ∀ w', Below wc.heap.size wc w' → (w'.cell? ⟨w.heap.size, 0, none⟩ = some (.int .i64 x1) ∧ w'.cell? ⟨w.heap.size, 1, none⟩ = some (.int .i64 y1) ∧ w'.cell? ⟨w.heap.size, 2, none⟩ = some (.int .i64 a1) ∧ w'.cell? ⟨w.heap.size, 3, none⟩ = some (.int .i64 b1) ∧ w'.cell? ⟨w.heap.size + 1, 0, none⟩ = some (.int .i64 x2) ∧ w'.cell? ⟨w.heap.size + 1, 1, none⟩ = some (.int .i64 y2) ∧ w'.cell? ⟨w.heap.size + 1, 2, none⟩ = some (.int .i64 a2) ∧ w'.cell? ⟨w.heap.size + 1, 3, none⟩ = some (.int .i64 b2) ∧ w'.cell? ⟨g, 0, none⟩ = some (.int .i64 v0) ∧ w'.cell? ⟨g, 1, none⟩ = some (.int .i64 v1) ∧ w'.cell? ⟨g, 2, none⟩ = some (.int .i64 v2) ∧ w'.cell? ⟨g, 3, none⟩ = some (.int .i64 v3)) := by
      intro w' h
      obtain ⟨hcl, _⟩ := bcell h
      obtain ⟨q0, q1, q2, q3, q4, q5, q6, q7⟩ := hc0
      have hz0 := hb0.size
      simp at hz0
      refine ⟨?_, ?_, ?_, ?_, ?_, ?_, ?_, ?_, ?_, ?_, ?_, ?_⟩ <;> (rw [hcl _ _ (by omega)]; assumption)
    go_upto_region 2 with fail
    go_cut [7, 8] from 17 (fun s7 s8 wx => ∃ g2, s7 = .pointer (some ⟨g2, 0, none⟩) ∧ s8 = .bool m ∧ Below wc.heap.size wc wx ∧ wx.cell? ⟨g2, 0, none⟩ = some (.int .i64 v0) ∧ wx.cell? ⟨g2, 1, none⟩ = some (.int .i64 v1) ∧ wx.cell? ⟨g2, 2, none⟩ = some (.int .i64 v2) ∧ wx.cell? ⟨g2, 3, none⟩ = some (.int .i64 v3) ∧ wx.cell? ⟨g, 0, none⟩ = some (.int .i64 v0) ∧ wx.cell? ⟨g, 1, none⟩ = some (.int .i64 v1) ∧ wx.cell? ⟨g, 2, none⟩ = some (.int .i64 v2) ∧ wx.cell? ⟨g, 3, none⟩ = some (.int .i64 v3))
    case first =>
      go_region_held3 (fun w' => Below wc.heap.size wc w' ∧ w'.cell? ⟨w.heap.size, 0, none⟩ = some (.int .i64 x1) ∧ w'.cell? ⟨w.heap.size, 1, none⟩ = some (.int .i64 y1) ∧ w'.cell? ⟨w.heap.size, 2, none⟩ = some (.int .i64 a1) ∧ w'.cell? ⟨w.heap.size, 3, none⟩ = some (.int .i64 b1) ∧ w'.cell? ⟨w.heap.size + 1, 0, none⟩ = some (.int .i64 x2) ∧ w'.cell? ⟨w.heap.size + 1, 1, none⟩ = some (.int .i64 y2) ∧ w'.cell? ⟨w.heap.size + 1, 2, none⟩ = some (.int .i64 a2) ∧ w'.cell? ⟨w.heap.size + 1, 3, none⟩ = some (.int .i64 b2) ∧ w'.cell? ⟨g, 0, none⟩ = some (.int .i64 v0) ∧ w'.cell? ⟨g, 1, none⟩ = some (.int .i64 v1) ∧ w'.cell? ⟨g, 2, none⟩ = some (.int .i64 v2) ∧ w'.cell? ⟨g, 3, none⟩ = some (.int .i64 v3)) (first | exact ‹Below _ _ _ ∧ _› | exact keepS hS (bstep (‹Below _ _ _ ∧ _›).1 hb2 (Nat.le_refl _)) | exact keepS hS ((‹Below _ _ _ ∧ _›).1.alloc (‹Below _ _ _ ∧ _›).1.size _) | exact keepS hS (hB.alloc hB.size _) | exact keepS hS (sc4 hB (by first | omega | (simp <;> omega))) | exact keepS hS (Below.refl _ _).drew | fail)
        (first | (go_at_call 31; refine (toRect_any _ _ _ _ _).mono ?_; rintro e w1 ⟨rfl, hb2⟩; obtain ⟨hc, hf⟩ := bcell hb2; have hB := bstep (‹Below _ _ _ ∧ _›).1 hb2 (Nat.le_refl _); have hs := hB.size; (try simp at hs); (first | have hz := Nat.lt_of_lt_of_le hz hb2.size | (have hz := lt_alloc hb2; (try simp at hz)) | (have hz := lt_alloc_drew hb2; (try simp at hz)) | skip)) | (go_at_call 13; refine (iMeet_any _ _ _ _ _ _ _ _ _).mono ?_; rw [hav]; rintro e w1 ⟨rfl, hb2⟩; obtain ⟨hc, hf⟩ := bcell hb2; have hB := bstep (‹Below _ _ _ ∧ _›).1 hb2 (Nat.le_refl _); have hs := hB.size; (try simp at hs); (first | have hz := Nat.lt_of_lt_of_le hz hb2.size | (have hz := lt_alloc hb2; (try simp at hz)) | (have hz := lt_alloc_drew hb2; (try simp at hz)) | skip)))
      all_goals
        obtain ⟨hb, hcc⟩ := ‹Below _ _ _ ∧ _›
        go_wp2_with fail
        go_meet
        refine ⟨_, rfl, rfl, hb, ?_, ?_, ?_, ?_, hcc.2.2.2.2.2.2.2.2⟩
        all_goals (go_simp; done)
    case rest =>
      obtain ⟨g2, rfl, rfl, hb1, d0, d1, d2, d3, f0, f1, f2, f3⟩ := hcut
      go_wp2_with (go_at_call 33; refine (eqRect_any _ _ _ _ _).mono ?_; rintro e w1 ⟨rfl, hb2⟩)
      go_ret
      exact ⟨rfl, ba2 (bstep (bstep hb0 hb1 (Nat.le_refl _)) hb2 (Nat.le_refl _))⟩
end Go.Proofs.Ytjkandboanecgaa
