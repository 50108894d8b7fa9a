/-
  The law FnBoxes, walked.
-/
import Derived.Test.YtjkandboanecgaaW5H
import Derived.Test.YtjkandboanecgaaW6
import Derived.Test.YtjkandboanecgaaW6A
import Derived.Test.YtjkandboanecgaaB2
import Derived.Deep.CutBlock
namespace Go.Proofs.Ytjkandboanecgaa
open Go.RowKit Go.Joins
attribute [local go_sem ↓] Go.wp_at_zero Go.wp_at_succ

set_option maxRecDepth 100000 in
set_option maxHeartbeats 8000000 in
theorem boxes_small (a : Option Addr) (len cap : Nat) (zs : List Int) (g : Nat) (w : World) (hl : len ≤ 4096) (hr : Rd w g a len zs) :
    Calls Try.prog 3 #[.slice a len cap] w fun e w' => e = .returned (.bool true) ∧ Below w.heap.size w w' := by
  have hl' : decide (4096 < (len : Int)) = false := by simp; omega
  have HR : Hid (∀ wx, Below w.heap.size w wx → Rd wx (g + w.heap.size) a len zs) := fun wx hb => hr.up hb (by omega)
  clear hr
  go_enter Try.func3, Try.ntmps3
  go_upto_region 3 with (go_at_call 11; refine (big_any _ _ _ _).mono ?_; rintro e w1 ⟨rfl, rfl⟩)
  go_cut [3, 4] from 21 (fun s3 s4 wx => ∃ g3 g4 : Nat, ∃ x1 y1 c1 d1 x2 y2 c2 d2 : Int, s3 = .pointer (some ⟨g3, 0, none⟩) ∧ s4 = .pointer (some ⟨g4, 0, none⟩) ∧ St w wx [(g4, [x2, y2, c2, d2]), (g3, [x1, y1, c1, d1])])
  case first =>
    as_aux_lemma =>
      go_wp2_with (go_at_call 12; refine (drawMeet_any a len cap zs (g + w.heap.size) _ hl (HR.out _ (Below.refl _ _))).mono ?_; rintro e w1 ⟨x1, y1, c1, d1, x2, y2, c2, d2, rfl, hb⟩)
      go_meet
      exact ⟨_, _, x1, y1, c1, d1, x2, y2, c2, d2, rfl, rfl, (((St.nil w).step hb).push4 rfl _ _ _ _ _).push4 (by simp) _ _ _ _ _⟩
  case rest =>
  obtain ⟨g3, g4, x1, y1, c1, d1, x2, y2, c2, d2, rfl, rfl, h1⟩ := hcut
  obtain ⟨ea0, ea1, ea2, ea3⟩ := h1.r4 (g := g3) (x := x1) (y := y1) (c := c1) (d := d1) (by simp)
  obtain ⟨eb0, eb1, eb2, eb3⟩ := h1.r4 (g := g4) (x := x2) (y := y2) (c := c2) (d := d2) (by simp)
  go_upto_region 4 with fail
  go_cut [5, 6] from 21 (fun s5 s6 wx => ∃ g5 : Nat, ∃ m0 m1 m2 m3 : Int, ∃ mb : Bool, s5 = .pointer (some ⟨g5, 0, none⟩) ∧ s6 = .bool mb ∧ meetV x1 y1 c1 d1 x2 y2 c2 d2 = .tuple #[.agg #[.int .i64 m0, .int .i64 m1, .int .i64 m2, .int .i64 m3], .bool mb] ∧ St w wx [(g5, [m0, m1, m2, m3]), (g4, [x2, y2, c2, d2]), (g3, [x1, y1, c1, d1])])
  case first =>
    as_aux_lemma =>
      obtain ⟨m0, m1, m2, m3, mb, hmv⟩ : ∃ (m0 m1 m2 m3 : Int) (mb : Bool), meetV x1 y1 c1 d1 x2 y2 c2 d2 = .tuple #[.agg #[.int .i64 m0, .int .i64 m1, .int .i64 m2, .int .i64 m3], .bool mb] := by
        unfold meetV; split <;> exact ⟨_, _, _, _, _, rfl⟩
      have HM : Hid (meetV x1 y1 c1 d1 x2 y2 c2 d2 = .tuple #[.agg #[.int .i64 m0, .int .i64 m1, .int .i64 m2, .int .i64 m3], .bool mb]) := hmv
      clear hmv
      go_wp2_with (go_at_call 13; refine (iMeet_any _ _ _ _ _ _ _ _ _).mono ?_; rw [HM.out]; rintro e w1 ⟨rfl, hb⟩)
      go_meet
      exact ⟨_, m0, m1, m2, m3, mb, rfl, rfl, HM.out, (h1.step hb).push4 rfl _ _ _ _ _⟩
  case rest =>
  clear ea0 ea1 ea2 ea3 eb0 eb1 eb2 eb3 h1
  obtain ⟨g5, m0, m1, m2, m3, mb, rfl, rfl, hmv, h1⟩ := hcut
  have HM : Hid (meetV x1 y1 c1 d1 x2 y2 c2 d2 = .tuple #[.agg #[.int .i64 m0, .int .i64 m1, .int .i64 m2, .int .i64 m3], .bool mb]) := hmv
  clear hmv
  obtain ⟨ea0, ea1, ea2, ea3⟩ := h1.r4 (g := g3) (x := x1) (y := y1) (c := c1) (d := d1) (by simp)
  obtain ⟨eb0, eb1, eb2, eb3⟩ := h1.r4 (g := g4) (x := x2) (y := y2) (c := c2) (d := d2) (by simp)
  go_upto_region 5 with fail
  go_cut [7] from 21 (fun s7 wx => ∃ g7 : Nat, ∃ n0 n1 n2 n3 : Int, s7 = .pointer (some ⟨g7, 0, none⟩) ∧ aroundV x1 y1 c1 d1 x2 y2 c2 d2 = .agg #[.int .i64 n0, .int .i64 n1, .int .i64 n2, .int .i64 n3] ∧ St w wx ((g7, [n0, n1, n2, n3]) :: [(g5, [m0, m1, m2, m3]), (g4, [x2, y2, c2, d2]), (g3, [x1, y1, c1, d1])]))
  case first =>
    as_aux_lemma =>
      obtain ⟨n0, n1, n2, n3, hav⟩ : ∃ n0 n1 n2 n3 : Int, aroundV x1 y1 c1 d1 x2 y2 c2 d2 = .agg #[.int .i64 n0, .int .i64 n1, .int .i64 n2, .int .i64 n3] := by
        unfold aroundV; split <;> exact ⟨_, _, _, _, rfl⟩
      have HA : Hid (aroundV x1 y1 c1 d1 x2 y2 c2 d2 = .agg #[.int .i64 n0, .int .i64 n1, .int .i64 n2, .int .i64 n3]) := hav
      clear hav
      go_wp2_with (go_at_call 14; refine (iAround_any _ _ _ _ _ _ _ _ _).mono ?_; rw [HA.out]; rintro e w1 ⟨rfl, hb⟩)
      go_meet
      exact ⟨_, n0, n1, n2, n3, rfl, HA.out, (h1.step hb).push4 rfl _ _ _ _ _⟩
  case rest =>
  clear ea0 ea1 ea2 ea3 eb0 eb1 eb2 eb3 h1
  obtain ⟨g7, n0, n1, n2, n3, rfl, hav, h1⟩ := hcut
  have HA : Hid (aroundV x1 y1 c1 d1 x2 y2 c2 d2 = .agg #[.int .i64 n0, .int .i64 n1, .int .i64 n2, .int .i64 n3]) := hav
  clear hav
  go_upto_region 6 with fail
  go_cut [8, 9] from 21 (fun s8 s9 wx => ∃ g8 g9 : Nat, ∃ x4 y4 c4 d4 s4 t4 : Int, s8 = .pointer (some ⟨g8, 0, none⟩) ∧ s9 = .pointer (some ⟨g9, 0, none⟩) ∧ St w wx ((g9, [s4, t4]) :: (g8, [x4, y4, c4, d4]) :: (g7, [n0, n1, n2, n3]) :: [(g5, [m0, m1, m2, m3]), (g4, [x2, y2, c2, d2]), (g3, [x1, y1, c1, d1])]))
  case first =>
    as_aux_lemma =>
      go_wp2_with (go_at_call 15; refine (drawFar_any a len cap zs (g + w.heap.size) _ hl (HR.out _ h1.bel)).mono ?_; rintro e w1 ⟨x4, y4, c4, d4, s4, t4, rfl, hb⟩)
      go_meet
      exact ⟨_, _, x4, y4, c4, d4, s4, t4, rfl, rfl, ((h1.step hb).push4 rfl _ _ _ _ _).push2 (by simp) _ _ _⟩
  case rest =>
  clear h1
  obtain ⟨g8, g9, x4, y4, c4, d4, s4, t4, rfl, rfl, h1⟩ := hcut
  obtain ⟨ec0, ec1, ec2, ec3⟩ := h1.r4 (g := g8) (x := x4) (y := y4) (c := c4) (d := d4) (by simp)
  obtain ⟨es0, es1⟩ := h1.r2 (g := g9) (x := s4) (y := t4) (by simp)
  go_upto_region 7 with fail
  go_cut [10] from 21 (fun s10 wx => s10 = .int .i64 (farI x4 y4 c4 d4 s4 t4) ∧ St w wx ((g9, [s4, t4]) :: (g8, [x4, y4, c4, d4]) :: (g7, [n0, n1, n2, n3]) :: [(g5, [m0, m1, m2, m3]), (g4, [x2, y2, c2, d2]), (g3, [x1, y1, c1, d1])]))
  case first =>
    as_aux_lemma =>
      go_wp2_with (go_at_call 16; refine (iFar_any _ _ _ _ _ _ _).mono ?_; rintro e w1 ⟨rfl, hb⟩)
      go_meet
      exact ⟨rfl, h1.step hb⟩
  case rest =>
  clear ec0 ec1 ec2 ec3 es0 es1 h1
  obtain ⟨rfl, h1⟩ := hcut
  go_upto_region 8 with fail
  go_cut [11, 12] from 21 (fun s11 s12 wx => ∃ g11 g12 : Nat, ∃ s5 t5 s6 t6 : Int, s11 = .pointer (some ⟨g11, 0, none⟩) ∧ s12 = .pointer (some ⟨g12, 0, none⟩) ∧ St w wx ((g12, [s6, t6]) :: (g11, [s5, t5]) :: (g9, [s4, t4]) :: (g8, [x4, y4, c4, d4]) :: (g7, [n0, n1, n2, n3]) :: [(g5, [m0, m1, m2, m3]), (g4, [x2, y2, c2, d2]), (g3, [x1, y1, c1, d1])]))
  case first =>
    as_aux_lemma =>
      go_wp2_with (go_at_call 17; refine (drawApart_any a len cap zs (g + w.heap.size) _ hl (HR.out _ h1.bel)).mono ?_; rintro e w1 ⟨s5, t5, s6, t6, rfl, hb⟩)
      go_meet
      exact ⟨_, _, s5, t5, s6, t6, rfl, rfl, ((h1.step hb).push2 rfl _ _ _).push2 (by simp) _ _ _⟩
  case rest =>
  clear h1
  obtain ⟨g11, g12, s5, t5, s6, t6, rfl, rfl, h1⟩ := hcut
  obtain ⟨ea0, ea1, ea2, ea3⟩ := h1.r4 (g := g3) (x := x1) (y := y1) (c := c1) (d := d1) (by simp)
  obtain ⟨eb0, eb1, eb2, eb3⟩ := h1.r4 (g := g4) (x := x2) (y := y2) (c := c2) (d := d2) (by simp)
  go_upto_region 9 with fail
  go_cut [13, 14] from 21 (fun s13 s14 wx => ∃ g13 : Nat, s13 = .pointer (some ⟨g13, 0, none⟩) ∧ s14 = .bool mb ∧ St w wx ((g13, [m0, m1, m2, m3]) :: (g12, [s6, t6]) :: (g11, [s5, t5]) :: (g9, [s4, t4]) :: (g8, [x4, y4, c4, d4]) :: (g7, [n0, n1, n2, n3]) :: [(g5, [m0, m1, m2, m3]), (g4, [x2, y2, c2, d2]), (g3, [x1, y1, c1, d1])]))
  case first =>
    as_aux_lemma =>
      go_wp2_with (go_at_call 18; refine (sMeet_any _ _ _ _ _ _ _ _ _).mono ?_; rw [HM.out]; rintro e w1 ⟨rfl, hb⟩)
      go_meet
      exact ⟨_, rfl, rfl, (h1.step hb).push4 rfl _ _ _ _ _⟩
  case rest =>
  clear ea0 ea1 ea2 ea3 eb0 eb1 eb2 eb3 h1
  obtain ⟨g13, rfl, rfl, h1⟩ := hcut
  go_upto_region 10 with fail
  go_cut [109] from 21 (fun s109 wx => s109 = .bool false ∧ St w wx ((g13, [m0, m1, m2, m3]) :: (g12, [s6, t6]) :: (g11, [s5, t5]) :: (g9, [s4, t4]) :: (g8, [x4, y4, c4, d4]) :: (g7, [n0, n1, n2, n3]) :: (g5, [m0, m1, m2, m3]) :: (g4, [x2, y2, c2, d2]) :: (g3, [x1, y1, c1, d1]) :: []))
  case first =>
    as_aux_lemma =>
      have hS : ∀ w', St w w' ((g13, [m0, m1, m2, m3]) :: (g12, [s6, t6]) :: (g11, [s5, t5]) :: (g9, [s4, t4]) :: (g8, [x4, y4, c4, d4]) :: (g7, [n0, n1, n2, n3]) :: (g5, [m0, m1, m2, m3]) :: (g4, [x2, y2, c2, d2]) :: (g3, [x1, y1, c1, d1]) :: []) → (w'.cell? ⟨g13, 0, none⟩ = some (.int .i64 m0) ∧ w'.cell? ⟨g13, 1, none⟩ = some (.int .i64 m1) ∧ w'.cell? ⟨g13, 2, none⟩ = some (.int .i64 m2) ∧ w'.cell? ⟨g13, 3, none⟩ = some (.int .i64 m3) ∧ w'.cell? ⟨g12, 0, none⟩ = some (.int .i64 s6) ∧ w'.cell? ⟨g12, 1, none⟩ = some (.int .i64 t6) ∧ w'.cell? ⟨g11, 0, none⟩ = some (.int .i64 s5) ∧ w'.cell? ⟨g11, 1, none⟩ = some (.int .i64 t5) ∧ w'.cell? ⟨g9, 0, none⟩ = some (.int .i64 s4) ∧ w'.cell? ⟨g9, 1, none⟩ = some (.int .i64 t4) ∧ w'.cell? ⟨g8, 0, none⟩ = some (.int .i64 x4) ∧ w'.cell? ⟨g8, 1, none⟩ = some (.int .i64 y4) ∧ w'.cell? ⟨g8, 2, none⟩ = some (.int .i64 c4) ∧ w'.cell? ⟨g8, 3, none⟩ = some (.int .i64 d4) ∧ w'.cell? ⟨g7, 0, none⟩ = some (.int .i64 n0) ∧ w'.cell? ⟨g7, 1, none⟩ = some (.int .i64 n1) ∧ w'.cell? ⟨g7, 2, none⟩ = some (.int .i64 n2) ∧ w'.cell? ⟨g7, 3, none⟩ = some (.int .i64 n3) ∧ w'.cell? ⟨g5, 0, none⟩ = some (.int .i64 m0) ∧ w'.cell? ⟨g5, 1, none⟩ = some (.int .i64 m1) ∧ w'.cell? ⟨g5, 2, none⟩ = some (.int .i64 m2) ∧ w'.cell? ⟨g5, 3, none⟩ = some (.int .i64 m3) ∧ w'.cell? ⟨g4, 0, none⟩ = some (.int .i64 x2) ∧ w'.cell? ⟨g4, 1, none⟩ = some (.int .i64 y2) ∧ w'.cell? ⟨g4, 2, none⟩ = some (.int .i64 c2) ∧ w'.cell? ⟨g4, 3, none⟩ = some (.int .i64 d2) ∧ w'.cell? ⟨g3, 0, none⟩ = some (.int .i64 x1) ∧ w'.cell? ⟨g3, 1, none⟩ = some (.int .i64 y1) ∧ w'.cell? ⟨g3, 2, none⟩ = some (.int .i64 c1) ∧ w'.cell? ⟨g3, 3, none⟩ = some (.int .i64 d1)) := by
        intro w' h
        obtain ⟨q0, q1, q2, q3⟩ := h.r4 (g := g13) (x := m0) (y := m1) (c := m2) (d := m3) (by simp)
        obtain ⟨q4, q5⟩ := h.r2 (g := g12) (x := s6) (y := t6) (by simp)
        obtain ⟨q6, q7⟩ := h.r2 (g := g11) (x := s5) (y := t5) (by simp)
        obtain ⟨q8, q9⟩ := h.r2 (g := g9) (x := s4) (y := t4) (by simp)
        obtain ⟨q10, q11, q12, q13⟩ := h.r4 (g := g8) (x := x4) (y := y4) (c := c4) (d := d4) (by simp)
        obtain ⟨q14, q15, q16, q17⟩ := h.r4 (g := g7) (x := n0) (y := n1) (c := n2) (d := n3) (by simp)
        obtain ⟨q18, q19, q20, q21⟩ := h.r4 (g := g5) (x := m0) (y := m1) (c := m2) (d := m3) (by simp)
        obtain ⟨q22, q23, q24, q25⟩ := h.r4 (g := g4) (x := x2) (y := y2) (c := c2) (d := d2) (by simp)
        obtain ⟨q26, q27, q28, q29⟩ := h.r4 (g := g3) (x := x1) (y := y1) (c := c1) (d := d1) (by simp)
        exact ⟨q0, q1, q2, q3, q4, q5, q6, q7, q8, q9, q10, q11, q12, q13, q14, q15, q16, q17, q18, q19, q20, q21, q22, q23, q24, q25, q26, q27, q28, q29⟩
      go_region_held3 (fun w' => St w w' ((g13, [m0, m1, m2, m3]) :: (g12, [s6, t6]) :: (g11, [s5, t5]) :: (g9, [s4, t4]) :: (g8, [x4, y4, c4, d4]) :: (g7, [n0, n1, n2, n3]) :: (g5, [m0, m1, m2, m3]) :: (g4, [x2, y2, c2, d2]) :: (g3, [x1, y1, c1, d1]) :: []) ∧ w'.cell? ⟨g13, 0, none⟩ = some (.int .i64 m0) ∧ w'.cell? ⟨g13, 1, none⟩ = some (.int .i64 m1) ∧ w'.cell? ⟨g13, 2, none⟩ = some (.int .i64 m2) ∧ w'.cell? ⟨g13, 3, none⟩ = some (.int .i64 m3) ∧ w'.cell? ⟨g12, 0, none⟩ = some (.int .i64 s6) ∧ w'.cell? ⟨g12, 1, none⟩ = some (.int .i64 t6) ∧ w'.cell? ⟨g11, 0, none⟩ = some (.int .i64 s5) ∧ w'.cell? ⟨g11, 1, none⟩ = some (.int .i64 t5) ∧ w'.cell? ⟨g9, 0, none⟩ = some (.int .i64 s4) ∧ w'.cell? ⟨g9, 1, none⟩ = some (.int .i64 t4) ∧ w'.cell? ⟨g8, 0, none⟩ = some (.int .i64 x4) ∧ w'.cell? ⟨g8, 1, none⟩ = some (.int .i64 y4) ∧ w'.cell? ⟨g8, 2, none⟩ = some (.int .i64 c4) ∧ w'.cell? ⟨g8, 3, none⟩ = some (.int .i64 d4) ∧ w'.cell? ⟨g7, 0, none⟩ = some (.int .i64 n0) ∧ w'.cell? ⟨g7, 1, none⟩ = some (.int .i64 n1) ∧ w'.cell? ⟨g7, 2, none⟩ = some (.int .i64 n2) ∧ w'.cell? ⟨g7, 3, none⟩ = some (.int .i64 n3) ∧ w'.cell? ⟨g5, 0, none⟩ = some (.int .i64 m0) ∧ w'.cell? ⟨g5, 1, none⟩ = some (.int .i64 m1) ∧ w'.cell? ⟨g5, 2, none⟩ = some (.int .i64 m2) ∧ w'.cell? ⟨g5, 3, none⟩ = some (.int .i64 m3) ∧ w'.cell? ⟨g4, 0, none⟩ = some (.int .i64 x2) ∧ w'.cell? ⟨g4, 1, none⟩ = some (.int .i64 y2) ∧ w'.cell? ⟨g4, 2, none⟩ = some (.int .i64 c2) ∧ w'.cell? ⟨g4, 3, none⟩ = some (.int .i64 d2) ∧ w'.cell? ⟨g3, 0, none⟩ = some (.int .i64 x1) ∧ w'.cell? ⟨g3, 1, none⟩ = some (.int .i64 y1) ∧ w'.cell? ⟨g3, 2, none⟩ = some (.int .i64 c1) ∧ w'.cell? ⟨g3, 3, none⟩ = some (.int .i64 d1)) (first | exact ‹St _ _ _ ∧ _› | exact keepS hS ((‹St _ _ _ ∧ _›).1.step hb2) | exact keepS hS h1.dr | fail)
        (first | (go_at_call 19; refine (sAround_any _ _ _ _ _ _ _ _ _).mono ?_; rw [HA.out]; rintro e w1 ⟨rfl, hb2⟩) | (go_at_call 20; refine (sFar_any _ _ _ _ _ _ _).mono ?_; rintro e w1 ⟨rfl, hb2⟩) | (go_at_call 21; refine (iApart_any _ _ _ _ _).mono ?_; rintro e w1 ⟨rfl, hb2⟩) | (go_at_call 22; refine (sApart_any _ _ _ _ _).mono ?_; rintro e w1 ⟨rfl, hb2⟩) | (go_at_call 23; refine (iHolds_any _ _ _ _ _ _ _).mono ?_; rintro e w1 ⟨rfl, hb2⟩) | (go_at_call 24; refine (sHolds_any _ _ _ _ _ _ _).mono ?_; rintro e w1 ⟨rfl, hb2⟩) | (go_at_call 25; refine (iArea_any _ _ _ _ _).mono ?_; rintro e w1 ⟨rfl, hb2⟩) | (go_at_call 26; refine (sArea_any _ _ _ _ _).mono ?_; rintro e w1 ⟨rfl, hb2⟩) | (go_at_call 27; refine (iOk_any _ _ _ _ _).mono ?_; rintro e w1 ⟨rfl, hb2⟩) | (go_at_call 28; refine (sOk_any _ _ _ _ _).mono ?_; rintro e w1 ⟨rfl, hb2⟩))
      obtain ⟨h2, _⟩ := ‹St _ _ _ ∧ _›
      go_wp2
      go_meet
      exact ⟨rfl, h2⟩
  case rest =>
  clear h1
  obtain ⟨rfl, h1⟩ := hcut
  obtain ⟨ec0, ec1, ec2, ec3⟩ := h1.r4 (g := g8) (x := x4) (y := y4) (c := c4) (d := d4) (by simp)
  obtain ⟨es0, es1⟩ := h1.r2 (g := g9) (x := s4) (y := t4) (by simp)
  go_upto_region 12 with fail
  go_cut [128] from 21 (fun s128 wx => s128 = .bool false ∧ St w wx ((g13, [m0, m1, m2, m3]) :: (g12, [s6, t6]) :: (g11, [s5, t5]) :: (g9, [s4, t4]) :: (g8, [x4, y4, c4, d4]) :: (g7, [n0, n1, n2, n3]) :: (g5, [m0, m1, m2, m3]) :: (g4, [x2, y2, c2, d2]) :: (g3, [x1, y1, c1, d1]) :: []))
  case first =>
    as_aux_lemma =>
      cases hv : (okB x4 y4 c4 d4 && spB s4 t4)
      · obtain ⟨q1, q2⟩ := far_none hv
        have q3 : ¬ (0 : Int) ≤ farI x4 y4 c4 d4 s4 t4 := by omega
        have q4 : farI x4 y4 c4 d4 s4 t4 < 0 := by omega
        clear hv q1
        go_wp2_with (go_at_call 23; refine (iHolds_any _ _ _ _ _ _ _).mono ?_; rintro e w1 ⟨rfl, hb⟩)
        go_meet
        exact ⟨rfl, h1.step hb⟩
      · obtain ⟨q1, q2⟩ := far_some hv
        have q4 : ¬ farI x4 y4 c4 d4 s4 t4 < 0 := by omega
        clear hv
        go_wp2_with (go_at_call 23; refine (iHolds_any _ _ _ _ _ _ _).mono ?_; rintro e w1 ⟨rfl, hb⟩)
        go_meet
        exact ⟨rfl, h1.step hb⟩
  case rest =>
  clear ec0 ec1 ec2 ec3 es0 es1 h1
  obtain ⟨rfl, h1⟩ := hcut
  go_upto_block 0 with fail
  go_cut [] from 15 (fun wx => St w wx ((g13, [m0, m1, m2, m3]) :: (g12, [s6, t6]) :: (g11, [s5, t5]) :: (g9, [s4, t4]) :: (g8, [x4, y4, c4, d4]) :: (g7, [n0, n1, n2, n3]) :: (g5, [m0, m1, m2, m3]) :: (g4, [x2, y2, c2, d2]) :: (g3, [x1, y1, c1, d1]) :: []))
  case first =>
    as_aux_lemma =>
      cases hv : (okB x4 y4 c4 d4 && spB s4 t4)
      · have q1 := (far_none hv).1
        have q3 : ¬ (0 : Int) ≤ farI x4 y4 c4 d4 s4 t4 := by omega
        clear hv q1
        go_wp2
        refine wp_loop_rounds 1 ?_
        rw [rounds_succ]
        go_wp2
        go_meet
        exact h1
      · have q1 := (far_some hv).1
        have HV : Hid ((okB x4 y4 c4 d4 && spB s4 t4) = true) := hv
        have kk := okB_t.mp ((Bool.and_eq_true _ _).mp hv).1
        clear hv
        go_wp2
        go_loopw [15] (fun i wr => ∃ k : Nat, k ≤ 8 ∧ i = .int .i64 k ∧ St w wr ((g13, [m0, m1, m2, m3]) :: (g12, [s6, t6]) :: (g11, [s5, t5]) :: (g9, [s4, t4]) :: (g8, [x4, y4, c4, d4]) :: (g7, [n0, n1, n2, n3]) :: (g5, [m0, m1, m2, m3]) :: (g4, [x2, y2, c2, d2]) :: (g3, [x1, y1, c1, d1]) :: [])) (fun i _ => 8 - (intOf i).toNat)
        case atStart => exact ⟨0, by omega, rfl, h1⟩
        case round =>
          obtain ⟨k, hk, rfl, h2⟩ := hrel
          by_cases hlt : k < 8
          · obtain ⟨ec0, ec1, ec2, ec3⟩ := h2.r4 (g := g8) (x := x4) (y := y4) (c := c4) (d := d4) (by simp)
            obtain ⟨es0, es1⟩ := h2.r2 (g := g9) (x := s4) (y := t4) (by simp)
            have lt8 : g8 < wr.heap.size := (h2.has (g8, [x4, y4, c4, d4]) (by simp)).1
            have lt9 : g9 < wr.heap.size := (h2.has (g9, [s4, t4]) (by simp)).1
            have le8 := Nat.le_of_lt lt8
            have le9 := Nat.le_of_lt lt9
            have hS : ∀ w', St w w' ((g13, [m0, m1, m2, m3]) :: (g12, [s6, t6]) :: (g11, [s5, t5]) :: (g9, [s4, t4]) :: (g8, [x4, y4, c4, d4]) :: (g7, [n0, n1, n2, n3]) :: (g5, [m0, m1, m2, m3]) :: (g4, [x2, y2, c2, d2]) :: (g3, [x1, y1, c1, d1]) :: []) → (w'.cell? ⟨g8, 0, none⟩ = some (.int .i64 x4) ∧ w'.cell? ⟨g8, 1, none⟩ = some (.int .i64 y4) ∧ w'.cell? ⟨g8, 2, none⟩ = some (.int .i64 c4) ∧ w'.cell? ⟨g8, 3, none⟩ = some (.int .i64 d4)) := fun w' h => h.r4 (g := g8) (x := x4) (y := y4) (c := c4) (d := d4) (by simp)
            have hwk := Go.Proofs.Ytjkandboanecgaa.wr (n := 30 + (k : Int)) (by omega) (by omega)
            have tok1 : True := trivial
            go_wp2
            go_region_held3 (fun w' => St w w' ((g13, [m0, m1, m2, m3]) :: (g12, [s6, t6]) :: (g11, [s5, t5]) :: (g9, [s4, t4]) :: (g8, [x4, y4, c4, d4]) :: (g7, [n0, n1, n2, n3]) :: (g5, [m0, m1, m2, m3]) :: (g4, [x2, y2, c2, d2]) :: (g3, [x1, y1, c1, d1]) :: []) ∧ w'.cell? ⟨g8, 0, none⟩ = some (.int .i64 x4) ∧ w'.cell? ⟨g8, 1, none⟩ = some (.int .i64 y4) ∧ w'.cell? ⟨g8, 2, none⟩ = some (.int .i64 c4) ∧ w'.cell? ⟨g8, 3, none⟩ = some (.int .i64 d4)) (first | exact ‹St _ _ _ ∧ _› | exact keepS hS ((‹St _ _ _ ∧ _›).1.al _) | exact keepS hS (h2.al _).dr | exact keepS hS (h2.al _) | exact keepS hS h2.dr | fail)
              (first | (go_at_call 29; have _t := tok1; clear _t tok1; refine (pick_any a len cap zs _ _ (g + w.heap.size) _ hl (HR.out _ (‹St _ _ _ ∧ _›).1.bel) ?_ ?_ ?_).mono ?_; (focus omega); (focus omega); (focus omega); rintro e w1 ⟨p, rfl, hp0, hp1, rfl⟩; have hw1 := Go.Proofs.Ytjkandboanecgaa.wr (n := x4 + p) (by omega) (by omega)) | (go_at_call 29; refine (pick_any a len cap zs _ _ (g + w.heap.size) _ hl (HR.out _ (‹St _ _ _ ∧ _›).1.bel) ?_ ?_ ?_).mono ?_; (focus omega); (focus omega); (focus omega); rintro e w1 ⟨q, rfl, hq0, hq1, rfl⟩; have hw2 := Go.Proofs.Ytjkandboanecgaa.wr (n := y4 + q) (by omega) (by omega)))
            all_goals
              obtain ⟨hl1, hl2⟩ := far_least HV.out hp0 hp1 hq0 hq1
              go_wp2_with (first | (go_at_call 21; refine (iApart_any _ _ _ _ _).mono ?_; rintro e w1 ⟨rfl, hb⟩; obtain ⟨hc, hf⟩ := bcell hb) | (go_at_call 23; refine (iHolds_any _ _ _ _ _ _ _).mono ?_; rintro e w2 ⟨rfl, hb'⟩))
              go_roundw
              case rel => exact ⟨k + 1, by omega, by go_num, ((h2.al _).dr.step hb).step hb'⟩
              case measure => simp [intOf]; omega
          · go_wp2
            go_meet
            exact h2
  case rest =>
  clear h1
  have h1 := hcut
  clear hcut
  rename_i hK
  refine hK _ _ ?_
  exact boxes_tail a len cap zs g w wc hl HR g3 g4 g5 g7 x1 y1 c1 d1 x2 y2 c2 d2 m0 m1 m2 m3 n0 n1 n2 n3 mb HM HA ⟨h1.bel, fun p hp => h1.has p (by simp at hp ⊢; rcases hp with h | h | h | h <;> simp [h])⟩

end Go.Proofs.Ytjkandboanecgaa
