/-
  An edge: has it a Spot, does it cross the way to the right of one.
-/
import Derived.Test.YtipdfajojcpolaaPK12
import Derived.Test.YtipdfajojcpolaaW5H
import Derived.Test.YtipdfajojcpolaaFq
import Derived.Test.YtipdfajojcpolaaB2
namespace Go.Proofs.Ytipdfajojcpolaa
open Go.RowKit Go.Joins
attribute [local go_sem ↓] Go.wp_at_zero Go.wp_at_succ

theorem iHolds_v {x1 y1 a1 b1 s2 t2 : Int} {v : Bool} (hv : holdsB x1 y1 a1 b1 s2 t2 = v) (w : World) :
    Calls Try.prog 52 #[.agg #[.int .i64 x1, .int .i64 y1, .int .i64 a1, .int .i64 b1], .agg #[.int .i64 s2, .int .i64 t2]] w fun e w' => e = .returned (.bool v) ∧ Below w.heap.size w w' := by subst hv; exact iHolds_any x1 y1 a1 b1 s2 t2 w
theorem has2 {W : World} {b : Nat} {s : T2} (h : Has W [(b, [.int .i64 s.x, .int .i64 s.y])]) : W.cell? ⟨b, 0, none⟩ = some (.int .i64 s.x) ∧ W.cell? ⟨b, 1, none⟩ = some (.int .i64 s.y) := by simp [Has, HasAt] at h; simp [h]
theorem holds_btw {a b s : T2} (ha : a.ok = true) (hb : b.ok = true) (hs : s.ok = true) : holdsB (min a.x b.x) (min a.y b.y) (max a.x b.x - min a.x b.x + 1) (max a.y b.y - min a.y b.y + 1) s.x s.y = btwB a b s := by
  have ha' := spB_t.mp ha
  have hb' := spB_t.mp hb
  have o : okB (min a.x b.x) (min a.y b.y) (max a.x b.x - min a.x b.x + 1) (max a.y b.y - min a.y b.y + 1) = true := okB_t.mpr (by omega)
  unfold holdsB inR btwB
  rw [o, show spB s.x s.y = true from hs]
  simp only [Bool.true_and]
  exact decide_eq_decide.mpr (by omega)
def onB (a b s : T2) : Bool := decide (crT a b s = 0) && btwB a b s
theorem onB_on {a b s : T2} : onB a b s = true ↔ On a b s := by
  unfold onB On
  rw [Bool.and_eq_true, decide_eq_true_iff, bt_btw, tr_cr]
set_option maxRecDepth 100000 in
set_option maxHeartbeats 2000000 in
theorem has_any {p : Option Addr} {a b s : T2} (ha : a.ok = true) (hb : b.ok = true) (hs : s.ok = true) (w : World) (hE : Eg w p a b) :
    Calls Try.prog 31 #[.slice p 2 2, .agg #[.int .i64 s.x, .int .i64 s.y]] w fun e w' => e = .returned (.bool (onB a b s)) ∧ Below w.heap.size w w' := by
  have hst := ((St.nil w).push [.int .i64 s.x, .int .i64 s.y] 28)
  have hS : ∀ w', St w w' [(w.heap.size, [.int .i64 s.x, .int .i64 s.y])] → w'.cell? ⟨w.heap.size, 0, none⟩ = some (.int .i64 s.x) ∧ w'.cell? ⟨w.heap.size, 1, none⟩ = some (.int .i64 s.y) := fun w' h => has2 h.has
  by_cases hz : crT a b s = 0
  · have hsv : sg (crT a b s) = 0 := sg_z hz
    have hr : Hid (btwB a b s = onB a b s) := by unfold Hid onB; rw [decide_eq_true hz, Bool.true_and]
    go_enter Try.func31, Try.ntmps31
    go_upto_region 1 with fail
    refine wp_region_quiet (C := fun w' => St w w' [(w.heap.size, [.int .i64 s.x, .int .i64 s.y])]) (by kernel_rfl) (by kernel_rfl) (hst.dr) ?_
    refine q_intro (fun A hA => ?_)
    have hf : Fr 15 A [(0, .slice p 2 2), (3, .pointer (some ⟨w.heap.size, 0, none⟩))] := by subst hA; exact ⟨rfl, by simp⟩
    refine q_step hf (d := 5) (v := .slice p 2 2) rfl rfl (by decide) (by simp) (fun w' hw' => ?_) (fun A hA5 hf => ?_)
    · have f0 := hf.get (d := 0) (v := .slice p 2 2) (by simp)
      clear hf
      simp [Oper.quietAt, Oper.quietUpon, go_sem, f0]
    refine q_step hf (d := 6) (v := .agg #[.int .i64 s.x, .int .i64 s.y]) rfl rfl (by decide) (by simp) (fun w' hw' => ?_) (fun A hA6 hf => ?_)
    · have hc := hS _ hw'
      have f3 := hf.get (d := 3) (v := .pointer (some ⟨w.heap.size, 0, none⟩)) (by simp)
      clear hf
      simp [Oper.quietAt, Oper.quietUpon, go_sem, f3, hc]
    refine q_step hf (d := 7) (v := .int .i64 0) rfl rfl (by decide) (by simp) (fun w' hw' => ?_) (fun A hA7 hf => ?_)
    · have f5 := hf.get (d := 5) (v := .slice p 2 2) (by simp)
      have f6 := hf.get (d := 6) (v := .agg #[.int .i64 s.x, .int .i64 s.y]) (by simp)
      clear hf
      simp [Oper.quietAt, Oper.quietUpon, go_sem, f5, f6]
      exact (side_v hsv ha hb hs _ _ (hE.step hw'.bel)).mono (fun e w'' hq => ⟨hq.1, hw'.step hq.2⟩)
    refine q_step hf (d := 8) (v := .bool true) rfl rfl (by decide) (by simp) (fun w' hw' => ?_) (fun A hA8 hf => ?_)
    · have f7 := hf.get (d := 7) (v := .int .i64 0) (by simp)
      clear hf
      simp [Oper.quietAt, Oper.quietUpon, go_sem, f7]
    refine q_step hf (d := 9) (v := .bool true) rfl rfl (by decide) (by simp) (fun w' hw' => ?_) (fun A hA9 hf => ?_)
    · have f8 := hf.get (d := 8) (v := .bool true) (by simp)
      clear hf
      simp [Oper.quietAt, Oper.quietUpon, go_sem, f8]
    refine q_want hf (d := 10) (v := .slice p 2 2) (e := 9) rfl rfl (by simp) rfl (by decide) (by simp) (fun w' hw' => ?_) (fun A hA10 hf => ?_)
    · have f0 := hf.get (d := 0) (v := .slice p 2 2) (by simp)
      clear hf
      simp [Oper.quietAt, Oper.quietUpon, go_sem, f0]
    refine q_want hf (d := 11) (v := .agg #[.int .i64 (min a.x b.x), .int .i64 (min a.y b.y), .int .i64 (max a.x b.x - min a.x b.x + 1), .int .i64 (max a.y b.y - min a.y b.y + 1)]) (e := 9) rfl rfl (by simp) rfl (by decide) (by simp) (fun w' hw' => ?_) (fun A hA11 hf => ?_)
    · have f10 := hf.get (d := 10) (v := .slice p 2 2) (by simp)
      clear hf
      simp [Oper.quietAt, Oper.quietUpon, go_sem, f10]
      exact (box2_any ha hb _ (hE.step hw'.bel)).mono (fun e w'' hq => ⟨hq.1, hw'.step hq.2⟩)
    refine q_want hf (d := 12) (v := .agg #[.int .i64 s.x, .int .i64 s.y]) (e := 9) rfl rfl (by simp) rfl (by decide) (by simp) (fun w' hw' => ?_) (fun A hA12 hf => ?_)
    · have hc := hS _ hw'
      have f3 := hf.get (d := 3) (v := .pointer (some ⟨w.heap.size, 0, none⟩)) (by simp)
      clear hf
      simp [Oper.quietAt, Oper.quietUpon, go_sem, f3, hc]
    refine q_want hf (d := 13) (v := .bool (btwB a b s)) (e := 9) rfl rfl (by simp) rfl (by decide) (by simp) (fun w' hw' => ?_) (fun A hA13 hf => ?_)
    · have f11 := hf.get (d := 11) (v := .agg #[.int .i64 (min a.x b.x), .int .i64 (min a.y b.y), .int .i64 (max a.x b.x - min a.x b.x + 1), .int .i64 (max a.y b.y - min a.y b.y + 1)]) (by simp)
      have f12 := hf.get (d := 12) (v := .agg #[.int .i64 s.x, .int .i64 s.y]) (by simp)
      clear hf
      simp [Oper.quietAt, Oper.quietUpon, go_sem, f11, f12]
      exact (iHolds_v (holds_btw ha hb hs) _).mono (fun e w'' hq => ⟨hq.1, hw'.step hq.2⟩)
    refine q_step hf (d := 14) (v := .bool (btwB a b s)) rfl rfl (by decide) (by simp) (fun w' hw' => ?_) (fun A hA14 hf => ?_)
    · have f9 := hf.get (d := 9) (v := .bool true) (by simp)
      have f13 := hf.get (d := 13) (v := .bool (btwB a b s)) (by simp)
      clear hf
      simp [Oper.quietAt, Oper.quietUpon, go_sem, f9, f13]
    refine q_step hf (d := 4) (v := .bool (btwB a b s)) rfl rfl (by decide) (by simp) (fun w' hw' => ?_) (fun A hA4 hf => ?_)
    · have f14 := hf.get (d := 14) (v := .bool (btwB a b s)) (by simp)
      clear hf
      simp [Oper.quietAt, Oper.quietUpon, go_sem, f14]
    refine wpQuiet_nil (fun w' hw' => ?_)
    clear hf
    subst hA4 hA14 hA13 hA12 hA11 hA10 hA9 hA8 hA7 hA6 hA5 hA
    simp only [Act.put, List.setIfInBounds_toArray, List.set_cons_succ, List.set_cons_zero]
    go_wp2_with fail
    go_ret
    exact ⟨ret_bool hr.out, hw'.bel⟩
  · obtain ⟨sv, hsv⟩ : ∃ sv, sg (crT a b s) = sv := ⟨_, rfl⟩
    have h0 : ¬ sv = 0 := by rw [← hsv, sg_0]; exact hz
    have hr : Hid (false = onB a b s) := by unfold Hid onB; rw [decide_eq_false hz, Bool.false_and]
    go_enter Try.func31, Try.ntmps31
    go_upto_region 1 with fail
    refine wp_region_quiet (C := fun w' => St w w' [(w.heap.size, [.int .i64 s.x, .int .i64 s.y])]) (by kernel_rfl) (by kernel_rfl) (hst.dr) ?_
    refine q_intro (fun A hA => ?_)
    have hf : Fr 15 A [(0, .slice p 2 2), (3, .pointer (some ⟨w.heap.size, 0, none⟩))] := by subst hA; exact ⟨rfl, by simp⟩
    refine q_step hf (d := 5) (v := .slice p 2 2) rfl rfl (by decide) (by simp) (fun w' hw' => ?_) (fun A hA5 hf => ?_)
    · have f0 := hf.get (d := 0) (v := .slice p 2 2) (by simp)
      clear hf
      simp [Oper.quietAt, Oper.quietUpon, go_sem, f0]
    refine q_step hf (d := 6) (v := .agg #[.int .i64 s.x, .int .i64 s.y]) rfl rfl (by decide) (by simp) (fun w' hw' => ?_) (fun A hA6 hf => ?_)
    · have hc := hS _ hw'
      have f3 := hf.get (d := 3) (v := .pointer (some ⟨w.heap.size, 0, none⟩)) (by simp)
      clear hf
      simp [Oper.quietAt, Oper.quietUpon, go_sem, f3, hc]
    refine q_step hf (d := 7) (v := .int .i64 sv) rfl rfl (by decide) (by simp) (fun w' hw' => ?_) (fun A hA7 hf => ?_)
    · have f5 := hf.get (d := 5) (v := .slice p 2 2) (by simp)
      have f6 := hf.get (d := 6) (v := .agg #[.int .i64 s.x, .int .i64 s.y]) (by simp)
      clear hf
      simp [Oper.quietAt, Oper.quietUpon, go_sem, f5, f6]
      exact (side_v hsv ha hb hs _ _ (hE.step hw'.bel)).mono (fun e w'' hq => ⟨hq.1, hw'.step hq.2⟩)
    refine q_step hf (d := 8) (v := .bool false) rfl rfl (by decide) (by simp) (fun w' hw' => ?_) (fun A hA8 hf => ?_)
    · have f7 := hf.get (d := 7) (v := .int .i64 sv) (by simp)
      clear hf
      simp [Oper.quietAt, Oper.quietUpon, go_sem, f7, h0]
    refine q_step hf (d := 9) (v := .bool false) rfl rfl (by decide) (by simp) (fun w' hw' => ?_) (fun A hA9 hf => ?_)
    · have f8 := hf.get (d := 8) (v := .bool false) (by simp)
      clear hf
      simp [Oper.quietAt, Oper.quietUpon, go_sem, f8]
    refine q_skip hf (d := 10) (e := 9) (b := false) rfl rfl (by simp) rfl rfl (by decide) (by simp) (fun A hA10 hf => ?_)
    refine q_skip hf (d := 11) (e := 9) (b := false) rfl rfl (by simp) rfl rfl (by decide) (by simp) (fun A hA11 hf => ?_)
    refine q_skip hf (d := 12) (e := 9) (b := false) rfl rfl (by simp) rfl rfl (by decide) (by simp) (fun A hA12 hf => ?_)
    refine q_skip hf (d := 13) (e := 9) (b := false) rfl rfl (by simp) rfl rfl (by decide) (by simp) (fun A hA13 hf => ?_)
    refine q_step hf (d := 14) (v := .bool false) rfl rfl (by decide) (by simp) (fun w' hw' => ?_) (fun A hA14 hf => ?_)
    · have f9 := hf.get (d := 9) (v := .bool false) (by simp)
      clear hf
      simp [Oper.quietAt, Oper.quietUpon, go_sem, f9]
    refine q_step hf (d := 4) (v := .bool false) rfl rfl (by decide) (by simp) (fun w' hw' => ?_) (fun A hA4 hf => ?_)
    · have f14 := hf.get (d := 14) (v := .bool false) (by simp)
      clear hf
      simp [Oper.quietAt, Oper.quietUpon, go_sem, f14]
    refine wpQuiet_nil (fun w' hw' => ?_)
    clear hf
    subst hA4 hA14 hA13 hA12 hA11 hA10 hA9 hA8 hA7 hA6 hA5 hA
    simp only [Act.put, List.setIfInBounds_toArray, List.set_cons_succ, List.set_cons_zero]
    go_wp2_with fail
    go_ret
    exact ⟨ret_bool hr.out, hw'.bel⟩
def crB (a b s : T2) : Bool := decide (chi (df a s) (df b s) ≠ 0)
theorem kx_cr (a b s : T2) : kx (df a s) (df b s) = crT a b s := by rw [← tr_cr]; simp only [tr, kx, df]; grind
theorem crB_up {a b s : T2} (h1 : a.y < s.y) (h2 : s.y ≤ b.y) : crB a b s = decide (0 < crT a b s) := by
  unfold crB chi
  rw [kx_cr, ch_up (by simp only [df]; omega) (by simp only [df]; omega)]
  by_cases h : 0 < crT a b s
  · rw [if_pos h]; simp [h]
  · rw [if_neg h]; simp [h]
theorem crB_dn {a b s : T2} (h1 : b.y < s.y) (h2 : s.y ≤ a.y) : crB a b s = decide (crT a b s < 0) := by
  unfold crB chi
  rw [kx_cr, ch_dn (by simp only [df]; omega) (by simp only [df]; omega)]
  by_cases h : crT a b s < 0
  · rw [if_pos h]; simp [h]
  · rw [if_neg h]; simp [h]
theorem crB_no {a b s : T2} (h : (a.y < s.y ∧ b.y < s.y) ∨ (s.y ≤ a.y ∧ s.y ≤ b.y)) : crB a b s = false := by
  unfold crB chi
  rcases h with h | h
  · rw [ch_nn (by simp only [df]; omega) (by simp only [df]; omega)]; rfl
  · rw [ch_pp (by simp only [df]; omega) (by simp only [df]; omega)]; rfl
set_option maxRecDepth 100000 in
set_option maxHeartbeats 2000000 in
theorem crosses_any {p : Option Addr} {a b s : T2} (ha : a.ok = true) (hb : b.ok = true) (hs : s.ok = true) (w : World) (hE : Eg w p a b) :
    Calls Try.prog 32 #[.slice p 2 2, .agg #[.int .i64 s.x, .int .i64 s.y]] w fun e w' => e = .returned (.bool (crB a b s)) ∧ Below w.heap.size w w' := by
  have hst := ((St.nil w).push [.int .i64 s.x, .int .i64 s.y] 28)
  have hE1 := hE.step hst.bel
  obtain ⟨g, off, rfl, hg, c0, c1, c2, c3⟩ := hE1
  obtain ⟨d0, d1⟩ := has2 hst.has
  rcases Int.lt_or_le a.y s.y with h1 | h1 <;> rcases Int.lt_or_le b.y s.y with h2 | h2
  · have b1 : decide (a.y < s.y) = true := decide_eq_true h1
    have b2 : decide (s.y ≤ b.y) = false := decide_eq_false (by omega)
    have b3 : decide (b.y < s.y) = true := decide_eq_true h2
    have b4 : decide (s.y ≤ a.y) = false := decide_eq_false (by omega)
    have hr : Hid (false = crB a b s) := (crB_no (.inl ⟨h1, h2⟩)).symm
    clear h1 h2
    go_enter Try.func32, Try.ntmps32
    go_wp2_with fail
    go_quiet (fail)
    go_wp2_with fail
    go_quiet (fail)
    go_wp2_with fail
    go_ret
    exact ⟨ret_bool hr.out, bdrewN (bdrewN hst.bel _) _⟩
  · have b1 : decide (a.y < s.y) = true := decide_eq_true h1
    have b2 : decide (s.y ≤ b.y) = true := decide_eq_true h2
    have hr : Hid (crB a b s = decide (0 < crT a b s)) := crB_up h1 h2
    clear h1 h2
    rcases Int.lt_trichotomy (crT a b s) 0 with hc | hc | hc
    all_goals
      go_enter Try.func32, Try.ntmps32
      go_wp2_with fail
      go_quiet (fail)
      generalize hWe : World.drewN _ _ = W2
      have hst2 : St w W2 [(w.heap.size, [.int .i64 s.x, .int .i64 s.y])] := by rw [← hWe]; exact (hst.step (bdrewN (Below.refl _ _) _))
      clear hWe c0 c1 c2 c3 d0 d1
      obtain ⟨d0, d1⟩ := has2 hst2.has
      go_wp2_with (go_at_call 38; refine (side_v (by first | exact sg_m hc | exact sg_z hc | exact sg_p hc) ha hb hs _ _ (hE.step hst2.bel)).mono ?_; rintro e w3 ⟨rfl, hb3⟩)
      go_ret
      exact ⟨ret_bool (by rw [hr.out]; first | exact (decide_eq_true (by omega)).symm | exact (decide_eq_false (by omega)).symm), (hst2.step hb3).bel⟩
  · have b1 : decide (a.y < s.y) = false := decide_eq_false (by omega)
    have b3 : decide (b.y < s.y) = true := decide_eq_true h2
    have b4 : decide (s.y ≤ a.y) = true := decide_eq_true h1
    have hr : Hid (crB a b s = decide (crT a b s < 0)) := crB_dn h2 h1
    clear h1 h2
    rcases Int.lt_trichotomy (crT a b s) 0 with hc | hc | hc
    all_goals
      go_enter Try.func32, Try.ntmps32
      go_wp2_with fail
      go_quiet (fail)
      go_wp2_with fail
      go_quiet (fail)
      generalize hWe : World.drewN _ _ = W2
      have hst2 : St w W2 [(w.heap.size, [.int .i64 s.x, .int .i64 s.y])] := by rw [← hWe]; exact ((hst.step (bdrewN (Below.refl _ _) _)).step (bdrewN (Below.refl _ _) _))
      clear hWe c0 c1 c2 c3 d0 d1
      obtain ⟨d0, d1⟩ := has2 hst2.has
      go_wp2_with (go_at_call 38; refine (side_v (by first | exact sg_m hc | exact sg_z hc | exact sg_p hc) ha hb hs _ _ (hE.step hst2.bel)).mono ?_; rintro e w3 ⟨rfl, hb3⟩)
      go_ret
      exact ⟨ret_bool (by rw [hr.out]; first | exact (decide_eq_true (by omega)).symm | exact (decide_eq_false (by omega)).symm), (hst2.step hb3).bel⟩
  · have b1 : decide (a.y < s.y) = false := decide_eq_false (by omega)
    have b3 : decide (b.y < s.y) = false := decide_eq_false (by omega)
    have hr : Hid (false = crB a b s) := (crB_no (.inr ⟨h1, h2⟩)).symm
    clear h1 h2
    go_enter Try.func32, Try.ntmps32
    go_wp2_with fail
    go_quiet (fail)
    go_wp2_with fail
    go_quiet (fail)
    go_wp2_with fail
    go_ret
    exact ⟨ret_bool hr.out, bdrewN (bdrewN hst.bel _) _⟩
end Go.Proofs.Ytipdfajojcpolaa
