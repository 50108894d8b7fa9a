/-
  Whether a Deal is right: the program's DealOk.
-/
import Derived.Test.YtobbankkfplooaaGreatKP5
import Derived.Test.YtobbankkfplooaaGreatKB5
namespace Go.Proofs.YtobbankkfplooaaGreat.K.G
open Go.Shelf Go.RowKit Go.Joins Y
attribute [local go_sem] Oper.semAt_some

set_option maxRecDepth 100000 in
set_option maxHeartbeats 4000000 in
theorem iDealOk_v {h : Gv} {QL : List YQ} {O V : List Int} {v : Bool} (hv : dealB h.t h.q (yds QL) O V h.s = v) (w : World) (H : RdG w h QL O V) :
    Calls Tryz.prog 17 #[h.v] w fun e w' => e = .returned (.bool v) ∧ Below w.heap.size w w' := by
  unfold dealB at hv
  rw [yds_len, H.yn, H.on, H.un] at hv
  obtain ⟨b1, e1⟩ : ∃ b, partsB h.t h.q (yds QL) h.y.n = b := ⟨_, rfl⟩
  obtain ⟨b2, e2⟩ : ∃ b, shardsB h.y.n h.o.n O = b := ⟨_, rfl⟩
  obtain ⟨b3, e3⟩ : ∃ b, votesB h.y.n h.u.n V = b := ⟨_, rfl⟩
  have k1 : b1 = true → 1 ≤ h.y.n ∧ h.y.n ≤ 4 := fun e => by
    rw [e] at e1; unfold partsB at e1; simp only [Bool.and_eq_true, decide_eq_true_eq] at e1; omega
  have k3 : b3 = true → h.u.n = h.y.n := fun e => by
    rw [e] at e3; unfold votesB at e3; simp only [Bool.and_eq_true, decide_eq_true_eq] at e3; exact e3.1
  rw [e1, e2, e3] at hv
  have HP := Lib.hid (fun W (hb : Below w.heap.size w W) => hasParts_v e1 W (H.y.step hb) H.yn H.ys)
  have HQ := Lib.hid (fun W (hb : Below w.heap.size w W) (h4 : b1 = true) => hasShards_v e2 W (H.o.step hb) H.on (k1 h4).2)
  have HU := Lib.hid (fun W (hb : Below w.heap.size w W) (h4 : b1 = true) => hasVotes_v e3 W (H.u.step hb) H.un (k1 h4).2)
  have HS := Lib.hid (fun W (hb : Below w.heap.size w W) (h4 : b1 = true) (h3 : b3 = true) => standing_any h V W (H.u.step hb) H.un (by rw [k3 h3]; exact (k1 h4).2))
  have HY := Lib.hid (fun W (h4 : b1 = true) => allYes_any h W (k1 h4).1 (k1 h4).2)
  clear e1 e2 e3 k1 k3 H
  obtain ⟨t, q, ⟨yp, yn, yc⟩, ⟨op, on, oc⟩, ⟨up, un, uc⟩, s⟩ := h
  simp only at HP HQ HU HS HY hv
  have HR := Lib.hid (fun W v hv => isRight_v (q := q4 V) (al := q4 (List.replicate yn 1)) (s := s) (v := v) hv W)
  have hst : stB s (vt V) (yesN yn) = stB s (q4 V).l (q4 (List.replicate yn 1)).l := rfl
  rw [hst] at hv
  clear hst
  generalize q4 V = qq at HS HR hv
  generalize q4 (List.replicate yn 1) = al at HY HR hv
  have hlit := (Sg.nil w).lit kG [⟨t, q, ⟨yp, yn, yc⟩, ⟨op, on, oc⟩, ⟨up, un, uc⟩, s⟩] 1 rfl (by decide) #[.int .i64 t, .int .i64 q, .slice yp yn yc, .slice op on oc, .slice up un uc, .int .i64 s] rfl
  change Sg w (w.alloc (.cells #[.int .i64 t, .int .i64 q, .slice yp yn yc, .slice op on oc, .slice up un uc, .int .i64 s] 27)) _ at hlit
  have hS : ∀ W, Sg w W [rG kG (.slice (some ⟨w.heap.size, 0, none⟩) 1 1) [⟨t, q, ⟨yp, yn, yc⟩, ⟨op, on, oc⟩, ⟨up, un, uc⟩, s⟩]] → _ := fun W hb => g6 hb (K := kG) (g := w.heap.size) (n := 1) (q := ⟨t, q, ⟨yp, yn, yc⟩, ⟨op, on, oc⟩, ⟨up, un, uc⟩, s⟩) (by simp) rfl
  simp only at hS
  have HP := Lib.hid (fun W (hw : Sg w W [rG kG (.slice (some ⟨w.heap.size, 0, none⟩) 1 1) [⟨t, q, ⟨yp, yn, yc⟩, ⟨op, on, oc⟩, ⟨up, un, uc⟩, s⟩]]) => HP.out W hw.bel)
  have HQ := Lib.hid (fun W (hw : Sg w W [rG kG (.slice (some ⟨w.heap.size, 0, none⟩) 1 1) [⟨t, q, ⟨yp, yn, yc⟩, ⟨op, on, oc⟩, ⟨up, un, uc⟩, s⟩]]) => HQ.out W hw.bel)
  have HU := Lib.hid (fun W (hw : Sg w W [rG kG (.slice (some ⟨w.heap.size, 0, none⟩) 1 1) [⟨t, q, ⟨yp, yn, yc⟩, ⟨op, on, oc⟩, ⟨up, un, uc⟩, s⟩]]) => HU.out W hw.bel)
  have HS := Lib.hid (fun W (hw : Sg w W [rG kG (.slice (some ⟨w.heap.size, 0, none⟩) 1 1) [⟨t, q, ⟨yp, yn, yc⟩, ⟨op, on, oc⟩, ⟨up, un, uc⟩, s⟩]]) => HS.out W hw.bel)
  have HY := Lib.hid (fun W (hw : Sg w W [rG kG (.slice (some ⟨w.heap.size, 0, none⟩) 1 1) [⟨t, q, ⟨yp, yn, yc⟩, ⟨op, on, oc⟩, ⟨up, un, uc⟩, s⟩]]) => HY.out W)
  cases b1
  · rw [Bool.false_and] at hv
    subst hv
    go_enter Tryz.func17, Tryz.ntmps17
    go_upto_region 1 with (fail)
    refine wp_region_quiet (C := fun w' => Sg w w' [rG kG (.slice (some ⟨w.heap.size, 0, none⟩) 1 1) [⟨t, q, ⟨yp, yn, yc⟩, ⟨op, on, oc⟩, ⟨up, un, uc⟩, s⟩]]) (by kernel_rfl) (by kernel_rfl) (hlit.step (Below.refl _ _).drew) ?_
    refine q_intro (fun A hA => ?_)
    have hf : Fr 20 A [(1, .pointer (some ⟨w.heap.size, 0, none⟩))] := by subst hA; exact ⟨rfl, by simp⟩
    refine q_step hf (d := 3) (v := .agg #[.int .i64 t, .int .i64 q, .slice yp yn yc, .slice op on oc, .slice up un uc, .int .i64 s]) rfl rfl (by decide) (by simp) (fun w' hw' => ?_) (fun A hA3 hf => ?_)
    · have hc := hS _ hw'
      have f1 := hf.get (d := 1) (v := .pointer (some ⟨w.heap.size, 0, none⟩)) (by simp)
      clear hf
      simp [Oper.quietAt, Oper.quietUpon, go_sem, f1, hc]
    refine q_step hf (d := 4) (v := .bool false) rfl rfl (by decide) (by simp) (fun w' hw' => ?_) (fun A hA4 hf => ?_)
    · have f3 := hf.get (d := 3) (v := .agg #[.int .i64 t, .int .i64 q, .slice yp yn yc, .slice op on oc, .slice up un uc, .int .i64 s]) (by simp)
      clear hf
      simp [Oper.quietAt, Oper.quietUpon, go_sem, f3]
      exact (HP.out _ hw').mono fun e w1 h => ⟨h.1, hw'.step h.2⟩
    refine q_step hf (d := 5) (v := .bool false) rfl rfl (by decide) (by simp) (fun w' hw' => ?_) (fun A hA5 hf => ?_)
    · have f4 := hf.get (d := 4) (v := .bool false) (by simp)
      clear hf
      simp [Oper.quietAt, Oper.quietUpon, go_sem, f4]
    refine q_skip hf (d := 6) (e := 5) (b := false) rfl rfl (by simp) rfl rfl (by decide) (by simp) (fun A hA6 hf => ?_)
    refine q_skip hf (d := 7) (e := 5) (b := false) rfl rfl (by simp) rfl rfl (by decide) (by simp) (fun A hA7 hf => ?_)
    refine q_step hf (d := 8) (v := .bool false) rfl rfl (by decide) (by simp) (fun w' hw' => ?_) (fun A hA8 hf => ?_)
    · have f5 := hf.get (d := 5) (v := .bool false) (by simp)
      clear hf
      simp [Oper.quietAt, Oper.quietUpon, go_sem, f5]
    refine q_step hf (d := 9) (v := .bool false) rfl rfl (by decide) (by simp) (fun w' hw' => ?_) (fun A hA9 hf => ?_)
    · have f8 := hf.get (d := 8) (v := .bool false) (by simp)
      clear hf
      simp [Oper.quietAt, Oper.quietUpon, go_sem, f8]
    refine q_skip hf (d := 10) (e := 9) (b := false) rfl rfl (by simp) rfl rfl (by decide) (by simp) (fun A hA10 hf => ?_)
    refine q_skip hf (d := 11) (e := 9) (b := false) rfl rfl (by simp) rfl rfl (by decide) (by simp) (fun A hA11 hf => ?_)
    refine q_step hf (d := 12) (v := .bool false) rfl rfl (by decide) (by simp) (fun w' hw' => ?_) (fun A hA12 hf => ?_)
    · have f9 := hf.get (d := 9) (v := .bool false) (by simp)
      clear hf
      simp [Oper.quietAt, Oper.quietUpon, go_sem, f9]
    refine q_step hf (d := 13) (v := .bool false) rfl rfl (by decide) (by simp) (fun w' hw' => ?_) (fun A hA13 hf => ?_)
    · have f12 := hf.get (d := 12) (v := .bool false) (by simp)
      clear hf
      simp [Oper.quietAt, Oper.quietUpon, go_sem, f12]
    refine q_skip hf (d := 14) (e := 13) (b := false) rfl rfl (by simp) rfl rfl (by decide) (by simp) (fun A hA14 hf => ?_)
    refine q_skip hf (d := 15) (e := 13) (b := false) rfl rfl (by simp) rfl rfl (by decide) (by simp) (fun A hA15 hf => ?_)
    refine q_skip hf (d := 16) (e := 13) (b := false) rfl rfl (by simp) rfl rfl (by decide) (by simp) (fun A hA16 hf => ?_)
    refine q_skip hf (d := 17) (e := 13) (b := false) rfl rfl (by simp) rfl rfl (by decide) (by simp) (fun A hA17 hf => ?_)
    refine q_skip hf (d := 18) (e := 13) (b := false) rfl rfl (by simp) rfl rfl (by decide) (by simp) (fun A hA18 hf => ?_)
    refine q_step hf (d := 19) (v := .bool false) rfl rfl (by decide) (by simp) (fun w' hw' => ?_) (fun A hA19 hf => ?_)
    · have f13 := hf.get (d := 13) (v := .bool false) (by simp)
      clear hf
      simp [Oper.quietAt, Oper.quietUpon, go_sem, f13]
    refine q_step hf (d := 2) (v := .bool false) rfl rfl (by decide) (by simp) (fun w' hw' => ?_) (fun A hA2 hf => ?_)
    · have f19 := hf.get (d := 19) (v := .bool false) (by simp)
      clear hf
      simp [Oper.quietAt, Oper.quietUpon, go_sem, f19]
    refine wpQuiet_nil (fun w' hw' => ?_)
    clear hf
    subst hA2 hA19 hA18 hA17 hA16 hA15 hA14 hA13 hA12 hA11 hA10 hA9 hA8 hA7 hA6 hA5 hA4 hA3 hA
    simp only [Act.put, List.setIfInBounds_toArray, List.set_cons_succ, List.set_cons_zero]
    go_wp2
    go_ret
    exact ⟨rfl, hw'.bel⟩
  rw [Bool.true_and] at hv
  have HQ := Lib.hid (fun W hw => HQ.out W hw rfl)
  have HU := Lib.hid (fun W hw => HU.out W hw rfl)
  have HS := Lib.hid (fun W hw => HS.out W hw rfl)
  have HY := Lib.hid (fun W hw => HY.out W hw rfl)
  cases b2
  · rw [Bool.false_and] at hv
    subst hv
    go_enter Tryz.func17, Tryz.ntmps17
    go_upto_region 1 with (fail)
    refine wp_region_quiet (C := fun w' => Sg w w' [rG kG (.slice (some ⟨w.heap.size, 0, none⟩) 1 1) [⟨t, q, ⟨yp, yn, yc⟩, ⟨op, on, oc⟩, ⟨up, un, uc⟩, s⟩]]) (by kernel_rfl) (by kernel_rfl) (hlit.step (Below.refl _ _).drew) ?_
    refine q_intro (fun A hA => ?_)
    have hf : Fr 20 A [(1, .pointer (some ⟨w.heap.size, 0, none⟩))] := by subst hA; exact ⟨rfl, by simp⟩
    refine q_step hf (d := 3) (v := .agg #[.int .i64 t, .int .i64 q, .slice yp yn yc, .slice op on oc, .slice up un uc, .int .i64 s]) rfl rfl (by decide) (by simp) (fun w' hw' => ?_) (fun A hA3 hf => ?_)
    · have hc := hS _ hw'
      have f1 := hf.get (d := 1) (v := .pointer (some ⟨w.heap.size, 0, none⟩)) (by simp)
      clear hf
      simp [Oper.quietAt, Oper.quietUpon, go_sem, f1, hc]
    refine q_step hf (d := 4) (v := .bool true) rfl rfl (by decide) (by simp) (fun w' hw' => ?_) (fun A hA4 hf => ?_)
    · have f3 := hf.get (d := 3) (v := .agg #[.int .i64 t, .int .i64 q, .slice yp yn yc, .slice op on oc, .slice up un uc, .int .i64 s]) (by simp)
      clear hf
      simp [Oper.quietAt, Oper.quietUpon, go_sem, f3]
      exact (HP.out _ hw').mono fun e w1 h => ⟨h.1, hw'.step h.2⟩
    refine q_step hf (d := 5) (v := .bool true) rfl rfl (by decide) (by simp) (fun w' hw' => ?_) (fun A hA5 hf => ?_)
    · have f4 := hf.get (d := 4) (v := .bool true) (by simp)
      clear hf
      simp [Oper.quietAt, Oper.quietUpon, go_sem, f4]
    refine q_want hf (d := 6) (v := .agg #[.int .i64 t, .int .i64 q, .slice yp yn yc, .slice op on oc, .slice up un uc, .int .i64 s]) (e := 5) rfl rfl (by simp) rfl (by decide) (by simp) (fun w' hw' => ?_) (fun A hA6 hf => ?_)
    · have hc := hS _ hw'
      have f1 := hf.get (d := 1) (v := .pointer (some ⟨w.heap.size, 0, none⟩)) (by simp)
      clear hf
      simp [Oper.quietAt, Oper.quietUpon, go_sem, f1, hc]
    refine q_want hf (d := 7) (v := .bool false) (e := 5) rfl rfl (by simp) rfl (by decide) (by simp) (fun w' hw' => ?_) (fun A hA7 hf => ?_)
    · have f6 := hf.get (d := 6) (v := .agg #[.int .i64 t, .int .i64 q, .slice yp yn yc, .slice op on oc, .slice up un uc, .int .i64 s]) (by simp)
      clear hf
      simp [Oper.quietAt, Oper.quietUpon, go_sem, f6]
      exact (HQ.out _ hw').mono fun e w1 h => ⟨h.1, hw'.step h.2⟩
    refine q_step hf (d := 8) (v := .bool false) rfl rfl (by decide) (by simp) (fun w' hw' => ?_) (fun A hA8 hf => ?_)
    · have f5 := hf.get (d := 5) (v := .bool true) (by simp)
      have f7 := hf.get (d := 7) (v := .bool false) (by simp)
      clear hf
      simp [Oper.quietAt, Oper.quietUpon, go_sem, f5, f7]
    refine q_step hf (d := 9) (v := .bool false) rfl rfl (by decide) (by simp) (fun w' hw' => ?_) (fun A hA9 hf => ?_)
    · have f8 := hf.get (d := 8) (v := .bool false) (by simp)
      clear hf
      simp [Oper.quietAt, Oper.quietUpon, go_sem, f8]
    refine q_skip hf (d := 10) (e := 9) (b := false) rfl rfl (by simp) rfl rfl (by decide) (by simp) (fun A hA10 hf => ?_)
    refine q_skip hf (d := 11) (e := 9) (b := false) rfl rfl (by simp) rfl rfl (by decide) (by simp) (fun A hA11 hf => ?_)
    refine q_step hf (d := 12) (v := .bool false) rfl rfl (by decide) (by simp) (fun w' hw' => ?_) (fun A hA12 hf => ?_)
    · have f9 := hf.get (d := 9) (v := .bool false) (by simp)
      clear hf
      simp [Oper.quietAt, Oper.quietUpon, go_sem, f9]
    refine q_step hf (d := 13) (v := .bool false) rfl rfl (by decide) (by simp) (fun w' hw' => ?_) (fun A hA13 hf => ?_)
    · have f12 := hf.get (d := 12) (v := .bool false) (by simp)
      clear hf
      simp [Oper.quietAt, Oper.quietUpon, go_sem, f12]
    refine q_skip hf (d := 14) (e := 13) (b := false) rfl rfl (by simp) rfl rfl (by decide) (by simp) (fun A hA14 hf => ?_)
    refine q_skip hf (d := 15) (e := 13) (b := false) rfl rfl (by simp) rfl rfl (by decide) (by simp) (fun A hA15 hf => ?_)
    refine q_skip hf (d := 16) (e := 13) (b := false) rfl rfl (by simp) rfl rfl (by decide) (by simp) (fun A hA16 hf => ?_)
    refine q_skip hf (d := 17) (e := 13) (b := false) rfl rfl (by simp) rfl rfl (by decide) (by simp) (fun A hA17 hf => ?_)
    refine q_skip hf (d := 18) (e := 13) (b := false) rfl rfl (by simp) rfl rfl (by decide) (by simp) (fun A hA18 hf => ?_)
    refine q_step hf (d := 19) (v := .bool false) rfl rfl (by decide) (by simp) (fun w' hw' => ?_) (fun A hA19 hf => ?_)
    · have f13 := hf.get (d := 13) (v := .bool false) (by simp)
      clear hf
      simp [Oper.quietAt, Oper.quietUpon, go_sem, f13]
    refine q_step hf (d := 2) (v := .bool false) rfl rfl (by decide) (by simp) (fun w' hw' => ?_) (fun A hA2 hf => ?_)
    · have f19 := hf.get (d := 19) (v := .bool false) (by simp)
      clear hf
      simp [Oper.quietAt, Oper.quietUpon, go_sem, f19]
    refine wpQuiet_nil (fun w' hw' => ?_)
    clear hf
    subst hA2 hA19 hA18 hA17 hA16 hA15 hA14 hA13 hA12 hA11 hA10 hA9 hA8 hA7 hA6 hA5 hA4 hA3 hA
    simp only [Act.put, List.setIfInBounds_toArray, List.set_cons_succ, List.set_cons_zero]
    go_wp2
    go_ret
    exact ⟨rfl, hw'.bel⟩
  rw [Bool.true_and] at hv
  cases b3
  · rw [Bool.false_and] at hv
    subst hv
    go_enter Tryz.func17, Tryz.ntmps17
    go_upto_region 1 with (fail)
    refine wp_region_quiet (C := fun w' => Sg w w' [rG kG (.slice (some ⟨w.heap.size, 0, none⟩) 1 1) [⟨t, q, ⟨yp, yn, yc⟩, ⟨op, on, oc⟩, ⟨up, un, uc⟩, s⟩]]) (by kernel_rfl) (by kernel_rfl) (hlit.step (Below.refl _ _).drew) ?_
    refine q_intro (fun A hA => ?_)
    have hf : Fr 20 A [(1, .pointer (some ⟨w.heap.size, 0, none⟩))] := by subst hA; exact ⟨rfl, by simp⟩
    refine q_step hf (d := 3) (v := .agg #[.int .i64 t, .int .i64 q, .slice yp yn yc, .slice op on oc, .slice up un uc, .int .i64 s]) rfl rfl (by decide) (by simp) (fun w' hw' => ?_) (fun A hA3 hf => ?_)
    · have hc := hS _ hw'
      have f1 := hf.get (d := 1) (v := .pointer (some ⟨w.heap.size, 0, none⟩)) (by simp)
      clear hf
      simp [Oper.quietAt, Oper.quietUpon, go_sem, f1, hc]
    refine q_step hf (d := 4) (v := .bool true) rfl rfl (by decide) (by simp) (fun w' hw' => ?_) (fun A hA4 hf => ?_)
    · have f3 := hf.get (d := 3) (v := .agg #[.int .i64 t, .int .i64 q, .slice yp yn yc, .slice op on oc, .slice up un uc, .int .i64 s]) (by simp)
      clear hf
      simp [Oper.quietAt, Oper.quietUpon, go_sem, f3]
      exact (HP.out _ hw').mono fun e w1 h => ⟨h.1, hw'.step h.2⟩
    refine q_step hf (d := 5) (v := .bool true) rfl rfl (by decide) (by simp) (fun w' hw' => ?_) (fun A hA5 hf => ?_)
    · have f4 := hf.get (d := 4) (v := .bool true) (by simp)
      clear hf
      simp [Oper.quietAt, Oper.quietUpon, go_sem, f4]
    refine q_want hf (d := 6) (v := .agg #[.int .i64 t, .int .i64 q, .slice yp yn yc, .slice op on oc, .slice up un uc, .int .i64 s]) (e := 5) rfl rfl (by simp) rfl (by decide) (by simp) (fun w' hw' => ?_) (fun A hA6 hf => ?_)
    · have hc := hS _ hw'
      have f1 := hf.get (d := 1) (v := .pointer (some ⟨w.heap.size, 0, none⟩)) (by simp)
      clear hf
      simp [Oper.quietAt, Oper.quietUpon, go_sem, f1, hc]
    refine q_want hf (d := 7) (v := .bool true) (e := 5) rfl rfl (by simp) rfl (by decide) (by simp) (fun w' hw' => ?_) (fun A hA7 hf => ?_)
    · have f6 := hf.get (d := 6) (v := .agg #[.int .i64 t, .int .i64 q, .slice yp yn yc, .slice op on oc, .slice up un uc, .int .i64 s]) (by simp)
      clear hf
      simp [Oper.quietAt, Oper.quietUpon, go_sem, f6]
      exact (HQ.out _ hw').mono fun e w1 h => ⟨h.1, hw'.step h.2⟩
    refine q_step hf (d := 8) (v := .bool true) rfl rfl (by decide) (by simp) (fun w' hw' => ?_) (fun A hA8 hf => ?_)
    · have f5 := hf.get (d := 5) (v := .bool true) (by simp)
      have f7 := hf.get (d := 7) (v := .bool true) (by simp)
      clear hf
      simp [Oper.quietAt, Oper.quietUpon, go_sem, f5, f7]
    refine q_step hf (d := 9) (v := .bool true) rfl rfl (by decide) (by simp) (fun w' hw' => ?_) (fun A hA9 hf => ?_)
    · have f8 := hf.get (d := 8) (v := .bool true) (by simp)
      clear hf
      simp [Oper.quietAt, Oper.quietUpon, go_sem, f8]
    refine q_want hf (d := 10) (v := .agg #[.int .i64 t, .int .i64 q, .slice yp yn yc, .slice op on oc, .slice up un uc, .int .i64 s]) (e := 9) rfl rfl (by simp) rfl (by decide) (by simp) (fun w' hw' => ?_) (fun A hA10 hf => ?_)
    · have hc := hS _ hw'
      have f1 := hf.get (d := 1) (v := .pointer (some ⟨w.heap.size, 0, none⟩)) (by simp)
      clear hf
      simp [Oper.quietAt, Oper.quietUpon, go_sem, f1, hc]
    refine q_want hf (d := 11) (v := .bool false) (e := 9) rfl rfl (by simp) rfl (by decide) (by simp) (fun w' hw' => ?_) (fun A hA11 hf => ?_)
    · have f10 := hf.get (d := 10) (v := .agg #[.int .i64 t, .int .i64 q, .slice yp yn yc, .slice op on oc, .slice up un uc, .int .i64 s]) (by simp)
      clear hf
      simp [Oper.quietAt, Oper.quietUpon, go_sem, f10]
      exact (HU.out _ hw').mono fun e w1 h => ⟨h.1, hw'.step h.2⟩
    refine q_step hf (d := 12) (v := .bool false) rfl rfl (by decide) (by simp) (fun w' hw' => ?_) (fun A hA12 hf => ?_)
    · have f9 := hf.get (d := 9) (v := .bool true) (by simp)
      have f11 := hf.get (d := 11) (v := .bool false) (by simp)
      clear hf
      simp [Oper.quietAt, Oper.quietUpon, go_sem, f9, f11]
    refine q_step hf (d := 13) (v := .bool false) rfl rfl (by decide) (by simp) (fun w' hw' => ?_) (fun A hA13 hf => ?_)
    · have f12 := hf.get (d := 12) (v := .bool false) (by simp)
      clear hf
      simp [Oper.quietAt, Oper.quietUpon, go_sem, f12]
    refine q_skip hf (d := 14) (e := 13) (b := false) rfl rfl (by simp) rfl rfl (by decide) (by simp) (fun A hA14 hf => ?_)
    refine q_skip hf (d := 15) (e := 13) (b := false) rfl rfl (by simp) rfl rfl (by decide) (by simp) (fun A hA15 hf => ?_)
    refine q_skip hf (d := 16) (e := 13) (b := false) rfl rfl (by simp) rfl rfl (by decide) (by simp) (fun A hA16 hf => ?_)
    refine q_skip hf (d := 17) (e := 13) (b := false) rfl rfl (by simp) rfl rfl (by decide) (by simp) (fun A hA17 hf => ?_)
    refine q_skip hf (d := 18) (e := 13) (b := false) rfl rfl (by simp) rfl rfl (by decide) (by simp) (fun A hA18 hf => ?_)
    refine q_step hf (d := 19) (v := .bool false) rfl rfl (by decide) (by simp) (fun w' hw' => ?_) (fun A hA19 hf => ?_)
    · have f13 := hf.get (d := 13) (v := .bool false) (by simp)
      clear hf
      simp [Oper.quietAt, Oper.quietUpon, go_sem, f13]
    refine q_step hf (d := 2) (v := .bool false) rfl rfl (by decide) (by simp) (fun w' hw' => ?_) (fun A hA2 hf => ?_)
    · have f19 := hf.get (d := 19) (v := .bool false) (by simp)
      clear hf
      simp [Oper.quietAt, Oper.quietUpon, go_sem, f19]
    refine wpQuiet_nil (fun w' hw' => ?_)
    clear hf
    subst hA2 hA19 hA18 hA17 hA16 hA15 hA14 hA13 hA12 hA11 hA10 hA9 hA8 hA7 hA6 hA5 hA4 hA3 hA
    simp only [Act.put, List.setIfInBounds_toArray, List.set_cons_succ, List.set_cons_zero]
    go_wp2
    go_ret
    exact ⟨rfl, hw'.bel⟩
  rw [Bool.true_and] at hv
  have HS := Lib.hid (fun W hw => HS.out W hw rfl)
  have HR := Lib.hid (fun W (hw : Sg w W [rG kG (.slice (some ⟨w.heap.size, 0, none⟩) 1 1) [⟨t, q, ⟨yp, yn, yc⟩, ⟨op, on, oc⟩, ⟨up, un, uc⟩, s⟩]]) => HR.out W v hv)
  go_enter Tryz.func17, Tryz.ntmps17
  go_upto_region 1 with (fail)
  refine wp_region_quiet (C := fun w' => Sg w w' [rG kG (.slice (some ⟨w.heap.size, 0, none⟩) 1 1) [⟨t, q, ⟨yp, yn, yc⟩, ⟨op, on, oc⟩, ⟨up, un, uc⟩, s⟩]]) (by kernel_rfl) (by kernel_rfl) (hlit.step (Below.refl _ _).drew) ?_
  refine q_intro (fun A hA => ?_)
  have hf : Fr 20 A [(1, .pointer (some ⟨w.heap.size, 0, none⟩))] := by subst hA; exact ⟨rfl, by simp⟩
  refine q_step hf (d := 3) (v := .agg #[.int .i64 t, .int .i64 q, .slice yp yn yc, .slice op on oc, .slice up un uc, .int .i64 s]) rfl rfl (by decide) (by simp) (fun w' hw' => ?_) (fun A hA3 hf => ?_)
  · have hc := hS _ hw'
    have f1 := hf.get (d := 1) (v := .pointer (some ⟨w.heap.size, 0, none⟩)) (by simp)
    clear hf
    simp [Oper.quietAt, Oper.quietUpon, go_sem, f1, hc]
  refine q_step hf (d := 4) (v := .bool true) rfl rfl (by decide) (by simp) (fun w' hw' => ?_) (fun A hA4 hf => ?_)
  · have f3 := hf.get (d := 3) (v := .agg #[.int .i64 t, .int .i64 q, .slice yp yn yc, .slice op on oc, .slice up un uc, .int .i64 s]) (by simp)
    clear hf
    simp [Oper.quietAt, Oper.quietUpon, go_sem, f3]
    exact (HP.out _ hw').mono fun e w1 h => ⟨h.1, hw'.step h.2⟩
  refine q_step hf (d := 5) (v := .bool true) rfl rfl (by decide) (by simp) (fun w' hw' => ?_) (fun A hA5 hf => ?_)
  · have f4 := hf.get (d := 4) (v := .bool true) (by simp)
    clear hf
    simp [Oper.quietAt, Oper.quietUpon, go_sem, f4]
  refine q_want hf (d := 6) (v := .agg #[.int .i64 t, .int .i64 q, .slice yp yn yc, .slice op on oc, .slice up un uc, .int .i64 s]) (e := 5) rfl rfl (by simp) rfl (by decide) (by simp) (fun w' hw' => ?_) (fun A hA6 hf => ?_)
  · have hc := hS _ hw'
    have f1 := hf.get (d := 1) (v := .pointer (some ⟨w.heap.size, 0, none⟩)) (by simp)
    clear hf
    simp [Oper.quietAt, Oper.quietUpon, go_sem, f1, hc]
  refine q_want hf (d := 7) (v := .bool true) (e := 5) rfl rfl (by simp) rfl (by decide) (by simp) (fun w' hw' => ?_) (fun A hA7 hf => ?_)
  · have f6 := hf.get (d := 6) (v := .agg #[.int .i64 t, .int .i64 q, .slice yp yn yc, .slice op on oc, .slice up un uc, .int .i64 s]) (by simp)
    clear hf
    simp [Oper.quietAt, Oper.quietUpon, go_sem, f6]
    exact (HQ.out _ hw').mono fun e w1 h => ⟨h.1, hw'.step h.2⟩
  refine q_step hf (d := 8) (v := .bool true) rfl rfl (by decide) (by simp) (fun w' hw' => ?_) (fun A hA8 hf => ?_)
  · have f5 := hf.get (d := 5) (v := .bool true) (by simp)
    have f7 := hf.get (d := 7) (v := .bool true) (by simp)
    clear hf
    simp [Oper.quietAt, Oper.quietUpon, go_sem, f5, f7]
  refine q_step hf (d := 9) (v := .bool true) rfl rfl (by decide) (by simp) (fun w' hw' => ?_) (fun A hA9 hf => ?_)
  · have f8 := hf.get (d := 8) (v := .bool true) (by simp)
    clear hf
    simp [Oper.quietAt, Oper.quietUpon, go_sem, f8]
  refine q_want hf (d := 10) (v := .agg #[.int .i64 t, .int .i64 q, .slice yp yn yc, .slice op on oc, .slice up un uc, .int .i64 s]) (e := 9) rfl rfl (by simp) rfl (by decide) (by simp) (fun w' hw' => ?_) (fun A hA10 hf => ?_)
  · have hc := hS _ hw'
    have f1 := hf.get (d := 1) (v := .pointer (some ⟨w.heap.size, 0, none⟩)) (by simp)
    clear hf
    simp [Oper.quietAt, Oper.quietUpon, go_sem, f1, hc]
  refine q_want hf (d := 11) (v := .bool true) (e := 9) rfl rfl (by simp) rfl (by decide) (by simp) (fun w' hw' => ?_) (fun A hA11 hf => ?_)
  · have f10 := hf.get (d := 10) (v := .agg #[.int .i64 t, .int .i64 q, .slice yp yn yc, .slice op on oc, .slice up un uc, .int .i64 s]) (by simp)
    clear hf
    simp [Oper.quietAt, Oper.quietUpon, go_sem, f10]
    exact (HU.out _ hw').mono fun e w1 h => ⟨h.1, hw'.step h.2⟩
  refine q_step hf (d := 12) (v := .bool true) rfl rfl (by decide) (by simp) (fun w' hw' => ?_) (fun A hA12 hf => ?_)
  · have f9 := hf.get (d := 9) (v := .bool true) (by simp)
    have f11 := hf.get (d := 11) (v := .bool true) (by simp)
    clear hf
    simp [Oper.quietAt, Oper.quietUpon, go_sem, f9, f11]
  refine q_step hf (d := 13) (v := .bool true) rfl rfl (by decide) (by simp) (fun w' hw' => ?_) (fun A hA13 hf => ?_)
  · have f12 := hf.get (d := 12) (v := .bool true) (by simp)
    clear hf
    simp [Oper.quietAt, Oper.quietUpon, go_sem, f12]
  refine q_want hf (d := 14) (v := .agg #[.int .i64 t, .int .i64 q, .slice yp yn yc, .slice op on oc, .slice up un uc, .int .i64 s]) (e := 13) rfl rfl (by simp) rfl (by decide) (by simp) (fun w' hw' => ?_) (fun A hA14 hf => ?_)
  · have hc := hS _ hw'
    have f1 := hf.get (d := 1) (v := .pointer (some ⟨w.heap.size, 0, none⟩)) (by simp)
    clear hf
    simp [Oper.quietAt, Oper.quietUpon, go_sem, f1, hc]
  refine q_want hf (d := 15) (v := (Sd.mk qq s).v) (e := 13) rfl rfl (by simp) rfl (by decide) (by simp) (fun w' hw' => ?_) (fun A hA15 hf => ?_)
  · have f14 := hf.get (d := 14) (v := .agg #[.int .i64 t, .int .i64 q, .slice yp yn yc, .slice op on oc, .slice up un uc, .int .i64 s]) (by simp)
    clear hf
    simp [Oper.quietAt, Oper.quietUpon, go_sem, f14]
    exact (HS.out _ hw').mono fun e w1 h => ⟨h.1, hw'.step h.2⟩
  refine q_want hf (d := 16) (v := .agg #[.int .i64 t, .int .i64 q, .slice yp yn yc, .slice op on oc, .slice up un uc, .int .i64 s]) (e := 13) rfl rfl (by simp) rfl (by decide) (by simp) (fun w' hw' => ?_) (fun A hA16 hf => ?_)
  · have hc := hS _ hw'
    have f1 := hf.get (d := 1) (v := .pointer (some ⟨w.heap.size, 0, none⟩)) (by simp)
    clear hf
    simp [Oper.quietAt, Oper.quietUpon, go_sem, f1, hc]
  refine q_want hf (d := 17) (v := Q4.v al) (e := 13) rfl rfl (by simp) rfl (by decide) (by simp) (fun w' hw' => ?_) (fun A hA17 hf => ?_)
  · have f16 := hf.get (d := 16) (v := .agg #[.int .i64 t, .int .i64 q, .slice yp yn yc, .slice op on oc, .slice up un uc, .int .i64 s]) (by simp)
    clear hf
    simp [Oper.quietAt, Oper.quietUpon, go_sem, f16]
    exact (HY.out _ hw').mono fun e w1 h => ⟨h.1, hw'.step h.2⟩
  refine q_want hf (d := 18) (v := .bool v) (e := 13) rfl rfl (by simp) rfl (by decide) (by simp) (fun w' hw' => ?_) (fun A hA18 hf => ?_)
  · have f15 := hf.get (d := 15) (v := (Sd.mk qq s).v) (by simp)
    have f17 := hf.get (d := 17) (v := Q4.v al) (by simp)
    clear hf
    simp [Oper.quietAt, Oper.quietUpon, go_sem, f15, f17]
    exact (HR.out _ hw').mono fun e w1 h => ⟨h.1, hw'.step h.2⟩
  refine q_step hf (d := 19) (v := .bool v) rfl rfl (by decide) (by simp) (fun w' hw' => ?_) (fun A hA19 hf => ?_)
  · have f13 := hf.get (d := 13) (v := .bool true) (by simp)
    have f18 := hf.get (d := 18) (v := .bool v) (by simp)
    clear hf
    simp [Oper.quietAt, Oper.quietUpon, go_sem, f13, f18]
  refine q_step hf (d := 2) (v := .bool v) rfl rfl (by decide) (by simp) (fun w' hw' => ?_) (fun A hA2 hf => ?_)
  · have f19 := hf.get (d := 19) (v := .bool v) (by simp)
    clear hf
    simp [Oper.quietAt, Oper.quietUpon, go_sem, f19]
  refine wpQuiet_nil (fun w' hw' => ?_)
  clear hf
  subst hA2 hA19 hA18 hA17 hA16 hA15 hA14 hA13 hA12 hA11 hA10 hA9 hA8 hA7 hA6 hA5 hA4 hA3 hA
  simp only [Act.put, List.setIfInBounds_toArray, List.set_cons_succ, List.set_cons_zero]
  go_wp2
  go_ret
  exact ⟨rfl, hw'.bel⟩
end Go.Proofs.YtobbankkfplooaaGreat.K.G
