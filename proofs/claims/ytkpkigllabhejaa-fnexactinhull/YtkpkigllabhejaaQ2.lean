/-
  What is in a hull: the spec's look.
-/
import Derived.Test.YtkpkigllabhejaaQ1
import Derived.Test.YtkpkigllabhejaaFq
namespace Go.Proofs.Ytkpkigllabhejaa
open Go.RowKit Go.Joins
attribute [local go_sem ↓] Go.wp_at_zero Go.wp_at_succ

theorem sHullOk_v {L : List T2} {v : Bool} (hv : okH L = v) (p : Option Addr) (cap : Nat) (w : World) (hL : Sl w p L) (hn : L.length ≤ 1048576) :
    Calls Try.prog 40 #[.slice p L.length cap] w fun e w' => e = .returned (.bool v) ∧ Below w.heap.size w w' := by subst hv; exact sHullOk_any p cap L w hL hn
theorem has2 {W : World} {b : Nat} {s : T2} (h : Has W [(b, [.int .i64 s.x, .int .i64 s.y])]) : W.cell? ⟨b, 0, none⟩ = some (.int .i64 s.x) ∧ W.cell? ⟨b, 1, none⟩ = some (.int .i64 s.y) := by simp [Has, HasAt] at h; simp [h]

set_option maxRecDepth 100000 in
set_option maxHeartbeats 1000000 in
theorem sIn_no {L : List T2} {s : T2} (hv : okH L = false) (p : Option Addr) (cap : Nat) (w : World) (hL : Sl w p L) (hn : L.length ≤ 1048576) :
    Calls Try.prog 18 #[.slice p L.length cap, .agg #[.int .i64 s.x, .int .i64 s.y]] w fun e w' => e = .returned (.bool false) ∧ Below w.heap.size w w' := by
  have hs := ((St.nil w).push [.int .i64 s.x, .int .i64 s.y] 38)
  go_enter Try.func18, Try.ntmps18
  go_wp2_with (go_at_call 40; refine (sHullOk_v hv _ _ _ (hL.step (below_alloc1 _ _)) hn).mono ?_; rintro e w1 ⟨rfl, hb⟩; replace hs := hs.step hb)
  go_ret
  exact ⟨rfl, hs.bel⟩
set_option maxRecDepth 100000 in
set_option maxHeartbeats 1000000 in
theorem sIn_out {L : List T2} {s : T2} (hv : okH L = true) (h2 : s.ok = false) (p : Option Addr) (cap : Nat) (w : World) (hL : Sl w p L) (hn : L.length ≤ 1048576) :
    Calls Try.prog 18 #[.slice p L.length cap, .agg #[.int .i64 s.x, .int .i64 s.y]] w fun e w' => e = .returned (.bool false) ∧ Below w.heap.size w w' := by
  have hs := ((St.nil w).push [.int .i64 s.x, .int .i64 s.y] 38)
  go_enter Try.func18, Try.ntmps18
  go_wp2_with (first
    | (go_at_call 40; refine (sHullOk_v hv _ _ _ (hL.step (below_alloc1 _ _)) hn).mono ?_; rintro e w1 ⟨rfl, hb⟩; replace hs := hs.step hb; obtain ⟨c0, c1⟩ := has2 hs.has)
    | (go_at_call 41; refine (sSpot_v h2 _).mono ?_; rintro e w2 ⟨rfl, hb2⟩; replace hs := hs.step hb2))
  go_ret
  exact ⟨rfl, hs.bel⟩
set_option maxRecDepth 100000 in
set_option maxHeartbeats 1000000 in
theorem sIn_one {a s : T2} (hv : okH [a] = true) (h2 : s.ok = true) (p : Option Addr) (cap : Nat) (w : World) (hL : Sl w p [a]) :
    Calls Try.prog 18 #[.slice p 1 cap, .agg #[.int .i64 s.x, .int .i64 s.y]] w fun e w' => e = .returned (.bool (eqB a s)) ∧ Below w.heap.size w w' := by
  obtain ⟨g, off, rfl, hC⟩ := hL.at (k := 0) (by simp)
  have hs := ((St.nil w).push [.int .i64 s.x, .int .i64 s.y] 38)
  have hql := fun W => run_eqlT a s W
  go_enter Try.func18, Try.ntmps18
  go_upto_region 5 with (first
    | (go_at_call 40; refine (sHullOk_v (L := [a]) hv _ _ _ (hL.step (below_alloc1 _ _)) (by simp)).mono ?_; rintro e w1 ⟨rfl, hb⟩; replace hs := hs.step hb; obtain ⟨c0, c1⟩ := has2 hs.has)
    | (go_at_call 41; refine (sSpot_v h2 _).mono ?_; rintro e w2 ⟨rfl, hb2⟩; replace hs := hs.step hb2; clear c0 c1; obtain ⟨c0, c1⟩ := has2 hs.has; obtain ⟨d0, d1⟩ := (hC.step hs.bel).2 0 a rfl; simp only [Nat.zero_mul, Nat.add_zero] at d0 d1))
  go_quiet (fail)
  go_wp2_with fail
  go_ret
  exact ⟨rfl, bdrewN hs.bel _⟩
set_option maxRecDepth 100000 in
set_option maxHeartbeats 2000000 in
theorem sIn_two {a b s : T2} (hv : okH [a, b] = true) (h2 : s.ok = true) (p : Option Addr) (cap : Nat) (w : World) (hL : Sl w p [a, b]) :
    Calls Try.prog 18 #[.slice p 2 cap, .agg #[.int .i64 s.x, .int .i64 s.y]] w fun e w' => e = .returned (.bool (decide (crT a b s = 0) && btwB a b s)) ∧ Below w.heap.size w w' := by
  obtain ⟨g, off, rfl, hC⟩ := hL.at (k := 0) (by simp)
  have ha := okS_all (okH_t.mp hv).1 a (by simp)
  have hb := okS_all (okH_t.mp hv).1 b (by simp)
  have hs := h2
  have hst := ((St.nil w).push [.int .i64 s.x, .int .i64 s.y] 38)
  generalize hcv : crT a b s = cv
  go_enter Try.func18, Try.ntmps18
  go_upto_region 7 with (first
    | (go_at_call 40; refine (sHullOk_v (L := [a, b]) hv _ _ _ (hL.step (below_alloc1 _ _)) (by simp)).mono ?_; rintro e w1 ⟨rfl, hbk⟩; replace hst := hst.step hbk; obtain ⟨c0, c1⟩ := has2 hst.has)
    | (go_at_call 41; refine (sSpot_v h2 _).mono ?_; rintro e w2 ⟨rfl, hb2⟩; replace hst := hst.step hb2; clear c0 c1))
  clear hb2 hv
  have hg := hC.1
  have hk0 := (hC.step hst.bel).2 0 a rfl
  have hk1 := (hC.step hst.bel).2 1 b rfl
  simp only [Nat.zero_mul, Nat.add_zero, Nat.one_mul] at hk0 hk1
  have hk2 := has2 hst.has
  have hbz : w.heap.size < w2.heap.size := hst.has.1.1
  have hgz : g < w2.heap.size := Nat.lt_of_lt_of_le hg hst.bel.size
  have hS : ∀ w', Below w2.heap.size w2 w' → (w'.cell? ⟨g, off, none⟩ = some (.int .i64 a.x) ∧ w'.cell? ⟨g, off + 1, none⟩ = some (.int .i64 a.y)) ∧ (w'.cell? ⟨g, off + 2, none⟩ = some (.int .i64 b.x) ∧ w'.cell? ⟨g, off + 2 + 1, none⟩ = some (.int .i64 b.y)) ∧ (w'.cell? ⟨w.heap.size, 0, none⟩ = some (.int .i64 s.x) ∧ w'.cell? ⟨w.heap.size, 1, none⟩ = some (.int .i64 s.y)) := fun w' h => ⟨⟨(h.cell (p := ⟨g, off, none⟩) hgz).trans hk0.1, (h.cell (p := ⟨g, off + 1, none⟩) hgz).trans hk0.2⟩, ⟨(h.cell (p := ⟨g, off + 2, none⟩) hgz).trans hk1.1, (h.cell (p := ⟨g, off + 2 + 1, none⟩) hgz).trans hk1.2⟩, ⟨(h.cell (p := ⟨w.heap.size, 0, none⟩) hbz).trans hk2.1, (h.cell (p := ⟨w.heap.size, 1, none⟩) hbz).trans hk2.2⟩⟩
  clear hk0 hk1 hk2
  by_cases h0 : cv = 0
  · have hr : Hid (btwB a b s = (decide (cv = 0) && btwB a b s)) := by unfold Hid; rw [decide_eq_true h0, Bool.true_and]
    refine wp_region_quiet (C := fun w' => Below w2.heap.size w2 w') (by kernel_rfl) (by kernel_rfl) ((Below.refl _ _).drew) ?_
    refine q_intro (fun A hA => ?_)
    have hf : Fr 65 A [(0, .slice (some ⟨g, off, none⟩) 2 cap), (3, .pointer (some ⟨w.heap.size, 0, none⟩))] := by subst hA; exact ⟨rfl, by simp⟩
    refine q_step hf (d := 25) (v := .slice (some ⟨g, off, none⟩) 2 cap) rfl rfl (by decide) (by simp) (fun w' hw' => ?_) (fun A hA25 hf => ?_)
    · have f0 := hf.get (d := 0) (v := .slice (some ⟨g, off, none⟩) 2 cap) (by simp)
      clear hf
      simp [Oper.quietAt, Oper.quietUpon, go_sem, f0]
    refine q_step hf (d := 26) (v := .pointer (some ⟨g, off, none⟩)) rfl rfl (by decide) (by simp) (fun w' hw' => ?_) (fun A hA26 hf => ?_)
    · have f25 := hf.get (d := 25) (v := .slice (some ⟨g, off, none⟩) 2 cap) (by simp)
      clear hf
      simp [Oper.quietAt, Oper.quietUpon, go_sem, f25]
    refine q_step hf (d := 27) (v := .agg #[.int .i64 a.x, .int .i64 a.y]) rfl rfl (by decide) (by simp) (fun w' hw' => ?_) (fun A hA27 hf => ?_)
    · have hc := hS _ hw'
      have f26 := hf.get (d := 26) (v := .pointer (some ⟨g, off, none⟩)) (by simp)
      clear hf
      simp [Oper.quietAt, Oper.quietUpon, go_sem, f26, hc]
    refine q_step hf (d := 28) (v := .slice (some ⟨g, off, none⟩) 2 cap) rfl rfl (by decide) (by simp) (fun w' hw' => ?_) (fun A hA28 hf => ?_)
    · have f0 := hf.get (d := 0) (v := .slice (some ⟨g, off, none⟩) 2 cap) (by simp)
      clear hf
      simp [Oper.quietAt, Oper.quietUpon, go_sem, f0]
    refine q_step hf (d := 29) (v := .pointer (some ⟨g, off + 2, none⟩)) rfl rfl (by decide) (by simp) (fun w' hw' => ?_) (fun A hA29 hf => ?_)
    · have f28 := hf.get (d := 28) (v := .slice (some ⟨g, off, none⟩) 2 cap) (by simp)
      clear hf
      simp [Oper.quietAt, Oper.quietUpon, go_sem, f28]
    refine q_step hf (d := 30) (v := .agg #[.int .i64 b.x, .int .i64 b.y]) rfl rfl (by decide) (by simp) (fun w' hw' => ?_) (fun A hA30 hf => ?_)
    · have hc := hS _ hw'
      have f29 := hf.get (d := 29) (v := .pointer (some ⟨g, off + 2, none⟩)) (by simp)
      clear hf
      simp [Oper.quietAt, Oper.quietUpon, go_sem, f29, hc]
    refine q_step hf (d := 31) (v := .agg #[.int .i64 s.x, .int .i64 s.y]) rfl rfl (by decide) (by simp) (fun w' hw' => ?_) (fun A hA31 hf => ?_)
    · have hc := hS _ hw'
      have f3 := hf.get (d := 3) (v := .pointer (some ⟨w.heap.size, 0, none⟩)) (by simp)
      clear hf
      simp [Oper.quietAt, Oper.quietUpon, go_sem, f3, hc]
    refine q_step hf (d := 32) (v := .int .i64 cv) rfl rfl (by decide) (by simp) (fun w' hw' => ?_) (fun A hA32 hf => ?_)
    · have f27 := hf.get (d := 27) (v := .agg #[.int .i64 a.x, .int .i64 a.y]) (by simp)
      have f30 := hf.get (d := 30) (v := .agg #[.int .i64 b.x, .int .i64 b.y]) (by simp)
      have f31 := hf.get (d := 31) (v := .agg #[.int .i64 s.x, .int .i64 s.y]) (by simp)
      clear hf
      simp [Oper.quietAt, Oper.quietUpon, go_sem, f27, f30, f31]
      exact (l4Cross_v hcv ha hb hs _).mono (fun e w'' hq => ⟨hq.1, bstep hw' hq.2 (Nat.le_refl _)⟩)
    refine q_step hf (d := 33) (v := .bool true) rfl rfl (by decide) (by simp) (fun w' hw' => ?_) (fun A hA33 hf => ?_)
    · have f32 := hf.get (d := 32) (v := .int .i64 cv) (by simp)
      clear hf
      simp [Oper.quietAt, Oper.quietUpon, go_sem, f32, h0]
    refine q_step hf (d := 34) (v := .bool true) rfl rfl (by decide) (by simp) (fun w' hw' => ?_) (fun A hA34 hf => ?_)
    · have f33 := hf.get (d := 33) (v := .bool true) (by simp)
      clear hf
      simp [Oper.quietAt, Oper.quietUpon, go_sem, f33]
    refine q_want hf (d := 35) (v := .slice (some ⟨g, off, none⟩) 2 cap) (e := 34) rfl rfl (by simp) rfl (by decide) (by simp) (fun w' hw' => ?_) (fun A hA35 hf => ?_)
    · have f0 := hf.get (d := 0) (v := .slice (some ⟨g, off, none⟩) 2 cap) (by simp)
      clear hf
      simp [Oper.quietAt, Oper.quietUpon, go_sem, f0]
    refine q_want hf (d := 36) (v := .pointer (some ⟨g, off, none⟩)) (e := 34) rfl rfl (by simp) rfl (by decide) (by simp) (fun w' hw' => ?_) (fun A hA36 hf => ?_)
    · have f35 := hf.get (d := 35) (v := .slice (some ⟨g, off, none⟩) 2 cap) (by simp)
      clear hf
      simp [Oper.quietAt, Oper.quietUpon, go_sem, f35]
    refine q_want hf (d := 37) (v := .agg #[.int .i64 a.x, .int .i64 a.y]) (e := 34) rfl rfl (by simp) rfl (by decide) (by simp) (fun w' hw' => ?_) (fun A hA37 hf => ?_)
    · have hc := hS _ hw'
      have f36 := hf.get (d := 36) (v := .pointer (some ⟨g, off, none⟩)) (by simp)
      clear hf
      simp [Oper.quietAt, Oper.quietUpon, go_sem, f36, hc]
    refine q_want hf (d := 38) (v := .slice (some ⟨g, off, none⟩) 2 cap) (e := 34) rfl rfl (by simp) rfl (by decide) (by simp) (fun w' hw' => ?_) (fun A hA38 hf => ?_)
    · have f0 := hf.get (d := 0) (v := .slice (some ⟨g, off, none⟩) 2 cap) (by simp)
      clear hf
      simp [Oper.quietAt, Oper.quietUpon, go_sem, f0]
    refine q_want hf (d := 39) (v := .pointer (some ⟨g, off + 2, none⟩)) (e := 34) rfl rfl (by simp) rfl (by decide) (by simp) (fun w' hw' => ?_) (fun A hA39 hf => ?_)
    · have f38 := hf.get (d := 38) (v := .slice (some ⟨g, off, none⟩) 2 cap) (by simp)
      clear hf
      simp [Oper.quietAt, Oper.quietUpon, go_sem, f38]
    refine q_want hf (d := 40) (v := .agg #[.int .i64 b.x, .int .i64 b.y]) (e := 34) rfl rfl (by simp) rfl (by decide) (by simp) (fun w' hw' => ?_) (fun A hA40 hf => ?_)
    · have hc := hS _ hw'
      have f39 := hf.get (d := 39) (v := .pointer (some ⟨g, off + 2, none⟩)) (by simp)
      clear hf
      simp [Oper.quietAt, Oper.quietUpon, go_sem, f39, hc]
    refine q_want hf (d := 41) (v := .agg #[.int .i64 s.x, .int .i64 s.y]) (e := 34) rfl rfl (by simp) rfl (by decide) (by simp) (fun w' hw' => ?_) (fun A hA41 hf => ?_)
    · have hc := hS _ hw'
      have f3 := hf.get (d := 3) (v := .pointer (some ⟨w.heap.size, 0, none⟩)) (by simp)
      clear hf
      simp [Oper.quietAt, Oper.quietUpon, go_sem, f3, hc]
    refine q_want hf (d := 42) (v := .bool (btwB a b s)) (e := 34) rfl rfl (by simp) rfl (by decide) (by simp) (fun w' hw' => ?_) (fun A hA42 hf => ?_)
    · have f37 := hf.get (d := 37) (v := .agg #[.int .i64 a.x, .int .i64 a.y]) (by simp)
      have f40 := hf.get (d := 40) (v := .agg #[.int .i64 b.x, .int .i64 b.y]) (by simp)
      have f41 := hf.get (d := 41) (v := .agg #[.int .i64 s.x, .int .i64 s.y]) (by simp)
      clear hf
      simp [Oper.quietAt, Oper.quietUpon, go_sem, f37, f40, f41]
      exact (l4Between_any a b s _).mono (fun e w'' hq => ⟨hq.1, bstep hw' hq.2 (Nat.le_refl _)⟩)
    refine q_step hf (d := 43) (v := .bool (btwB a b s)) rfl rfl (by decide) (by simp) (fun w' hw' => ?_) (fun A hA43 hf => ?_)
    · have f34 := hf.get (d := 34) (v := .bool true) (by simp)
      have f42 := hf.get (d := 42) (v := .bool (btwB a b s)) (by simp)
      clear hf
      simp [Oper.quietAt, Oper.quietUpon, go_sem, f34, f42]
    refine q_step hf (d := 4) (v := .bool (btwB a b s)) rfl rfl (by decide) (by simp) (fun w' hw' => ?_) (fun A hA4 hf => ?_)
    · have f43 := hf.get (d := 43) (v := .bool (btwB a b s)) (by simp)
      clear hf
      simp [Oper.quietAt, Oper.quietUpon, go_sem, f43]
    refine wpQuiet_nil (fun w' hw' => ?_)
    clear hf
    subst hA4 hA43 hA42 hA41 hA40 hA39 hA38 hA37 hA36 hA35 hA34 hA33 hA32 hA31 hA30 hA29 hA28 hA27 hA26 hA25 hA
    simp only [Act.put, List.setIfInBounds_toArray, List.set_cons_succ, List.set_cons_zero]
    go_wp2_with fail
    go_ret
    exact ⟨ret_bool hr.out, bstep hst.bel hw' (Nat.le_refl _)⟩
  · have hr : Hid (false = (decide (cv = 0) && btwB a b s)) := by unfold Hid; rw [decide_eq_false h0, Bool.false_and]
    refine wp_region_quiet (C := fun w' => Below w2.heap.size w2 w') (by kernel_rfl) (by kernel_rfl) ((Below.refl _ _).drew) ?_
    refine q_intro (fun A hA => ?_)
    have hf : Fr 65 A [(0, .slice (some ⟨g, off, none⟩) 2 cap), (3, .pointer (some ⟨w.heap.size, 0, none⟩))] := by subst hA; exact ⟨rfl, by simp⟩
    refine q_step hf (d := 25) (v := .slice (some ⟨g, off, none⟩) 2 cap) rfl rfl (by decide) (by simp) (fun w' hw' => ?_) (fun A hA25 hf => ?_)
    · have f0 := hf.get (d := 0) (v := .slice (some ⟨g, off, none⟩) 2 cap) (by simp)
      clear hf
      simp [Oper.quietAt, Oper.quietUpon, go_sem, f0]
    refine q_step hf (d := 26) (v := .pointer (some ⟨g, off, none⟩)) rfl rfl (by decide) (by simp) (fun w' hw' => ?_) (fun A hA26 hf => ?_)
    · have f25 := hf.get (d := 25) (v := .slice (some ⟨g, off, none⟩) 2 cap) (by simp)
      clear hf
      simp [Oper.quietAt, Oper.quietUpon, go_sem, f25]
    refine q_step hf (d := 27) (v := .agg #[.int .i64 a.x, .int .i64 a.y]) rfl rfl (by decide) (by simp) (fun w' hw' => ?_) (fun A hA27 hf => ?_)
    · have hc := hS _ hw'
      have f26 := hf.get (d := 26) (v := .pointer (some ⟨g, off, none⟩)) (by simp)
      clear hf
      simp [Oper.quietAt, Oper.quietUpon, go_sem, f26, hc]
    refine q_step hf (d := 28) (v := .slice (some ⟨g, off, none⟩) 2 cap) rfl rfl (by decide) (by simp) (fun w' hw' => ?_) (fun A hA28 hf => ?_)
    · have f0 := hf.get (d := 0) (v := .slice (some ⟨g, off, none⟩) 2 cap) (by simp)
      clear hf
      simp [Oper.quietAt, Oper.quietUpon, go_sem, f0]
    refine q_step hf (d := 29) (v := .pointer (some ⟨g, off + 2, none⟩)) rfl rfl (by decide) (by simp) (fun w' hw' => ?_) (fun A hA29 hf => ?_)
    · have f28 := hf.get (d := 28) (v := .slice (some ⟨g, off, none⟩) 2 cap) (by simp)
      clear hf
      simp [Oper.quietAt, Oper.quietUpon, go_sem, f28]
    refine q_step hf (d := 30) (v := .agg #[.int .i64 b.x, .int .i64 b.y]) rfl rfl (by decide) (by simp) (fun w' hw' => ?_) (fun A hA30 hf => ?_)
    · have hc := hS _ hw'
      have f29 := hf.get (d := 29) (v := .pointer (some ⟨g, off + 2, none⟩)) (by simp)
      clear hf
      simp [Oper.quietAt, Oper.quietUpon, go_sem, f29, hc]
    refine q_step hf (d := 31) (v := .agg #[.int .i64 s.x, .int .i64 s.y]) rfl rfl (by decide) (by simp) (fun w' hw' => ?_) (fun A hA31 hf => ?_)
    · have hc := hS _ hw'
      have f3 := hf.get (d := 3) (v := .pointer (some ⟨w.heap.size, 0, none⟩)) (by simp)
      clear hf
      simp [Oper.quietAt, Oper.quietUpon, go_sem, f3, hc]
    refine q_step hf (d := 32) (v := .int .i64 cv) rfl rfl (by decide) (by simp) (fun w' hw' => ?_) (fun A hA32 hf => ?_)
    · have f27 := hf.get (d := 27) (v := .agg #[.int .i64 a.x, .int .i64 a.y]) (by simp)
      have f30 := hf.get (d := 30) (v := .agg #[.int .i64 b.x, .int .i64 b.y]) (by simp)
      have f31 := hf.get (d := 31) (v := .agg #[.int .i64 s.x, .int .i64 s.y]) (by simp)
      clear hf
      simp [Oper.quietAt, Oper.quietUpon, go_sem, f27, f30, f31]
      exact (l4Cross_v hcv ha hb hs _).mono (fun e w'' hq => ⟨hq.1, bstep hw' hq.2 (Nat.le_refl _)⟩)
    refine q_step hf (d := 33) (v := .bool false) rfl rfl (by decide) (by simp) (fun w' hw' => ?_) (fun A hA33 hf => ?_)
    · have f32 := hf.get (d := 32) (v := .int .i64 cv) (by simp)
      clear hf
      simp [Oper.quietAt, Oper.quietUpon, go_sem, f32, h0]
    refine q_step hf (d := 34) (v := .bool false) rfl rfl (by decide) (by simp) (fun w' hw' => ?_) (fun A hA34 hf => ?_)
    · have f33 := hf.get (d := 33) (v := .bool false) (by simp)
      clear hf
      simp [Oper.quietAt, Oper.quietUpon, go_sem, f33]
    refine q_skip hf (d := 35) (e := 34) (b := false) rfl rfl (by simp) rfl rfl (by decide) (by simp) (fun A hA35 hf => ?_)
    refine q_skip hf (d := 36) (e := 34) (b := false) rfl rfl (by simp) rfl rfl (by decide) (by simp) (fun A hA36 hf => ?_)
    refine q_skip hf (d := 37) (e := 34) (b := false) rfl rfl (by simp) rfl rfl (by decide) (by simp) (fun A hA37 hf => ?_)
    refine q_skip hf (d := 38) (e := 34) (b := false) rfl rfl (by simp) rfl rfl (by decide) (by simp) (fun A hA38 hf => ?_)
    refine q_skip hf (d := 39) (e := 34) (b := false) rfl rfl (by simp) rfl rfl (by decide) (by simp) (fun A hA39 hf => ?_)
    refine q_skip hf (d := 40) (e := 34) (b := false) rfl rfl (by simp) rfl rfl (by decide) (by simp) (fun A hA40 hf => ?_)
    refine q_skip hf (d := 41) (e := 34) (b := false) rfl rfl (by simp) rfl rfl (by decide) (by simp) (fun A hA41 hf => ?_)
    refine q_skip hf (d := 42) (e := 34) (b := false) rfl rfl (by simp) rfl rfl (by decide) (by simp) (fun A hA42 hf => ?_)
    refine q_step hf (d := 43) (v := .bool false) rfl rfl (by decide) (by simp) (fun w' hw' => ?_) (fun A hA43 hf => ?_)
    · have f34 := hf.get (d := 34) (v := .bool false) (by simp)
      clear hf
      simp [Oper.quietAt, Oper.quietUpon, go_sem, f34]
    refine q_step hf (d := 4) (v := .bool false) rfl rfl (by decide) (by simp) (fun w' hw' => ?_) (fun A hA4 hf => ?_)
    · have f43 := hf.get (d := 43) (v := .bool false) (by simp)
      clear hf
      simp [Oper.quietAt, Oper.quietUpon, go_sem, f43]
    refine wpQuiet_nil (fun w' hw' => ?_)
    clear hf
    subst hA4 hA43 hA42 hA41 hA40 hA39 hA38 hA37 hA36 hA35 hA34 hA33 hA32 hA31 hA30 hA29 hA28 hA27 hA26 hA25 hA
    simp only [Act.put, List.setIfInBounds_toArray, List.set_cons_succ, List.set_cons_zero]
    go_wp2_with fail
    go_ret
    exact ⟨ret_bool hr.out, bstep hst.bel hw' (Nat.le_refl _)⟩
set_option maxRecDepth 100000 in
set_option maxHeartbeats 2000000 in
theorem sIn_more {L : List T2} {s : T2} (hv : okH L = true) (h2 : s.ok = true) (h3 : 3 ≤ L.length) (p : Option Addr) (cap : Nat) (w : World) (hL : Sl w p L) :
    Calls Try.prog 18 #[.slice p L.length cap, .agg #[.int .i64 s.x, .int .i64 s.y]] w fun e w' => e = .returned (.bool (edB L s)) ∧ Below w.heap.size w w' := by
  have hok := okS_all (okH_t.mp hv).1
  have hl40 := okS_len (okH_t.mp hv).1
  obtain ⟨g, off, rfl, hC⟩ := hL.at (k := 0) (by omega)
  have hst := ((St.nil w).push [.int .i64 s.x, .int .i64 s.y] 38)
  have n1 : ((L.length : Int) == 1) = false := beq_eq_false_iff_ne.mpr (by omega)
  have n2 : ((L.length : Int) == 2) = false := beq_eq_false_iff_ne.mpr (by omega)
  have n0 : ((L.length : Int) == 0) = false := beq_eq_false_iff_ne.mpr (by omega)
  have hne0 : ¬ L = [] := by intro h; subst h; simp at h3
  go_enter Try.func18, Try.ntmps18
  go_wp2_with (first
    | (go_at_call 40; refine (sHullOk_v hv _ _ _ (hL.step (below_alloc1 _ _)) (by omega)).mono ?_; rintro e w1 ⟨rfl, hb⟩; replace hst := hst.step hb; obtain ⟨c0, c1⟩ := has2 hst.has)
    | (go_at_call 41; refine (sSpot_v h2 _).mono ?_; rintro e w2 ⟨rfl, hb2⟩; replace hst := hst.step hb2; clear c0 c1))
  clear hb2 hv
  have hbz : w.heap.size < w2.heap.size := hst.has.1.1
  go_loopw [5] (fun i wr => ∃ k : Nat, k ≤ L.length ∧ i = .int .i64 k ∧ Hid (∀ (i j : Nat) (hi : i < L.length) (hj : j < L.length), i < k → (i + 1) % L.length = j → 0 ≤ crT L[i] L[j] s) ∧ St w wr [(w.heap.size, [.int .i64 s.x, .int .i64 s.y])]) (fun i _ => L.length - (intOf i).toNat)
  case atStart => exact ⟨0, by omega, rfl, fun _ _ _ _ h => absurd h (by omega), hst⟩
  case round =>
    clear hst
    obtain ⟨k, hk, rfl, hA, hst⟩ := hrel
    by_cases hlt : k < L.length
    · have hki : (k : Int) < L.length := by omega
      have hk0 : (0 : Int) ≤ (k : Int) := by omega
      obtain ⟨j, hj⟩ : ∃ j, (k + 1) % L.length = j := ⟨_, rfl⟩
      have hjl : j < L.length := by rw [← hj]; exact Nat.mod_lt _ (by omega)
      have hji : (j : Int) < L.length := by omega
      have hj0 : (0 : Int) ≤ (j : Int) := by omega
      have hw : (IntKind.i64.wrap ((k : Int) + 1)).tmod (L.length : Int) = j := by
        have e : IntKind.i64.wrap ((k : Int) + 1) = ((k + 1 : Nat) : Int) := by rw [IntKind.wrap_i64]; omega
        rw [e, ← hj]; rfl
      obtain ⟨a, ha⟩ : ∃ a, L[k] = a := ⟨_, rfl⟩
      obtain ⟨b, hb⟩ : ∃ b, L[j] = b := ⟨_, rfl⟩
      have hao := hok a (by rw [← ha]; exact List.getElem_mem hlt)
      have hbo := hok b (by rw [← hb]; exact List.getElem_mem hjl)
      have hLa : L[k]? = some a := by rw [List.getElem?_eq_getElem hlt, ha]
      have hLb : L[j]? = some b := by rw [List.getElem?_eq_getElem hjl, hb]
      obtain ⟨cv, hcv⟩ : ∃ cv, crT a b s = cv := ⟨_, rfl⟩
      have HJ : Hid ((k + 1) % L.length = j ∧ crT L[k] L[j] s = cv) := ⟨hj, by rw [ha, hb]; exact hcv⟩
      clear hj ha hb
      have hS : ∀ w', St w w' [(w.heap.size, [.int .i64 s.x, .int .i64 s.y])] → (w'.cell? ⟨g, off + k * 2, none⟩ = some (.int .i64 a.x) ∧ w'.cell? ⟨g, off + k * 2 + 1, none⟩ = some (.int .i64 a.y)) ∧ (w'.cell? ⟨g, off + j * 2, none⟩ = some (.int .i64 b.x) ∧ w'.cell? ⟨g, off + j * 2 + 1, none⟩ = some (.int .i64 b.y)) ∧ (w'.cell? ⟨w.heap.size, 0, none⟩ = some (.int .i64 s.x) ∧ w'.cell? ⟨w.heap.size, 1, none⟩ = some (.int .i64 s.y)) :=
        fun w' h => ⟨(hC.step h.bel).2 k a hLa, (hC.step h.bel).2 j b hLb, has2 h.has⟩
      have hcc := hS _ hst
      clear hLa hLb
      rcases Int.lt_or_le cv 0 with hcl | hcl
      · have hdc : decide (cv < 0) = true := decide_eq_true hcl
        go_wp2_with fail
        go_region_held3 (fun w' => St w w' [(w.heap.size, [.int .i64 s.x, .int .i64 s.y])] ∧ ((w'.cell? ⟨g, off + k * 2, none⟩ = some (.int .i64 a.x) ∧ w'.cell? ⟨g, off + k * 2 + 1, none⟩ = some (.int .i64 a.y)) ∧ (w'.cell? ⟨g, off + j * 2, none⟩ = some (.int .i64 b.x) ∧ w'.cell? ⟨g, off + j * 2 + 1, none⟩ = some (.int .i64 b.y)) ∧ (w'.cell? ⟨w.heap.size, 0, none⟩ = some (.int .i64 s.x) ∧ w'.cell? ⟨w.heap.size, 1, none⟩ = some (.int .i64 s.y)))) (first | exact ‹St _ _ _ ∧ _› | exact keepS hS ((‹St _ _ _ ∧ _›).1.step hb2) | exact keepS hS hst.dr | fail)
          (first | (go_at_call 42; refine (l4Cross_v hcv hao hbo h2 _).mono ?_; rintro e w3 ⟨rfl, hb2⟩))
        clear hst hcc
        obtain ⟨hst, hcc⟩ := ‹St _ _ _ ∧ _›
        go_wp2_with fail
        go_ret
        exact ⟨ret_bool (ed_no hlt hjl HJ.out.1 (by rw [HJ.out.2]; exact hcl)).symm, hst.bel⟩
      · have hdc : decide (cv < 0) = false := decide_eq_false (by omega)
        have hA2 : Hid (∀ (i j : Nat) (hi : i < L.length) (hj : j < L.length), i < k + 1 → (i + 1) % L.length = j → 0 ≤ crT L[i] L[j] s) := by
          intro i i' hi hi' hik e
          rcases Nat.lt_or_ge i k with h | h
          · exact hA.out i i' hi hi' h e
          · obtain rfl : i = k := by omega
            obtain rfl : i' = j := e.symm.trans HJ.out.1
            rw [HJ.out.2]; exact hcl
        go_wp2_with fail
        go_region_held3 (fun w' => St w w' [(w.heap.size, [.int .i64 s.x, .int .i64 s.y])] ∧ ((w'.cell? ⟨g, off + k * 2, none⟩ = some (.int .i64 a.x) ∧ w'.cell? ⟨g, off + k * 2 + 1, none⟩ = some (.int .i64 a.y)) ∧ (w'.cell? ⟨g, off + j * 2, none⟩ = some (.int .i64 b.x) ∧ w'.cell? ⟨g, off + j * 2 + 1, none⟩ = some (.int .i64 b.y)) ∧ (w'.cell? ⟨w.heap.size, 0, none⟩ = some (.int .i64 s.x) ∧ w'.cell? ⟨w.heap.size, 1, none⟩ = some (.int .i64 s.y)))) (first | exact ‹St _ _ _ ∧ _› | exact keepS hS ((‹St _ _ _ ∧ _›).1.step hb2) | exact keepS hS hst.dr | fail)
          (first | (go_at_call 42; refine (l4Cross_v hcv hao hbo h2 _).mono ?_; rintro e w3 ⟨rfl, hb2⟩))
        clear hst hcc
        obtain ⟨hst, hcc⟩ := ‹St _ _ _ ∧ _›
        go_wp2_with fail
        go_roundw
        case rel => exact ⟨k + 1, by omega, by go_num, hA2, hst⟩
        case measure => simp [intOf]; omega
    · have hki : ¬ (k : Int) < L.length := by omega
      have he : Hid (edB L s = true) := ed_of fun i j hi hj e => hA.out i j hi hj (by omega) e
      go_wp2
      go_ret
      rw [he.out]
      exact ⟨rfl, hst.bel⟩
/-- The spec's look, at whatever list and Spot. -/
theorem sIn_any (L : List T2) (s : T2) (p : Option Addr) (cap : Nat) (w : World) (hL : Sl w p L) (hn : L.length ≤ 1048576) :
    Calls Try.prog 18 #[.slice p L.length cap, .agg #[.int .i64 s.x, .int .i64 s.y]] w fun e w' => e = .returned (.bool (inB L s)) ∧ Below w.heap.size w w' := by
  cases hv : okH L
  · rw [show inB L s = false by simp [inB, hv]]
    exact sIn_no hv p cap w hL hn
  cases h2 : s.ok
  · rw [show inB L s = false by simp [inB, h2]]
    exact sIn_out hv h2 p cap w hL hn
  have h0 := (okH_t.mp hv).2.1
  match L, hv, hL, h0 with
  | [a], hv, hL, _ => rw [in_one hv h2]; exact sIn_one hv h2 p cap w hL
  | [a, b], hv, hL, _ => rw [in_two hv h2]; exact sIn_two hv h2 p cap w hL
  | a :: b :: c :: t, hv, hL, _ => rw [in_more hv (by simp) h2]; exact sIn_more hv h2 (by simp) p cap w hL
end Go.Proofs.Ytkpkigllabhejaa
