/-
  What is in a hull: the program's look.
-/
import Derived.Test.YtkpkigllabhejaaQ2
import Derived.Test.YtkpkigllabhejaaA6B
import Derived.Test.YtkpkigllabhejaaW5H
namespace Go.Proofs.Ytkpkigllabhejaa
open Go.RowKit Go.Joins
attribute [local go_sem ↓] Go.wp_at_zero Go.wp_at_succ

theorem iHullOk_v {L : List T2} {v : Bool} (hv : eqL (hulT L) L = v) (p : Option Addr) (cap : Nat) (w : World) (hL : Sl w p L) (hn : L.length ≤ 1048576) :
    Calls Try.prog 44 #[.slice p L.length cap] w fun e w' => e = .returned (.bool v) ∧ Below w.heap.size w w' := by subst hv; exact iHullOk_any p cap L w hL hn
theorem iHolds_v {x1 y1 a1 b1 s2 t2 : Int} {v : Bool} (hv : holdsB x1 y1 a1 b1 s2 t2 = v) (w : World) :
    Calls Try.prog 45 #[.agg #[.int .i64 x1, .int .i64 y1, .int .i64 a1, .int .i64 b1], .agg #[.int .i64 s2, .int .i64 t2]] w fun e w' => e = .returned (.bool v) ∧ Below w.heap.size w w' := by subst hv; exact iHolds_any x1 y1 a1 b1 s2 t2 w
theorem hul_okH {L : List T2} (h0 : 0 < L.length) (hv : eqL (hulT L) L = true) : okH L = true := by
  have e := eqL_t.mp hv
  refine okH_t.mpr ⟨?_, h0, e⟩
  cases h : okS L
  · have := hul_nil.mpr (Or.inl h)
    rw [e] at this; omega
  · rfl

set_option maxRecDepth 100000 in
set_option maxHeartbeats 1000000 in
theorem iIn_nil (s : T2) (p : Option Addr) (cap : Nat) (w : World) :
    Calls Try.prog 20 #[.slice p 0 cap, .agg #[.int .i64 s.x, .int .i64 s.y]] w fun e w' => e = .returned (.bool false) ∧ Below w.heap.size w w' := by
  have hst := ((St.nil w).push [.int .i64 s.x, .int .i64 s.y] 38)
  go_enter Try.func20, Try.ntmps20
  go_wp2_with fail
  go_quiet (fail)
  go_wp2_with fail
  go_ret
  exact ⟨rfl, bdrewN hst.bel _⟩
set_option maxRecDepth 100000 in
set_option maxHeartbeats 2000000 in
theorem iIn_no {L : List T2} {s : T2} (hv : eqL (hulT L) L = false) (h0 : 0 < L.length) (g off : Nat) (cap : Nat) (w : World) (hL : Sl w (some ⟨g, off, none⟩) L) (hn : L.length ≤ 1048576) :
    Calls Try.prog 20 #[.slice (some ⟨g, off, none⟩) L.length cap, .agg #[.int .i64 s.x, .int .i64 s.y]] w fun e w' => e = .returned (.bool false) ∧ Below w.heap.size w w' := by
  have hst := ((St.nil w).push [.int .i64 s.x, .int .i64 s.y] 38)
  have n0 : ((L.length : Int) == 0) = false := beq_eq_false_iff_ne.mpr (by omega)
  go_enter Try.func20, Try.ntmps20
  go_upto_region 1 with fail
  refine wp_region_quiet (C := fun w' => St w w' [(w.heap.size, [.int .i64 s.x, .int .i64 s.y])]) (by kernel_rfl) (by kernel_rfl) (hst.dr) ?_
  refine q_intro (fun A hA => ?_)
  have hf : Fr 34 A [(0, .slice (some ⟨g, off, none⟩) L.length cap), (3, .pointer (some ⟨w.heap.size, 0, none⟩))] := by subst hA; exact ⟨rfl, by simp⟩
  refine q_step hf (d := 7) (v := .slice (some ⟨g, off, none⟩) L.length cap) rfl rfl (by decide) (by simp) (fun w' hw' => ?_) (fun A hA7 hf => ?_)
  · have f0 := hf.get (d := 0) (v := .slice (some ⟨g, off, none⟩) L.length cap) (by simp)
    clear hf
    simp [Oper.quietAt, Oper.quietUpon, go_sem, f0]
  refine q_step hf (d := 8) (v := .int .i64 (L.length : Int)) rfl rfl (by decide) (by simp) (fun w' hw' => ?_) (fun A hA8 hf => ?_)
  · have f7 := hf.get (d := 7) (v := .slice (some ⟨g, off, none⟩) L.length cap) (by simp)
    clear hf
    simp [Oper.quietAt, Oper.quietUpon, go_sem, f7]
  refine q_step hf (d := 9) (v := .bool false) rfl rfl (by decide) (by simp) (fun w' hw' => ?_) (fun A hA9 hf => ?_)
  · have f8 := hf.get (d := 8) (v := .int .i64 (L.length : Int)) (by simp)
    clear hf
    simp [Oper.quietAt, Oper.quietUpon, go_sem, f8, n0]
  refine q_step hf (d := 10) (v := .bool false) rfl rfl (by decide) (by simp) (fun w' hw' => ?_) (fun A hA10 hf => ?_)
  · have f9 := hf.get (d := 9) (v := .bool false) (by simp)
    clear hf
    simp [Oper.quietAt, Oper.quietUpon, go_sem, f9]
  refine q_want hf (d := 11) (v := .slice (some ⟨g, off, none⟩) L.length cap) (e := 10) rfl rfl (by simp) rfl (by decide) (by simp) (fun w' hw' => ?_) (fun A hA11 hf => ?_)
  · have f0 := hf.get (d := 0) (v := .slice (some ⟨g, off, none⟩) L.length cap) (by simp)
    clear hf
    simp [Oper.quietAt, Oper.quietUpon, go_sem, f0]
  refine q_want hf (d := 12) (v := .bool false) (e := 10) rfl rfl (by simp) rfl (by decide) (by simp) (fun w' hw' => ?_) (fun A hA12 hf => ?_)
  · have f11 := hf.get (d := 11) (v := .slice (some ⟨g, off, none⟩) L.length cap) (by simp)
    clear hf
    simp [Oper.quietAt, Oper.quietUpon, go_sem, f11]
    exact (iHullOk_v hv _ _ _ (hL.step hw'.bel) hn).mono (fun e w'' hq => ⟨hq.1, hw'.step hq.2⟩)
  refine q_want hf (d := 13) (v := .bool true) (e := 10) rfl rfl (by simp) rfl (by decide) (by simp) (fun w' hw' => ?_) (fun A hA13 hf => ?_)
  · have f12 := hf.get (d := 12) (v := .bool false) (by simp)
    clear hf
    simp [Oper.quietAt, Oper.quietUpon, go_sem, f12]
  refine q_step hf (d := 14) (v := .bool true) rfl rfl (by decide) (by simp) (fun w' hw' => ?_) (fun A hA14 hf => ?_)
  · have f10 := hf.get (d := 10) (v := .bool false) (by simp)
    have f13 := hf.get (d := 13) (v := .bool true) (by simp)
    clear hf
    simp [Oper.quietAt, Oper.quietUpon, go_sem, f10, f13]
  refine q_step hf (d := 15) (v := .bool true) rfl rfl (by decide) (by simp) (fun w' hw' => ?_) (fun A hA15 hf => ?_)
  · have f14 := hf.get (d := 14) (v := .bool true) (by simp)
    clear hf
    simp [Oper.quietAt, Oper.quietUpon, go_sem, f14]
  refine q_skip hf (d := 16) (e := 15) (b := true) rfl rfl (by simp) rfl rfl (by decide) (by simp) (fun A hA16 hf => ?_)
  refine q_skip hf (d := 17) (e := 15) (b := true) rfl rfl (by simp) rfl rfl (by decide) (by simp) (fun A hA17 hf => ?_)
  refine q_skip hf (d := 18) (e := 15) (b := true) rfl rfl (by simp) rfl rfl (by decide) (by simp) (fun A hA18 hf => ?_)
  refine q_skip hf (d := 19) (e := 15) (b := true) rfl rfl (by simp) rfl rfl (by decide) (by simp) (fun A hA19 hf => ?_)
  refine q_skip hf (d := 20) (e := 15) (b := true) rfl rfl (by simp) rfl rfl (by decide) (by simp) (fun A hA20 hf => ?_)
  refine q_step hf (d := 21) (v := .bool true) rfl rfl (by decide) (by simp) (fun w' hw' => ?_) (fun A hA21 hf => ?_)
  · have f15 := hf.get (d := 15) (v := .bool true) (by simp)
    clear hf
    simp [Oper.quietAt, Oper.quietUpon, go_sem, f15]
  refine wpQuiet_nil (fun w' hw' => ?_)
  clear hf
  subst hA21 hA20 hA19 hA18 hA17 hA16 hA15 hA14 hA13 hA12 hA11 hA10 hA9 hA8 hA7 hA
  simp only [Act.put, List.setIfInBounds_toArray, List.set_cons_succ, List.set_cons_zero]
  go_wp2_with fail
  go_ret
  exact ⟨rfl, hw'.bel⟩
set_option maxRecDepth 100000 in
set_option maxHeartbeats 2000000 in
theorem iIn_out {L : List T2} {s : T2} (hv : eqL (hulT L) L = true) (h0 : 0 < L.length) (hok : ∀ c ∈ L, c.ok = true) (hbx : holdsB (lowX L L[0].x) (lowY L L[0].y) (topX L L[0].x - lowX L L[0].x + 1) (topY L L[0].y - lowY L L[0].y + 1) s.x s.y = false) (g off : Nat) (cap : Nat) (w : World) (hL : Sl w (some ⟨g, off, none⟩) L) (hn : L.length ≤ 1048576) :
    Calls Try.prog 20 #[.slice (some ⟨g, off, none⟩) L.length cap, .agg #[.int .i64 s.x, .int .i64 s.y]] w fun e w' => e = .returned (.bool false) ∧ Below w.heap.size w w' := by
  have hst := ((St.nil w).push [.int .i64 s.x, .int .i64 s.y] 38)
  have n0 : ((L.length : Int) == 0) = false := beq_eq_false_iff_ne.mpr (by omega)
  have hS : ∀ w', St w w' [(w.heap.size, [.int .i64 s.x, .int .i64 s.y])] → w'.cell? ⟨w.heap.size, 0, none⟩ = some (.int .i64 s.x) ∧ w'.cell? ⟨w.heap.size, 1, none⟩ = some (.int .i64 s.y) := fun w' h => has2 h.has
  go_enter Try.func20, Try.ntmps20
  go_upto_region 1 with fail
  refine wp_region_quiet (C := fun w' => St w w' [(w.heap.size, [.int .i64 s.x, .int .i64 s.y])]) (by kernel_rfl) (by kernel_rfl) (hst.dr) ?_
  refine q_intro (fun A hA => ?_)
  have hf : Fr 34 A [(0, .slice (some ⟨g, off, none⟩) L.length cap), (3, .pointer (some ⟨w.heap.size, 0, none⟩))] := by subst hA; exact ⟨rfl, by simp⟩
  refine q_step hf (d := 7) (v := .slice (some ⟨g, off, none⟩) L.length cap) rfl rfl (by decide) (by simp) (fun w' hw' => ?_) (fun A hA7 hf => ?_)
  · have f0 := hf.get (d := 0) (v := .slice (some ⟨g, off, none⟩) L.length cap) (by simp)
    clear hf
    simp [Oper.quietAt, Oper.quietUpon, go_sem, f0]
  refine q_step hf (d := 8) (v := .int .i64 (L.length : Int)) rfl rfl (by decide) (by simp) (fun w' hw' => ?_) (fun A hA8 hf => ?_)
  · have f7 := hf.get (d := 7) (v := .slice (some ⟨g, off, none⟩) L.length cap) (by simp)
    clear hf
    simp [Oper.quietAt, Oper.quietUpon, go_sem, f7]
  refine q_step hf (d := 9) (v := .bool false) rfl rfl (by decide) (by simp) (fun w' hw' => ?_) (fun A hA9 hf => ?_)
  · have f8 := hf.get (d := 8) (v := .int .i64 (L.length : Int)) (by simp)
    clear hf
    simp [Oper.quietAt, Oper.quietUpon, go_sem, f8, n0]
  refine q_step hf (d := 10) (v := .bool false) rfl rfl (by decide) (by simp) (fun w' hw' => ?_) (fun A hA10 hf => ?_)
  · have f9 := hf.get (d := 9) (v := .bool false) (by simp)
    clear hf
    simp [Oper.quietAt, Oper.quietUpon, go_sem, f9]
  refine q_want hf (d := 11) (v := .slice (some ⟨g, off, none⟩) L.length cap) (e := 10) rfl rfl (by simp) rfl (by decide) (by simp) (fun w' hw' => ?_) (fun A hA11 hf => ?_)
  · have f0 := hf.get (d := 0) (v := .slice (some ⟨g, off, none⟩) L.length cap) (by simp)
    clear hf
    simp [Oper.quietAt, Oper.quietUpon, go_sem, f0]
  refine q_want hf (d := 12) (v := .bool true) (e := 10) rfl rfl (by simp) rfl (by decide) (by simp) (fun w' hw' => ?_) (fun A hA12 hf => ?_)
  · have f11 := hf.get (d := 11) (v := .slice (some ⟨g, off, none⟩) L.length cap) (by simp)
    clear hf
    simp [Oper.quietAt, Oper.quietUpon, go_sem, f11]
    exact (iHullOk_v hv _ _ _ (hL.step hw'.bel) hn).mono (fun e w'' hq => ⟨hq.1, hw'.step hq.2⟩)
  refine q_want hf (d := 13) (v := .bool false) (e := 10) rfl rfl (by simp) rfl (by decide) (by simp) (fun w' hw' => ?_) (fun A hA13 hf => ?_)
  · have f12 := hf.get (d := 12) (v := .bool true) (by simp)
    clear hf
    simp [Oper.quietAt, Oper.quietUpon, go_sem, f12]
  refine q_step hf (d := 14) (v := .bool false) rfl rfl (by decide) (by simp) (fun w' hw' => ?_) (fun A hA14 hf => ?_)
  · have f10 := hf.get (d := 10) (v := .bool false) (by simp)
    have f13 := hf.get (d := 13) (v := .bool false) (by simp)
    clear hf
    simp [Oper.quietAt, Oper.quietUpon, go_sem, f10, f13]
  refine q_step hf (d := 15) (v := .bool false) rfl rfl (by decide) (by simp) (fun w' hw' => ?_) (fun A hA15 hf => ?_)
  · have f14 := hf.get (d := 14) (v := .bool false) (by simp)
    clear hf
    simp [Oper.quietAt, Oper.quietUpon, go_sem, f14]
  refine q_want hf (d := 16) (v := .slice (some ⟨g, off, none⟩) L.length cap) (e := 15) rfl rfl (by simp) rfl (by decide) (by simp) (fun w' hw' => ?_) (fun A hA16 hf => ?_)
  · have f0 := hf.get (d := 0) (v := .slice (some ⟨g, off, none⟩) L.length cap) (by simp)
    clear hf
    simp [Oper.quietAt, Oper.quietUpon, go_sem, f0]
  refine q_want hf (d := 17) (v := .agg #[.int .i64 (lowX L L[0].x), .int .i64 (lowY L L[0].y), .int .i64 (topX L L[0].x - lowX L L[0].x + 1), .int .i64 (topY L L[0].y - lowY L L[0].y + 1)]) (e := 15) rfl rfl (by simp) rfl (by decide) (by simp) (fun w' hw' => ?_) (fun A hA17 hf => ?_)
  · have f16 := hf.get (d := 16) (v := .slice (some ⟨g, off, none⟩) L.length cap) (by simp)
    clear hf
    simp [Oper.quietAt, Oper.quietUpon, go_sem, f16]
    exact (box_any _ cap L h0 _ (hL.step hw'.bel) hn hok).mono (fun e w'' hq => ⟨hq.1, hw'.step hq.2⟩)
  refine q_want hf (d := 18) (v := .agg #[.int .i64 s.x, .int .i64 s.y]) (e := 15) rfl rfl (by simp) rfl (by decide) (by simp) (fun w' hw' => ?_) (fun A hA18 hf => ?_)
  · have hc := hS _ hw'
    have f3 := hf.get (d := 3) (v := .pointer (some ⟨w.heap.size, 0, none⟩)) (by simp)
    clear hf
    simp [Oper.quietAt, Oper.quietUpon, go_sem, f3, hc]
  refine q_want hf (d := 19) (v := .bool false) (e := 15) rfl rfl (by simp) rfl (by decide) (by simp) (fun w' hw' => ?_) (fun A hA19 hf => ?_)
  · have f17 := hf.get (d := 17) (v := .agg #[.int .i64 (lowX L L[0].x), .int .i64 (lowY L L[0].y), .int .i64 (topX L L[0].x - lowX L L[0].x + 1), .int .i64 (topY L L[0].y - lowY L L[0].y + 1)]) (by simp)
    have f18 := hf.get (d := 18) (v := .agg #[.int .i64 s.x, .int .i64 s.y]) (by simp)
    clear hf
    simp [Oper.quietAt, Oper.quietUpon, go_sem, f17, f18]
    exact (iHolds_v hbx _).mono (fun e w'' hq => ⟨hq.1, hw'.step hq.2⟩)
  refine q_want hf (d := 20) (v := .bool true) (e := 15) rfl rfl (by simp) rfl (by decide) (by simp) (fun w' hw' => ?_) (fun A hA20 hf => ?_)
  · have f19 := hf.get (d := 19) (v := .bool false) (by simp)
    clear hf
    simp [Oper.quietAt, Oper.quietUpon, go_sem, f19]
  refine q_step hf (d := 21) (v := .bool true) rfl rfl (by decide) (by simp) (fun w' hw' => ?_) (fun A hA21 hf => ?_)
  · have f15 := hf.get (d := 15) (v := .bool false) (by simp)
    have f20 := hf.get (d := 20) (v := .bool true) (by simp)
    clear hf
    simp [Oper.quietAt, Oper.quietUpon, go_sem, f15, f20]
  refine wpQuiet_nil (fun w' hw' => ?_)
  clear hf
  subst hA21 hA20 hA19 hA18 hA17 hA16 hA15 hA14 hA13 hA12 hA11 hA10 hA9 hA8 hA7 hA
  simp only [Act.put, List.setIfInBounds_toArray, List.set_cons_succ, List.set_cons_zero]
  go_wp2_with fail
  go_ret
  exact ⟨rfl, hw'.bel⟩
set_option maxRecDepth 100000 in
set_option maxHeartbeats 2000000 in
theorem iIn_in {L : List T2} {s : T2} (hv : eqL (hulT L) L = true) (h0 : 0 < L.length) (hl40 : L.length ≤ 40) (hok : ∀ c ∈ L, c.ok = true) (hs : s.ok = true) (hbx : holdsB (lowX L L[0].x) (lowY L L[0].y) (topX L L[0].x - lowX L L[0].x + 1) (topY L L[0].y - lowY L L[0].y + 1) s.x s.y = true) (g off : Nat) (cap : Nat) (w : World) (hL : Sl w (some ⟨g, off, none⟩) L) (hC : Cs w g off L) (hn : L.length ≤ 1048576) :
    Calls Try.prog 20 #[.slice (some ⟨g, off, none⟩) L.length cap, .agg #[.int .i64 s.x, .int .i64 s.y]] w fun e w' => e = .returned (.bool (edB L s)) ∧ Below w.heap.size w w' := by
  have hst := ((St.nil w).push [.int .i64 s.x, .int .i64 s.y] 38)
  have n0 : ((L.length : Int) == 0) = false := beq_eq_false_iff_ne.mpr (by omega)
  have hS : ∀ w', St w w' [(w.heap.size, [.int .i64 s.x, .int .i64 s.y])] → w'.cell? ⟨w.heap.size, 0, none⟩ = some (.int .i64 s.x) ∧ w'.cell? ⟨w.heap.size, 1, none⟩ = some (.int .i64 s.y) := fun w' h => has2 h.has
  go_enter Try.func20, Try.ntmps20
  go_upto_region 1 with fail
  refine wp_region_quiet (C := fun w' => St w w' [(w.heap.size, [.int .i64 s.x, .int .i64 s.y])]) (by kernel_rfl) (by kernel_rfl) (hst.dr) ?_
  refine q_intro (fun A hA => ?_)
  have hf : Fr 34 A [(0, .slice (some ⟨g, off, none⟩) L.length cap), (3, .pointer (some ⟨w.heap.size, 0, none⟩))] := by subst hA; exact ⟨rfl, by simp⟩
  refine q_step hf (d := 7) (v := .slice (some ⟨g, off, none⟩) L.length cap) rfl rfl (by decide) (by simp) (fun w' hw' => ?_) (fun A hA7 hf => ?_)
  · have f0 := hf.get (d := 0) (v := .slice (some ⟨g, off, none⟩) L.length cap) (by simp)
    clear hf
    simp [Oper.quietAt, Oper.quietUpon, go_sem, f0]
  refine q_step hf (d := 8) (v := .int .i64 (L.length : Int)) rfl rfl (by decide) (by simp) (fun w' hw' => ?_) (fun A hA8 hf => ?_)
  · have f7 := hf.get (d := 7) (v := .slice (some ⟨g, off, none⟩) L.length cap) (by simp)
    clear hf
    simp [Oper.quietAt, Oper.quietUpon, go_sem, f7]
  refine q_step hf (d := 9) (v := .bool false) rfl rfl (by decide) (by simp) (fun w' hw' => ?_) (fun A hA9 hf => ?_)
  · have f8 := hf.get (d := 8) (v := .int .i64 (L.length : Int)) (by simp)
    clear hf
    simp [Oper.quietAt, Oper.quietUpon, go_sem, f8, n0]
  refine q_step hf (d := 10) (v := .bool false) rfl rfl (by decide) (by simp) (fun w' hw' => ?_) (fun A hA10 hf => ?_)
  · have f9 := hf.get (d := 9) (v := .bool false) (by simp)
    clear hf
    simp [Oper.quietAt, Oper.quietUpon, go_sem, f9]
  refine q_want hf (d := 11) (v := .slice (some ⟨g, off, none⟩) L.length cap) (e := 10) rfl rfl (by simp) rfl (by decide) (by simp) (fun w' hw' => ?_) (fun A hA11 hf => ?_)
  · have f0 := hf.get (d := 0) (v := .slice (some ⟨g, off, none⟩) L.length cap) (by simp)
    clear hf
    simp [Oper.quietAt, Oper.quietUpon, go_sem, f0]
  refine q_want hf (d := 12) (v := .bool true) (e := 10) rfl rfl (by simp) rfl (by decide) (by simp) (fun w' hw' => ?_) (fun A hA12 hf => ?_)
  · have f11 := hf.get (d := 11) (v := .slice (some ⟨g, off, none⟩) L.length cap) (by simp)
    clear hf
    simp [Oper.quietAt, Oper.quietUpon, go_sem, f11]
    exact (iHullOk_v hv _ _ _ (hL.step hw'.bel) hn).mono (fun e w'' hq => ⟨hq.1, hw'.step hq.2⟩)
  refine q_want hf (d := 13) (v := .bool false) (e := 10) rfl rfl (by simp) rfl (by decide) (by simp) (fun w' hw' => ?_) (fun A hA13 hf => ?_)
  · have f12 := hf.get (d := 12) (v := .bool true) (by simp)
    clear hf
    simp [Oper.quietAt, Oper.quietUpon, go_sem, f12]
  refine q_step hf (d := 14) (v := .bool false) rfl rfl (by decide) (by simp) (fun w' hw' => ?_) (fun A hA14 hf => ?_)
  · have f10 := hf.get (d := 10) (v := .bool false) (by simp)
    have f13 := hf.get (d := 13) (v := .bool false) (by simp)
    clear hf
    simp [Oper.quietAt, Oper.quietUpon, go_sem, f10, f13]
  refine q_step hf (d := 15) (v := .bool false) rfl rfl (by decide) (by simp) (fun w' hw' => ?_) (fun A hA15 hf => ?_)
  · have f14 := hf.get (d := 14) (v := .bool false) (by simp)
    clear hf
    simp [Oper.quietAt, Oper.quietUpon, go_sem, f14]
  refine q_want hf (d := 16) (v := .slice (some ⟨g, off, none⟩) L.length cap) (e := 15) rfl rfl (by simp) rfl (by decide) (by simp) (fun w' hw' => ?_) (fun A hA16 hf => ?_)
  · have f0 := hf.get (d := 0) (v := .slice (some ⟨g, off, none⟩) L.length cap) (by simp)
    clear hf
    simp [Oper.quietAt, Oper.quietUpon, go_sem, f0]
  refine q_want hf (d := 17) (v := .agg #[.int .i64 (lowX L L[0].x), .int .i64 (lowY L L[0].y), .int .i64 (topX L L[0].x - lowX L L[0].x + 1), .int .i64 (topY L L[0].y - lowY L L[0].y + 1)]) (e := 15) rfl rfl (by simp) rfl (by decide) (by simp) (fun w' hw' => ?_) (fun A hA17 hf => ?_)
  · have f16 := hf.get (d := 16) (v := .slice (some ⟨g, off, none⟩) L.length cap) (by simp)
    clear hf
    simp [Oper.quietAt, Oper.quietUpon, go_sem, f16]
    exact (box_any _ cap L h0 _ (hL.step hw'.bel) hn hok).mono (fun e w'' hq => ⟨hq.1, hw'.step hq.2⟩)
  refine q_want hf (d := 18) (v := .agg #[.int .i64 s.x, .int .i64 s.y]) (e := 15) rfl rfl (by simp) rfl (by decide) (by simp) (fun w' hw' => ?_) (fun A hA18 hf => ?_)
  · have hc := hS _ hw'
    have f3 := hf.get (d := 3) (v := .pointer (some ⟨w.heap.size, 0, none⟩)) (by simp)
    clear hf
    simp [Oper.quietAt, Oper.quietUpon, go_sem, f3, hc]
  refine q_want hf (d := 19) (v := .bool true) (e := 15) rfl rfl (by simp) rfl (by decide) (by simp) (fun w' hw' => ?_) (fun A hA19 hf => ?_)
  · have f17 := hf.get (d := 17) (v := .agg #[.int .i64 (lowX L L[0].x), .int .i64 (lowY L L[0].y), .int .i64 (topX L L[0].x - lowX L L[0].x + 1), .int .i64 (topY L L[0].y - lowY L L[0].y + 1)]) (by simp)
    have f18 := hf.get (d := 18) (v := .agg #[.int .i64 s.x, .int .i64 s.y]) (by simp)
    clear hf
    simp [Oper.quietAt, Oper.quietUpon, go_sem, f17, f18]
    exact (iHolds_v hbx _).mono (fun e w'' hq => ⟨hq.1, hw'.step hq.2⟩)
  refine q_want hf (d := 20) (v := .bool false) (e := 15) rfl rfl (by simp) rfl (by decide) (by simp) (fun w' hw' => ?_) (fun A hA20 hf => ?_)
  · have f19 := hf.get (d := 19) (v := .bool true) (by simp)
    clear hf
    simp [Oper.quietAt, Oper.quietUpon, go_sem, f19]
  refine q_step hf (d := 21) (v := .bool false) rfl rfl (by decide) (by simp) (fun w' hw' => ?_) (fun A hA21 hf => ?_)
  · have f15 := hf.get (d := 15) (v := .bool false) (by simp)
    have f20 := hf.get (d := 20) (v := .bool false) (by simp)
    clear hf
    simp [Oper.quietAt, Oper.quietUpon, go_sem, f15, f20]
  refine wpQuiet_nil (fun w' hw' => ?_)
  clear hf
  subst hA21 hA20 hA19 hA18 hA17 hA16 hA15 hA14 hA13 hA12 hA11 hA10 hA9 hA8 hA7 hA
  simp only [Act.put, List.setIfInBounds_toArray, List.set_cons_succ, List.set_cons_zero]
  clear hv hbx hst n0
  go_upto_region 3 with fail
  have hst := hw'
  clear hw'
  go_wp2_with (go_at_call 47; refine (edges40 g off cap L h0 _ (hC.step hst.bel) hl40).mono ?_; rintro e w1 ⟨v, rfl, hE, hb1⟩; replace hst := hst.step hb1; obtain ⟨ge, cape, gr, rfl, hge, hat⟩ := hE.at)
  have hE' : ∀ w', Below w1.heap.size w1 w' → ∀ i (hi : i < L.length), w'.cell? ⟨ge, i, none⟩ = some (.slice (some ⟨gr, i * 2, none⟩) 2 2) ∧ Eg w' (some ⟨gr, i * 2, none⟩) L[i] (L[(i + 1) % L.length]'(Nat.mod_lt _ (by omega))) := fun w' h i hi => ⟨(h.cell (p := ⟨ge, i, none⟩) hge).trans (hat i hi).1, (hat i hi).2.step h⟩
  clear hat hE hb1
  go_loopw [25] (fun i wr => ∃ k : Nat, k ≤ L.length ∧ i = .int .i64 k ∧ Hid (∀ (i j : Nat) (hi : i < L.length) (hj : j < L.length), i < k → (i + 1) % L.length = j → 0 ≤ crT L[i] L[j] s) ∧ St w wr [(w.heap.size, [.int .i64 s.x, .int .i64 s.y])] ∧ Below w1.heap.size w1 wr) (fun i _ => L.length - (intOf i).toNat)
  case atStart => exact ⟨0, by omega, rfl, fun _ _ _ _ h => absurd h (by omega), hst, Below.refl _ _⟩
  case round =>
    clear hst
    obtain ⟨k, hk, rfl, hA, hst, hb1⟩ := hrel
    by_cases hlt : k < L.length
    · have hki : (k : Int) < L.length := by omega
      obtain ⟨hce, hEg⟩ := hE' _ hb1 k hlt
      obtain ⟨j, hj⟩ : ∃ j, (k + 1) % L.length = j := ⟨_, rfl⟩
      have hjl : j < L.length := by rw [← hj]; exact Nat.mod_lt _ (by omega)
      obtain ⟨a, ha⟩ : ∃ a, L[k] = a := ⟨_, rfl⟩
      obtain ⟨b, hb⟩ : ∃ b, L[j] = b := ⟨_, rfl⟩
      have hao := hok a (by rw [← ha]; exact List.getElem_mem hlt)
      have hbo := hok b (by rw [← hb]; exact List.getElem_mem hjl)
      have hEg2 : Eg wr (some ⟨gr, k * 2, none⟩) a b := by
        have e : L[(k + 1) % L.length]'(Nat.mod_lt _ (by omega)) = b := by simp only [hj]; exact hb
        rw [ha, e] at hEg; exact hEg
      clear hEg
      obtain ⟨cv, hcv⟩ : ∃ cv, crT a b s = cv := ⟨_, rfl⟩
      have HJ : Hid ((k + 1) % L.length = j ∧ crT L[k] L[j] s = cv) := ⟨hj, by rw [ha, hb]; exact hcv⟩
      clear hj ha hb
      obtain ⟨c0, c1⟩ := hS _ hst
      rcases Int.lt_or_le cv 0 with hcl | hcl
      · have hsg : sg (crT a b s) = -1 := by rw [hcv]; exact sg_m hcl
        go_wp2_with (go_at_call 48; refine (side_c hsg hao hbo hs _ _ _ hEg2).mono ?_; rintro e w2 ⟨rfl, hb2⟩)
        go_ret
        exact ⟨ret_bool (ed_no hlt hjl HJ.out.1 (by rw [HJ.out.2]; exact hcl)).symm, (hst.step hb2).bel⟩
      · have hA2 : Hid (∀ (i j : Nat) (hi : i < L.length) (hj : j < L.length), i < k + 1 → (i + 1) % L.length = j → 0 ≤ crT L[i] L[j] s) := by
          intro i i' hi hi' hik e
          rcases Nat.lt_or_ge i k with h | h
          · exact hA.out i i' hi hi' h e
          · obtain rfl : i = k := by omega
            obtain rfl : i' = j := e.symm.trans HJ.out.1
            rw [HJ.out.2]; exact hcl
        rcases Int.lt_or_le 0 cv with hcp | hcp
        · have hsg : sg (crT a b s) = 1 := by rw [hcv]; exact sg_p hcp
          go_wp2_with (go_at_call 48; refine (side_c hsg hao hbo hs _ _ _ hEg2).mono ?_; rintro e w2 ⟨rfl, hb2⟩)
          go_roundw
          case rel => exact ⟨k + 1, by omega, by go_num, hA2, hst.step hb2, bstep hb1 hb2 (Nat.le_refl _)⟩
          case measure => simp [intOf]; omega
        · have hsg : sg (crT a b s) = 0 := by rw [hcv]; exact sg_z (by omega)
          go_wp2_with (go_at_call 48; refine (side_c hsg hao hbo hs _ _ _ hEg2).mono ?_; rintro e w2 ⟨rfl, hb2⟩)
          go_roundw
          case rel => exact ⟨k + 1, by omega, by go_num, hA2, hst.step hb2, bstep hb1 hb2 (Nat.le_refl _)⟩
          case measure => simp [intOf]; omega
    · have hki : ¬ (k : Int) < L.length := by omega
      have he : Hid (edB L s = true) := ed_of fun i j hi hj e => hA.out i j hi hj (by omega) e
      go_wp2
      go_ret
      rw [he.out]
      exact ⟨rfl, hst.bel⟩
/-- The program's look, at whatever list and Spot. -/
theorem iIn_any (L : List T2) (s : T2) (p : Option Addr) (cap : Nat) (w : World) (hL : Sl w p L) (hn : L.length ≤ 1048576) :
    Calls Try.prog 20 #[.slice p L.length cap, .agg #[.int .i64 s.x, .int .i64 s.y]] w fun e w' => e = .returned (.bool (inB L s)) ∧ Below w.heap.size w w' := by
  rcases Nat.eq_zero_or_pos L.length with h0 | h0
  · obtain rfl := List.eq_nil_of_length_eq_zero h0
    rw [show inB [] s = false by simp [inB, okH]]
    exact iIn_nil s p cap w
  obtain ⟨g, off, rfl, hC⟩ := hL.at h0
  cases hv : eqL (hulT L) L
  · rw [show inB L s = false by simp [inB, okH, hv]]
    exact iIn_no hv h0 g off cap w hL hn
  have hoh := hul_okH h0 hv
  have hok := okS_all (okH_t.mp hoh).1
  have eb : bxB L (L.getD 0 zro) s = holdsB (lowX L L[0].x) (lowY L L[0].y) (topX L L[0].x - lowX L L[0].x + 1) (topY L L[0].y - lowY L L[0].y + 1) s.x s.y := by rw [getD_at h0]; rfl
  cases hbx : holdsB (lowX L L[0].x) (lowY L L[0].y) (topX L L[0].x - lowX L L[0].x + 1) (topY L L[0].y - lowY L L[0].y + 1) s.x s.y
  · rw [show inB L s = false by unfold inB; rw [eb, hbx, Bool.and_false]]
    exact iIn_out hv h0 hok hbx g off cap w hL hn
  · have hs : s.ok = true := by
      unfold holdsB at hbx
      simp only [Bool.and_eq_true] at hbx
      exact hbx.1.2
    rw [show inB L s = edB L s by unfold inB; rw [eb, hbx, hoh, hs, Bool.and_true]; rfl]
    exact iIn_in hv h0 (okS_len (okH_t.mp hoh).1) hok hs hbx g off cap w hL hC hn
end Go.Proofs.Ytkpkigllabhejaa
