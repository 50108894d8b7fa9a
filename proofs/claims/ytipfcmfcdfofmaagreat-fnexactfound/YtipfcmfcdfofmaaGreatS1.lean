/-
  The spec's: are they Marks.
-/
import Derived.Test.YtipfcmfcdfofmaaGreatP1
import Derived.Test.YtipfcmfcdfofmaaGreatOZ2
import Derived.Test.YtipfcmfcdfofmaaGreatFq

namespace Go.Proofs.YtipfcmfcdfofmaaGreat
open Go.RowKit Go.Joins

theorem l1In_v {n a b : Int} {v : Bool} (h : decide (a ≤ n ∧ n ≤ b) = v) (w : World) : Calls Tryz.prog 69 #[.int .i64 n, .int .i64 a, .int .i64 b] w fun e w' => e = .returned (.bool v) ∧ w' = w := by subst h; exact O.l1In_any n a b w
theorem l1Spot_v {x y : Int} {v : Bool} (h : spB x y = v) (w : World) : Calls Tryz.prog 68 #[.agg #[.int .i64 x, .int .i64 y]] w fun e w' => e = .returned (.bool v) ∧ Below w.heap.size w w' := by subst h; exact O.sSpot_any x y w

set_option maxRecDepth 100000 in
set_option maxHeartbeats 4000000 in
theorem l8Marks_any (p : Option Addr) (cap : Nat) (L : List Mk) (n : Nat) (hn : L.length = n) (w : World) (hL : SlG kM w p L) (hb : n ≤ 10000000) :
    Calls Tryz.prog 48 #[.slice p n cap] w fun e w' => e = .returned (.bool (mksB L)) ∧ Below w.heap.size w w' := by
  have HN : Hid (L.length = n) := hn
  by_cases h60 : n ≤ 60
  · have h60' : ¬ (60 : Int) < n := by omega
    have HV : Hid (mksB L = mkR 0 L) := (show mksB L = mkR 0 L by unfold mksB; simp [hn, h60])
    clear hn
    go_enter Tryz.func48, Tryz.ntmps48
    go_wp2
    go_loopw [3] (fun iv wr => ∃ k : Nat, k ≤ n ∧ iv = .int .i64 k ∧ Hid (mkR (lastI L k) (L.drop k) = mkR 0 L ∧ 0 ≤ lastI L k) ∧ Below w.heap.size w wr) (fun iv _ => n - (intOf iv).toNat)
    case atStart => exact ⟨0, by omega, rfl, ⟨rfl, by simp [lastI]⟩, Below.refl _ _⟩
    case round =>
      obtain ⟨k, hk, rfl, hR, hb1⟩ := hrel
      by_cases hlt : k < n
      · have hki : (k : Int) < n := by omega
        have hkL : k < L.length := by rw [HN.out]; exact hlt
        obtain ⟨g, off, rfl, hC0⟩ := hL.at hkL
        have HCC : Hid (CsG kM w g off L) := hC0
        have hst := mkR_step hkL
        have hl2 : lastI L (k + 1) = (L.getD k zmk).i := rfl
        have hgm := getM hkL
        obtain ⟨m, hm⟩ : ∃ m, L.getD k zmk = m := ⟨_, rfl⟩
        rw [hm] at hst hl2 hgm
        obtain ⟨l, hl⟩ : ∃ l, lastI L k = l := ⟨_, rfl⟩
        have hR0 := hR.out.2
        rw [hl] at hst hR hR0
        rw [hR.out.1] at hst
        have HST : Hid (mkR 0 L = ((decide (l < m.i ∧ m.i ≤ 100000) && spB m.x m.y) && mkR (lastI L (k + 1)) (L.drop (k + 1)))) := hst
        have HL2 : Hid (lastI L (k + 1) = m.i) := hl2
        have HLL : Hid (lastI L k = l) := hl
        have HGM : Hid (L[k]? = some m) := hgm
        have hS : ∀ w', Below w.heap.size w w' → (w'.cell? ⟨g, off + k * 3, none⟩ = some (.int .i64 m.i) ∧ w'.cell? ⟨g, off + k * 3 + 1, none⟩ = some (.int .i64 m.x) ∧ w'.cell? ⟨g, off + k * 3 + 2, none⟩ = some (.int .i64 m.y)) := fun w' h => (HCC.out.step h).mk HGM.out
        clear hst hl2 hm hl hC0 hR hL hgm
        by_cases h1 : 1 ≤ m.i ∧ m.i ≤ 100000
        · have hd1 : decide (1 ≤ m.i ∧ m.i ≤ 100000) = true := decide_eq_true h1
          cases h3 : spB m.x m.y
          · go_wp2
            refine wp_region_quiet (C := fun w' => Below w.heap.size w w') (by kernel_rfl) (by kernel_rfl) (hb1.drew) ?_
            refine q_intro (fun A hA => ?_)
            have hf : Fr 47 A [(0, .slice (some ⟨g, off, none⟩) n cap), (3, .int .i64 (k : Int))] := by subst hA; exact ⟨rfl, by simp⟩
            refine q_step hf (d := 13) (v := .slice (some ⟨g, off, none⟩) n cap) rfl rfl (by decide) (by simp) (fun w' hw' => ?_) (fun A hA13 hf => ?_)
            · have f0 := hf.get (d := 0) (v := .slice (some ⟨g, off, none⟩) n cap) (by simp)
              clear hf
              simp [Oper.quietAt, Oper.quietUpon, go_sem, f0]
            refine q_step hf (d := 14) (v := .int .i64 (k : Int)) rfl rfl (by decide) (by simp) (fun w' hw' => ?_) (fun A hA14 hf => ?_)
            · have f3 := hf.get (d := 3) (v := .int .i64 (k : Int)) (by simp)
              clear hf
              simp [Oper.quietAt, Oper.quietUpon, go_sem, f3]
            refine q_step hf (d := 15) (v := .pointer (some ⟨g, off + k * 3, none⟩)) rfl rfl (by decide) (by simp) (fun w' hw' => ?_) (fun A hA15 hf => ?_)
            · have f13 := hf.get (d := 13) (v := .slice (some ⟨g, off, none⟩) n cap) (by simp)
              have f14 := hf.get (d := 14) (v := .int .i64 (k : Int)) (by simp)
              clear hf
              simp [Oper.quietAt, Oper.quietUpon, go_sem, f13, f14, hki]
            refine q_step hf (d := 16) (v := .pointer (some ⟨g, off + k * 3, none⟩)) rfl rfl (by decide) (by simp) (fun w' hw' => ?_) (fun A hA16 hf => ?_)
            · have f15 := hf.get (d := 15) (v := .pointer (some ⟨g, off + k * 3, none⟩)) (by simp)
              clear hf
              simp [Oper.quietAt, Oper.quietUpon, go_sem, f15]
            refine q_step hf (d := 17) (v := .int .i64 m.i) rfl rfl (by decide) (by simp) (fun w' hw' => ?_) (fun A hA17 hf => ?_)
            · have hc := hS _ hw'
              have f16 := hf.get (d := 16) (v := .pointer (some ⟨g, off + k * 3, none⟩)) (by simp)
              clear hf
              simp [Oper.quietAt, Oper.quietUpon, go_sem, f16, hc]
            refine q_step hf (d := 18) (v := .bool true) rfl rfl (by decide) (by simp) (fun w' hw' => ?_) (fun A hA18 hf => ?_)
            · have f17 := hf.get (d := 17) (v := .int .i64 m.i) (by simp)
              clear hf
              simp [Oper.quietAt, Oper.quietUpon, go_sem, f17]
              exact (l1In_v hd1 _).mono (fun e w'' hq => ⟨hq.1, by rw [hq.2]; exact hw'⟩)
            refine q_step hf (d := 19) (v := .bool false) rfl rfl (by decide) (by simp) (fun w' hw' => ?_) (fun A hA19 hf => ?_)
            · have f18 := hf.get (d := 18) (v := .bool true) (by simp)
              clear hf
              simp [Oper.quietAt, Oper.quietUpon, go_sem, f18]
            refine q_step hf (d := 20) (v := .bool false) rfl rfl (by decide) (by simp) (fun w' hw' => ?_) (fun A hA20 hf => ?_)
            · have f19 := hf.get (d := 19) (v := .bool false) (by simp)
              clear hf
              simp [Oper.quietAt, Oper.quietUpon, go_sem, f19]
            refine q_want hf (d := 21) (v := .slice (some ⟨g, off, none⟩) n cap) (e := 20) rfl rfl (by simp) rfl (by decide) (by simp) (fun w' hw' => ?_) (fun A hA21 hf => ?_)
            · have f0 := hf.get (d := 0) (v := .slice (some ⟨g, off, none⟩) n cap) (by simp)
              clear hf
              simp [Oper.quietAt, Oper.quietUpon, go_sem, f0]
            refine q_want hf (d := 22) (v := .int .i64 (k : Int)) (e := 20) rfl rfl (by simp) rfl (by decide) (by simp) (fun w' hw' => ?_) (fun A hA22 hf => ?_)
            · have f3 := hf.get (d := 3) (v := .int .i64 (k : Int)) (by simp)
              clear hf
              simp [Oper.quietAt, Oper.quietUpon, go_sem, f3]
            refine q_want hf (d := 23) (v := .pointer (some ⟨g, off + k * 3, none⟩)) (e := 20) rfl rfl (by simp) rfl (by decide) (by simp) (fun w' hw' => ?_) (fun A hA23 hf => ?_)
            · have f21 := hf.get (d := 21) (v := .slice (some ⟨g, off, none⟩) n cap) (by simp)
              have f22 := hf.get (d := 22) (v := .int .i64 (k : Int)) (by simp)
              clear hf
              simp [Oper.quietAt, Oper.quietUpon, go_sem, f21, f22, hki]
            refine q_want hf (d := 24) (v := .pointer (some ⟨g, off + k * 3 + 1, none⟩)) (e := 20) rfl rfl (by simp) rfl (by decide) (by simp) (fun w' hw' => ?_) (fun A hA24 hf => ?_)
            · have f23 := hf.get (d := 23) (v := .pointer (some ⟨g, off + k * 3, none⟩)) (by simp)
              clear hf
              simp [Oper.quietAt, Oper.quietUpon, go_sem, f23]
            refine q_want hf (d := 25) (v := .agg #[.int .i64 m.x, .int .i64 m.y]) (e := 20) rfl rfl (by simp) rfl (by decide) (by simp) (fun w' hw' => ?_) (fun A hA25 hf => ?_)
            · have hc := hS _ hw'
              have f24 := hf.get (d := 24) (v := .pointer (some ⟨g, off + k * 3 + 1, none⟩)) (by simp)
              clear hf
              simp [Oper.quietAt, Oper.quietUpon, go_sem, f24, hc]
            refine q_want hf (d := 26) (v := .bool false) (e := 20) rfl rfl (by simp) rfl (by decide) (by simp) (fun w' hw' => ?_) (fun A hA26 hf => ?_)
            · have f25 := hf.get (d := 25) (v := .agg #[.int .i64 m.x, .int .i64 m.y]) (by simp)
              clear hf
              simp [Oper.quietAt, Oper.quietUpon, go_sem, f25]
              exact (l1Spot_v h3 _).mono (fun e w'' hq => ⟨hq.1, bstep hw' hq.2 (Nat.le_refl _)⟩)
            refine q_want hf (d := 27) (v := .bool true) (e := 20) rfl rfl (by simp) rfl (by decide) (by simp) (fun w' hw' => ?_) (fun A hA27 hf => ?_)
            · have f26 := hf.get (d := 26) (v := .bool false) (by simp)
              clear hf
              simp [Oper.quietAt, Oper.quietUpon, go_sem, f26]
            refine q_step hf (d := 28) (v := .bool true) rfl rfl (by decide) (by simp) (fun w' hw' => ?_) (fun A hA28 hf => ?_)
            · have f20 := hf.get (d := 20) (v := .bool false) (by simp)
              have f27 := hf.get (d := 27) (v := .bool true) (by simp)
              clear hf
              simp [Oper.quietAt, Oper.quietUpon, go_sem, f20, f27]
            refine q_step hf (d := 29) (v := .bool true) rfl rfl (by decide) (by simp) (fun w' hw' => ?_) (fun A hA29 hf => ?_)
            · have f28 := hf.get (d := 28) (v := .bool true) (by simp)
              clear hf
              simp [Oper.quietAt, Oper.quietUpon, go_sem, f28]
            refine q_skip hf (d := 30) (e := 29) (b := true) rfl rfl (by simp) rfl rfl (by decide) (by simp) (fun A hA30 hf => ?_)
            refine q_skip hf (d := 31) (e := 29) (b := true) rfl rfl (by simp) rfl rfl (by decide) (by simp) (fun A hA31 hf => ?_)
            refine q_skip hf (d := 32) (e := 29) (b := true) rfl rfl (by simp) rfl rfl (by decide) (by simp) (fun A hA32 hf => ?_)
            refine q_skipU hf (d := 33) (e := 32) rfl rfl (by simp) rfl (by decide) (by simp) (fun A hA33 hf => ?_)
            refine q_skipU hf (d := 34) (e := 32) rfl rfl (by simp) rfl (by decide) (by simp) (fun A hA34 hf => ?_)
            refine q_skipU hf (d := 35) (e := 32) rfl rfl (by simp) rfl (by decide) (by simp) (fun A hA35 hf => ?_)
            refine q_skipU hf (d := 36) (e := 32) rfl rfl (by simp) rfl (by decide) (by simp) (fun A hA36 hf => ?_)
            refine q_skipU hf (d := 37) (e := 32) rfl rfl (by simp) rfl (by decide) (by simp) (fun A hA37 hf => ?_)
            refine q_skipU hf (d := 38) (e := 32) rfl rfl (by simp) rfl (by decide) (by simp) (fun A hA38 hf => ?_)
            refine q_skipU hf (d := 39) (e := 32) rfl rfl (by simp) rfl (by decide) (by simp) (fun A hA39 hf => ?_)
            refine q_skipU hf (d := 40) (e := 32) rfl rfl (by simp) rfl (by decide) (by simp) (fun A hA40 hf => ?_)
            refine q_skipU hf (d := 41) (e := 32) rfl rfl (by simp) rfl (by decide) (by simp) (fun A hA41 hf => ?_)
            refine q_skipU hf (d := 42) (e := 32) rfl rfl (by simp) rfl (by decide) (by simp) (fun A hA42 hf => ?_)
            refine q_skipU hf (d := 43) (e := 32) rfl rfl (by simp) rfl (by decide) (by simp) (fun A hA43 hf => ?_)
            refine q_skipU hf (d := 44) (e := 32) rfl rfl (by simp) rfl (by decide) (by simp) (fun A hA44 hf => ?_)
            refine q_skip hf (d := 45) (e := 29) (b := true) rfl rfl (by simp) rfl rfl (by decide) (by simp) (fun A hA45 hf => ?_)
            refine q_step hf (d := 46) (v := .bool true) rfl rfl (by decide) (by simp) (fun w' hw' => ?_) (fun A hA46 hf => ?_)
            · have f29 := hf.get (d := 29) (v := .bool true) (by simp)
              clear hf
              simp [Oper.quietAt, Oper.quietUpon, go_sem, f29]
            refine wpQuiet_nil (fun w' hw' => ?_)
            clear hf
            subst hA46 hA45 hA44 hA43 hA42 hA41 hA40 hA39 hA38 hA37 hA36 hA35 hA34 hA33 hA32 hA31 hA30 hA29 hA28 hA27 hA26 hA25 hA24 hA23 hA22 hA21 hA20 hA19 hA18 hA17 hA16 hA15 hA14 hA13 hA
            simp only [Act.put, List.setIfInBounds_toArray, List.set_cons_succ, List.set_cons_zero]
            go_wp2
            go_ret
            exact ⟨ret_bool (by rw [HV.out, HST.out]; rw [h3]; simp), hw'⟩
          · cases k with
            | zero =>
              have hl0 : l = 0 := by rw [← HLL.out]; rfl
              simp only [Nat.zero_mul, Nat.add_zero] at hS
              go_wp2
              refine wp_region_quiet (C := fun w' => Below w.heap.size w w') (by kernel_rfl) (by kernel_rfl) (hb1.drew) ?_
              refine q_intro (fun A hA => ?_)
              have hf : Fr 47 A [(0, .slice (some ⟨g, off, none⟩) n cap), (3, .int .i64 0)] := by subst hA; exact ⟨rfl, by simp⟩
              refine q_step hf (d := 13) (v := .slice (some ⟨g, off, none⟩) n cap) rfl rfl (by decide) (by simp) (fun w' hw' => ?_) (fun A hA13 hf => ?_)
              · have f0 := hf.get (d := 0) (v := .slice (some ⟨g, off, none⟩) n cap) (by simp)
                clear hf
                simp [Oper.quietAt, Oper.quietUpon, go_sem, f0]
              refine q_step hf (d := 14) (v := .int .i64 0) rfl rfl (by decide) (by simp) (fun w' hw' => ?_) (fun A hA14 hf => ?_)
              · have f3 := hf.get (d := 3) (v := .int .i64 0) (by simp)
                clear hf
                simp [Oper.quietAt, Oper.quietUpon, go_sem, f3]
              refine q_step hf (d := 15) (v := .pointer (some ⟨g, off, none⟩)) rfl rfl (by decide) (by simp) (fun w' hw' => ?_) (fun A hA15 hf => ?_)
              · have f13 := hf.get (d := 13) (v := .slice (some ⟨g, off, none⟩) n cap) (by simp)
                have f14 := hf.get (d := 14) (v := .int .i64 0) (by simp)
                clear hf
                simp [Oper.quietAt, Oper.quietUpon, go_sem, f13, f14, hlt]
              refine q_step hf (d := 16) (v := .pointer (some ⟨g, off, none⟩)) rfl rfl (by decide) (by simp) (fun w' hw' => ?_) (fun A hA16 hf => ?_)
              · have f15 := hf.get (d := 15) (v := .pointer (some ⟨g, off, none⟩)) (by simp)
                clear hf
                simp [Oper.quietAt, Oper.quietUpon, go_sem, f15]
              refine q_step hf (d := 17) (v := .int .i64 m.i) rfl rfl (by decide) (by simp) (fun w' hw' => ?_) (fun A hA17 hf => ?_)
              · have hc := hS _ hw'
                have f16 := hf.get (d := 16) (v := .pointer (some ⟨g, off, none⟩)) (by simp)
                clear hf
                simp [Oper.quietAt, Oper.quietUpon, go_sem, f16, hc]
              refine q_step hf (d := 18) (v := .bool true) rfl rfl (by decide) (by simp) (fun w' hw' => ?_) (fun A hA18 hf => ?_)
              · have f17 := hf.get (d := 17) (v := .int .i64 m.i) (by simp)
                clear hf
                simp [Oper.quietAt, Oper.quietUpon, go_sem, f17]
                exact (l1In_v hd1 _).mono (fun e w'' hq => ⟨hq.1, by rw [hq.2]; exact hw'⟩)
              refine q_step hf (d := 19) (v := .bool false) rfl rfl (by decide) (by simp) (fun w' hw' => ?_) (fun A hA19 hf => ?_)
              · have f18 := hf.get (d := 18) (v := .bool true) (by simp)
                clear hf
                simp [Oper.quietAt, Oper.quietUpon, go_sem, f18]
              refine q_step hf (d := 20) (v := .bool false) rfl rfl (by decide) (by simp) (fun w' hw' => ?_) (fun A hA20 hf => ?_)
              · have f19 := hf.get (d := 19) (v := .bool false) (by simp)
                clear hf
                simp [Oper.quietAt, Oper.quietUpon, go_sem, f19]
              refine q_want hf (d := 21) (v := .slice (some ⟨g, off, none⟩) n cap) (e := 20) rfl rfl (by simp) rfl (by decide) (by simp) (fun w' hw' => ?_) (fun A hA21 hf => ?_)
              · have f0 := hf.get (d := 0) (v := .slice (some ⟨g, off, none⟩) n cap) (by simp)
                clear hf
                simp [Oper.quietAt, Oper.quietUpon, go_sem, f0]
              refine q_want hf (d := 22) (v := .int .i64 0) (e := 20) rfl rfl (by simp) rfl (by decide) (by simp) (fun w' hw' => ?_) (fun A hA22 hf => ?_)
              · have f3 := hf.get (d := 3) (v := .int .i64 0) (by simp)
                clear hf
                simp [Oper.quietAt, Oper.quietUpon, go_sem, f3]
              refine q_want hf (d := 23) (v := .pointer (some ⟨g, off, none⟩)) (e := 20) rfl rfl (by simp) rfl (by decide) (by simp) (fun w' hw' => ?_) (fun A hA23 hf => ?_)
              · have f21 := hf.get (d := 21) (v := .slice (some ⟨g, off, none⟩) n cap) (by simp)
                have f22 := hf.get (d := 22) (v := .int .i64 0) (by simp)
                clear hf
                simp [Oper.quietAt, Oper.quietUpon, go_sem, f21, f22, hlt]
              refine q_want hf (d := 24) (v := .pointer (some ⟨g, off + 1, none⟩)) (e := 20) rfl rfl (by simp) rfl (by decide) (by simp) (fun w' hw' => ?_) (fun A hA24 hf => ?_)
              · have f23 := hf.get (d := 23) (v := .pointer (some ⟨g, off, none⟩)) (by simp)
                clear hf
                simp [Oper.quietAt, Oper.quietUpon, go_sem, f23]
              refine q_want hf (d := 25) (v := .agg #[.int .i64 m.x, .int .i64 m.y]) (e := 20) rfl rfl (by simp) rfl (by decide) (by simp) (fun w' hw' => ?_) (fun A hA25 hf => ?_)
              · have hc := hS _ hw'
                have f24 := hf.get (d := 24) (v := .pointer (some ⟨g, off + 1, none⟩)) (by simp)
                clear hf
                simp [Oper.quietAt, Oper.quietUpon, go_sem, f24, hc]
              refine q_want hf (d := 26) (v := .bool true) (e := 20) rfl rfl (by simp) rfl (by decide) (by simp) (fun w' hw' => ?_) (fun A hA26 hf => ?_)
              · have f25 := hf.get (d := 25) (v := .agg #[.int .i64 m.x, .int .i64 m.y]) (by simp)
                clear hf
                simp [Oper.quietAt, Oper.quietUpon, go_sem, f25]
                exact (l1Spot_v h3 _).mono (fun e w'' hq => ⟨hq.1, bstep hw' hq.2 (Nat.le_refl _)⟩)
              refine q_want hf (d := 27) (v := .bool false) (e := 20) rfl rfl (by simp) rfl (by decide) (by simp) (fun w' hw' => ?_) (fun A hA27 hf => ?_)
              · have f26 := hf.get (d := 26) (v := .bool true) (by simp)
                clear hf
                simp [Oper.quietAt, Oper.quietUpon, go_sem, f26]
              refine q_step hf (d := 28) (v := .bool false) rfl rfl (by decide) (by simp) (fun w' hw' => ?_) (fun A hA28 hf => ?_)
              · have f20 := hf.get (d := 20) (v := .bool false) (by simp)
                have f27 := hf.get (d := 27) (v := .bool false) (by simp)
                clear hf
                simp [Oper.quietAt, Oper.quietUpon, go_sem, f20, f27]
              refine q_step hf (d := 29) (v := .bool false) rfl rfl (by decide) (by simp) (fun w' hw' => ?_) (fun A hA29 hf => ?_)
              · have f28 := hf.get (d := 28) (v := .bool false) (by simp)
                clear hf
                simp [Oper.quietAt, Oper.quietUpon, go_sem, f28]
              refine q_want hf (d := 30) (v := .int .i64 0) (e := 29) rfl rfl (by simp) rfl (by decide) (by simp) (fun w' hw' => ?_) (fun A hA30 hf => ?_)
              · have f3 := hf.get (d := 3) (v := .int .i64 0) (by simp)
                clear hf
                simp [Oper.quietAt, Oper.quietUpon, go_sem, f3]
              refine q_want hf (d := 31) (v := .bool false) (e := 29) rfl rfl (by simp) rfl (by decide) (by simp) (fun w' hw' => ?_) (fun A hA31 hf => ?_)
              · have f30 := hf.get (d := 30) (v := .int .i64 0) (by simp)
                clear hf
                simp [Oper.quietAt, Oper.quietUpon, go_sem, f30]
              refine q_want hf (d := 32) (v := .bool false) (e := 29) rfl rfl (by simp) rfl (by decide) (by simp) (fun w' hw' => ?_) (fun A hA32 hf => ?_)
              · have f31 := hf.get (d := 31) (v := .bool false) (by simp)
                clear hf
                simp [Oper.quietAt, Oper.quietUpon, go_sem, f31]
              refine q_skip hf (d := 33) (e := 32) (b := false) rfl rfl (by simp) rfl rfl (by decide) (by simp) (fun A hA33 hf => ?_)
              refine q_skip hf (d := 34) (e := 32) (b := false) rfl rfl (by simp) rfl rfl (by decide) (by simp) (fun A hA34 hf => ?_)
              refine q_skip hf (d := 35) (e := 32) (b := false) rfl rfl (by simp) rfl rfl (by decide) (by simp) (fun A hA35 hf => ?_)
              refine q_skip hf (d := 36) (e := 32) (b := false) rfl rfl (by simp) rfl rfl (by decide) (by simp) (fun A hA36 hf => ?_)
              refine q_skip hf (d := 37) (e := 32) (b := false) rfl rfl (by simp) rfl rfl (by decide) (by simp) (fun A hA37 hf => ?_)
              refine q_skip hf (d := 38) (e := 32) (b := false) rfl rfl (by simp) rfl rfl (by decide) (by simp) (fun A hA38 hf => ?_)
              refine q_skip hf (d := 39) (e := 32) (b := false) rfl rfl (by simp) rfl rfl (by decide) (by simp) (fun A hA39 hf => ?_)
              refine q_skip hf (d := 40) (e := 32) (b := false) rfl rfl (by simp) rfl rfl (by decide) (by simp) (fun A hA40 hf => ?_)
              refine q_skip hf (d := 41) (e := 32) (b := false) rfl rfl (by simp) rfl rfl (by decide) (by simp) (fun A hA41 hf => ?_)
              refine q_skip hf (d := 42) (e := 32) (b := false) rfl rfl (by simp) rfl rfl (by decide) (by simp) (fun A hA42 hf => ?_)
              refine q_skip hf (d := 43) (e := 32) (b := false) rfl rfl (by simp) rfl rfl (by decide) (by simp) (fun A hA43 hf => ?_)
              refine q_skip hf (d := 44) (e := 32) (b := false) rfl rfl (by simp) rfl rfl (by decide) (by simp) (fun A hA44 hf => ?_)
              refine q_want hf (d := 45) (v := .bool false) (e := 29) rfl rfl (by simp) rfl (by decide) (by simp) (fun w' hw' => ?_) (fun A hA45 hf => ?_)
              · have f32 := hf.get (d := 32) (v := .bool false) (by simp)
                clear hf
                simp [Oper.quietAt, Oper.quietUpon, go_sem, f32]
              refine q_step hf (d := 46) (v := .bool false) rfl rfl (by decide) (by simp) (fun w' hw' => ?_) (fun A hA46 hf => ?_)
              · have f29 := hf.get (d := 29) (v := .bool false) (by simp)
                have f45 := hf.get (d := 45) (v := .bool false) (by simp)
                clear hf
                simp [Oper.quietAt, Oper.quietUpon, go_sem, f29, f45]
              refine wpQuiet_nil (fun w' hw' => ?_)
              clear hf
              subst hA46 hA45 hA44 hA43 hA42 hA41 hA40 hA39 hA38 hA37 hA36 hA35 hA34 hA33 hA32 hA31 hA30 hA29 hA28 hA27 hA26 hA25 hA24 hA23 hA22 hA21 hA20 hA19 hA18 hA17 hA16 hA15 hA14 hA13 hA
              simp only [Act.put, List.setIfInBounds_toArray, List.set_cons_succ, List.set_cons_zero]
              go_wp2
              go_roundw
              case rel => exact ⟨0 + 1, by omega, by go_num, ⟨(show mkR _ _ = mkR 0 L by rw [HST.out, h3, show decide (l < m.i ∧ m.i ≤ 100000) = true from decide_eq_true (by omega)]; simp), by rw [HL2.out]; omega⟩, hw'⟩
              case measure => simp [intOf]; omega
            | succ j =>
              have hz : (0 : Int) < (j : Int) + 1 := by omega
              have hji : (j : Int) < n := by omega
              have hki2 : (j : Int) + 1 < n := by omega
              have hz2 : (0 : Int) ≤ (j : Int) + 1 := by omega
              have hwj : IntKind.i64.wrap (j : Int) = j := by rw [IntKind.wrap_i64]; omega
              have hS : ∀ w', Below w.heap.size w w' → (w'.cell? ⟨g, off + (j + 1) * 3, none⟩ = some (.int .i64 m.i) ∧ w'.cell? ⟨g, off + (j + 1) * 3 + 1, none⟩ = some (.int .i64 m.x) ∧ w'.cell? ⟨g, off + (j + 1) * 3 + 2, none⟩ = some (.int .i64 m.y) ∧ w'.cell? ⟨g, off + j * 3, none⟩ = some (.int .i64 l)) := fun w' h => by
                obtain ⟨a, b, c⟩ := hS w' h
                refine ⟨a, b, c, ?_⟩
                have := ((HCC.out.step h).mk (getM (k := j) (by omega))).1
                rw [this, ← HLL.out]; rfl
              by_cases hle : m.i ≤ l
              · go_wp2
                refine wp_region_quiet (C := fun w' => Below w.heap.size w w') (by kernel_rfl) (by kernel_rfl) (hb1.drew) ?_
                refine q_intro (fun A hA => ?_)
                have hf : Fr 47 A [(0, .slice (some ⟨g, off, none⟩) n cap), (3, .int .i64 ((j : Int) + 1))] := by subst hA; exact ⟨rfl, by simp⟩
                refine q_step hf (d := 13) (v := .slice (some ⟨g, off, none⟩) n cap) rfl rfl (by decide) (by simp) (fun w' hw' => ?_) (fun A hA13 hf => ?_)
                · have f0 := hf.get (d := 0) (v := .slice (some ⟨g, off, none⟩) n cap) (by simp)
                  clear hf
                  simp [Oper.quietAt, Oper.quietUpon, go_sem, f0]
                refine q_step hf (d := 14) (v := .int .i64 ((j : Int) + 1)) rfl rfl (by decide) (by simp) (fun w' hw' => ?_) (fun A hA14 hf => ?_)
                · have f3 := hf.get (d := 3) (v := .int .i64 ((j : Int) + 1)) (by simp)
                  clear hf
                  simp [Oper.quietAt, Oper.quietUpon, go_sem, f3]
                refine q_step hf (d := 15) (v := .pointer (some ⟨g, off + (j + 1) * 3, none⟩)) rfl rfl (by decide) (by simp) (fun w' hw' => ?_) (fun A hA15 hf => ?_)
                · have f13 := hf.get (d := 13) (v := .slice (some ⟨g, off, none⟩) n cap) (by simp)
                  have f14 := hf.get (d := 14) (v := .int .i64 ((j : Int) + 1)) (by simp)
                  clear hf
                  simp [Oper.quietAt, Oper.quietUpon, go_sem, f13, f14, hki2, hz2]
                refine q_step hf (d := 16) (v := .pointer (some ⟨g, off + (j + 1) * 3, none⟩)) rfl rfl (by decide) (by simp) (fun w' hw' => ?_) (fun A hA16 hf => ?_)
                · have f15 := hf.get (d := 15) (v := .pointer (some ⟨g, off + (j + 1) * 3, none⟩)) (by simp)
                  clear hf
                  simp [Oper.quietAt, Oper.quietUpon, go_sem, f15]
                refine q_step hf (d := 17) (v := .int .i64 m.i) rfl rfl (by decide) (by simp) (fun w' hw' => ?_) (fun A hA17 hf => ?_)
                · have hc := hS _ hw'
                  have f16 := hf.get (d := 16) (v := .pointer (some ⟨g, off + (j + 1) * 3, none⟩)) (by simp)
                  clear hf
                  simp [Oper.quietAt, Oper.quietUpon, go_sem, f16, hc]
                refine q_step hf (d := 18) (v := .bool true) rfl rfl (by decide) (by simp) (fun w' hw' => ?_) (fun A hA18 hf => ?_)
                · have f17 := hf.get (d := 17) (v := .int .i64 m.i) (by simp)
                  clear hf
                  simp [Oper.quietAt, Oper.quietUpon, go_sem, f17]
                  exact (l1In_v hd1 _).mono (fun e w'' hq => ⟨hq.1, by rw [hq.2]; exact hw'⟩)
                refine q_step hf (d := 19) (v := .bool false) rfl rfl (by decide) (by simp) (fun w' hw' => ?_) (fun A hA19 hf => ?_)
                · have f18 := hf.get (d := 18) (v := .bool true) (by simp)
                  clear hf
                  simp [Oper.quietAt, Oper.quietUpon, go_sem, f18]
                refine q_step hf (d := 20) (v := .bool false) rfl rfl (by decide) (by simp) (fun w' hw' => ?_) (fun A hA20 hf => ?_)
                · have f19 := hf.get (d := 19) (v := .bool false) (by simp)
                  clear hf
                  simp [Oper.quietAt, Oper.quietUpon, go_sem, f19]
                refine q_want hf (d := 21) (v := .slice (some ⟨g, off, none⟩) n cap) (e := 20) rfl rfl (by simp) rfl (by decide) (by simp) (fun w' hw' => ?_) (fun A hA21 hf => ?_)
                · have f0 := hf.get (d := 0) (v := .slice (some ⟨g, off, none⟩) n cap) (by simp)
                  clear hf
                  simp [Oper.quietAt, Oper.quietUpon, go_sem, f0]
                refine q_want hf (d := 22) (v := .int .i64 ((j : Int) + 1)) (e := 20) rfl rfl (by simp) rfl (by decide) (by simp) (fun w' hw' => ?_) (fun A hA22 hf => ?_)
                · have f3 := hf.get (d := 3) (v := .int .i64 ((j : Int) + 1)) (by simp)
                  clear hf
                  simp [Oper.quietAt, Oper.quietUpon, go_sem, f3]
                refine q_want hf (d := 23) (v := .pointer (some ⟨g, off + (j + 1) * 3, none⟩)) (e := 20) rfl rfl (by simp) rfl (by decide) (by simp) (fun w' hw' => ?_) (fun A hA23 hf => ?_)
                · have f21 := hf.get (d := 21) (v := .slice (some ⟨g, off, none⟩) n cap) (by simp)
                  have f22 := hf.get (d := 22) (v := .int .i64 ((j : Int) + 1)) (by simp)
                  clear hf
                  simp [Oper.quietAt, Oper.quietUpon, go_sem, f21, f22, hki2, hz2]
                refine q_want hf (d := 24) (v := .pointer (some ⟨g, off + (j + 1) * 3 + 1, none⟩)) (e := 20) rfl rfl (by simp) rfl (by decide) (by simp) (fun w' hw' => ?_) (fun A hA24 hf => ?_)
                · have f23 := hf.get (d := 23) (v := .pointer (some ⟨g, off + (j + 1) * 3, none⟩)) (by simp)
                  clear hf
                  simp [Oper.quietAt, Oper.quietUpon, go_sem, f23]
                refine q_want hf (d := 25) (v := .agg #[.int .i64 m.x, .int .i64 m.y]) (e := 20) rfl rfl (by simp) rfl (by decide) (by simp) (fun w' hw' => ?_) (fun A hA25 hf => ?_)
                · have hc := hS _ hw'
                  have f24 := hf.get (d := 24) (v := .pointer (some ⟨g, off + (j + 1) * 3 + 1, none⟩)) (by simp)
                  clear hf
                  simp [Oper.quietAt, Oper.quietUpon, go_sem, f24, hc]
                refine q_want hf (d := 26) (v := .bool true) (e := 20) rfl rfl (by simp) rfl (by decide) (by simp) (fun w' hw' => ?_) (fun A hA26 hf => ?_)
                · have f25 := hf.get (d := 25) (v := .agg #[.int .i64 m.x, .int .i64 m.y]) (by simp)
                  clear hf
                  simp [Oper.quietAt, Oper.quietUpon, go_sem, f25]
                  exact (l1Spot_v h3 _).mono (fun e w'' hq => ⟨hq.1, bstep hw' hq.2 (Nat.le_refl _)⟩)
                refine q_want hf (d := 27) (v := .bool false) (e := 20) rfl rfl (by simp) rfl (by decide) (by simp) (fun w' hw' => ?_) (fun A hA27 hf => ?_)
                · have f26 := hf.get (d := 26) (v := .bool true) (by simp)
                  clear hf
                  simp [Oper.quietAt, Oper.quietUpon, go_sem, f26]
                refine q_step hf (d := 28) (v := .bool false) rfl rfl (by decide) (by simp) (fun w' hw' => ?_) (fun A hA28 hf => ?_)
                · have f20 := hf.get (d := 20) (v := .bool false) (by simp)
                  have f27 := hf.get (d := 27) (v := .bool false) (by simp)
                  clear hf
                  simp [Oper.quietAt, Oper.quietUpon, go_sem, f20, f27]
                refine q_step hf (d := 29) (v := .bool false) rfl rfl (by decide) (by simp) (fun w' hw' => ?_) (fun A hA29 hf => ?_)
                · have f28 := hf.get (d := 28) (v := .bool false) (by simp)
                  clear hf
                  simp [Oper.quietAt, Oper.quietUpon, go_sem, f28]
                refine q_want hf (d := 30) (v := .int .i64 ((j : Int) + 1)) (e := 29) rfl rfl (by simp) rfl (by decide) (by simp) (fun w' hw' => ?_) (fun A hA30 hf => ?_)
                · have f3 := hf.get (d := 3) (v := .int .i64 ((j : Int) + 1)) (by simp)
                  clear hf
                  simp [Oper.quietAt, Oper.quietUpon, go_sem, f3]
                refine q_want hf (d := 31) (v := .bool true) (e := 29) rfl rfl (by simp) rfl (by decide) (by simp) (fun w' hw' => ?_) (fun A hA31 hf => ?_)
                · have f30 := hf.get (d := 30) (v := .int .i64 ((j : Int) + 1)) (by simp)
                  clear hf
                  simp [Oper.quietAt, Oper.quietUpon, go_sem, f30, hz]
                refine q_want hf (d := 32) (v := .bool true) (e := 29) rfl rfl (by simp) rfl (by decide) (by simp) (fun w' hw' => ?_) (fun A hA32 hf => ?_)
                · have f31 := hf.get (d := 31) (v := .bool true) (by simp)
                  clear hf
                  simp [Oper.quietAt, Oper.quietUpon, go_sem, f31]
                refine q_want hf (d := 33) (v := .slice (some ⟨g, off, none⟩) n cap) (e := 32) rfl rfl (by simp) rfl (by decide) (by simp) (fun w' hw' => ?_) (fun A hA33 hf => ?_)
                · have f0 := hf.get (d := 0) (v := .slice (some ⟨g, off, none⟩) n cap) (by simp)
                  clear hf
                  simp [Oper.quietAt, Oper.quietUpon, go_sem, f0]
                refine q_want hf (d := 34) (v := .int .i64 ((j : Int) + 1)) (e := 32) rfl rfl (by simp) rfl (by decide) (by simp) (fun w' hw' => ?_) (fun A hA34 hf => ?_)
                · have f3 := hf.get (d := 3) (v := .int .i64 ((j : Int) + 1)) (by simp)
                  clear hf
                  simp [Oper.quietAt, Oper.quietUpon, go_sem, f3]
                refine q_want hf (d := 35) (v := .pointer (some ⟨g, off + (j + 1) * 3, none⟩)) (e := 32) rfl rfl (by simp) rfl (by decide) (by simp) (fun w' hw' => ?_) (fun A hA35 hf => ?_)
                · have f33 := hf.get (d := 33) (v := .slice (some ⟨g, off, none⟩) n cap) (by simp)
                  have f34 := hf.get (d := 34) (v := .int .i64 ((j : Int) + 1)) (by simp)
                  clear hf
                  simp [Oper.quietAt, Oper.quietUpon, go_sem, f33, f34, hki2, hz2]
                refine q_want hf (d := 36) (v := .pointer (some ⟨g, off + (j + 1) * 3, none⟩)) (e := 32) rfl rfl (by simp) rfl (by decide) (by simp) (fun w' hw' => ?_) (fun A hA36 hf => ?_)
                · have f35 := hf.get (d := 35) (v := .pointer (some ⟨g, off + (j + 1) * 3, none⟩)) (by simp)
                  clear hf
                  simp [Oper.quietAt, Oper.quietUpon, go_sem, f35]
                refine q_want hf (d := 37) (v := .int .i64 m.i) (e := 32) rfl rfl (by simp) rfl (by decide) (by simp) (fun w' hw' => ?_) (fun A hA37 hf => ?_)
                · have hc := hS _ hw'
                  have f36 := hf.get (d := 36) (v := .pointer (some ⟨g, off + (j + 1) * 3, none⟩)) (by simp)
                  clear hf
                  simp [Oper.quietAt, Oper.quietUpon, go_sem, f36, hc]
                refine q_want hf (d := 38) (v := .slice (some ⟨g, off, none⟩) n cap) (e := 32) rfl rfl (by simp) rfl (by decide) (by simp) (fun w' hw' => ?_) (fun A hA38 hf => ?_)
                · have f0 := hf.get (d := 0) (v := .slice (some ⟨g, off, none⟩) n cap) (by simp)
                  clear hf
                  simp [Oper.quietAt, Oper.quietUpon, go_sem, f0]
                refine q_want hf (d := 39) (v := .int .i64 ((j : Int) + 1)) (e := 32) rfl rfl (by simp) rfl (by decide) (by simp) (fun w' hw' => ?_) (fun A hA39 hf => ?_)
                · have f3 := hf.get (d := 3) (v := .int .i64 ((j : Int) + 1)) (by simp)
                  clear hf
                  simp [Oper.quietAt, Oper.quietUpon, go_sem, f3]
                refine q_want hf (d := 40) (v := .int .i64 (j : Int)) (e := 32) rfl rfl (by simp) rfl (by decide) (by simp) (fun w' hw' => ?_) (fun A hA40 hf => ?_)
                · have f39 := hf.get (d := 39) (v := .int .i64 ((j : Int) + 1)) (by simp)
                  clear hf
                  simp [Oper.quietAt, Oper.quietUpon, go_sem, f39, hwj]
                refine q_want hf (d := 41) (v := .pointer (some ⟨g, off + j * 3, none⟩)) (e := 32) rfl rfl (by simp) rfl (by decide) (by simp) (fun w' hw' => ?_) (fun A hA41 hf => ?_)
                · have f38 := hf.get (d := 38) (v := .slice (some ⟨g, off, none⟩) n cap) (by simp)
                  have f40 := hf.get (d := 40) (v := .int .i64 (j : Int)) (by simp)
                  clear hf
                  simp [Oper.quietAt, Oper.quietUpon, go_sem, f38, f40, hji]
                refine q_want hf (d := 42) (v := .pointer (some ⟨g, off + j * 3, none⟩)) (e := 32) rfl rfl (by simp) rfl (by decide) (by simp) (fun w' hw' => ?_) (fun A hA42 hf => ?_)
                · have f41 := hf.get (d := 41) (v := .pointer (some ⟨g, off + j * 3, none⟩)) (by simp)
                  clear hf
                  simp [Oper.quietAt, Oper.quietUpon, go_sem, f41]
                refine q_want hf (d := 43) (v := .int .i64 l) (e := 32) rfl rfl (by simp) rfl (by decide) (by simp) (fun w' hw' => ?_) (fun A hA43 hf => ?_)
                · have hc := hS _ hw'
                  have f42 := hf.get (d := 42) (v := .pointer (some ⟨g, off + j * 3, none⟩)) (by simp)
                  clear hf
                  simp [Oper.quietAt, Oper.quietUpon, go_sem, f42, hc]
                refine q_want hf (d := 44) (v := .bool true) (e := 32) rfl rfl (by simp) rfl (by decide) (by simp) (fun w' hw' => ?_) (fun A hA44 hf => ?_)
                · have f37 := hf.get (d := 37) (v := .int .i64 m.i) (by simp)
                  have f43 := hf.get (d := 43) (v := .int .i64 l) (by simp)
                  clear hf
                  simp [Oper.quietAt, Oper.quietUpon, go_sem, f37, f43, hle]
                refine q_want hf (d := 45) (v := .bool true) (e := 29) rfl rfl (by simp) rfl (by decide) (by simp) (fun w' hw' => ?_) (fun A hA45 hf => ?_)
                · have f32 := hf.get (d := 32) (v := .bool true) (by simp)
                  have f44 := hf.get (d := 44) (v := .bool true) (by simp)
                  clear hf
                  simp [Oper.quietAt, Oper.quietUpon, go_sem, f32, f44]
                refine q_step hf (d := 46) (v := .bool true) rfl rfl (by decide) (by simp) (fun w' hw' => ?_) (fun A hA46 hf => ?_)
                · have f29 := hf.get (d := 29) (v := .bool false) (by simp)
                  have f45 := hf.get (d := 45) (v := .bool true) (by simp)
                  clear hf
                  simp [Oper.quietAt, Oper.quietUpon, go_sem, f29, f45]
                refine wpQuiet_nil (fun w' hw' => ?_)
                clear hf
                subst hA46 hA45 hA44 hA43 hA42 hA41 hA40 hA39 hA38 hA37 hA36 hA35 hA34 hA33 hA32 hA31 hA30 hA29 hA28 hA27 hA26 hA25 hA24 hA23 hA22 hA21 hA20 hA19 hA18 hA17 hA16 hA15 hA14 hA13 hA
                simp only [Act.put, List.setIfInBounds_toArray, List.set_cons_succ, List.set_cons_zero]
                go_wp2
                go_ret
                exact ⟨ret_bool (by rw [HV.out, HST.out]; rw [show decide (l < m.i ∧ m.i ≤ 100000) = false from decide_eq_false (by omega)]; simp), hw'⟩
              · go_wp2
                refine wp_region_quiet (C := fun w' => Below w.heap.size w w') (by kernel_rfl) (by kernel_rfl) (hb1.drew) ?_
                refine q_intro (fun A hA => ?_)
                have hf : Fr 47 A [(0, .slice (some ⟨g, off, none⟩) n cap), (3, .int .i64 ((j : Int) + 1))] := by subst hA; exact ⟨rfl, by simp⟩
                refine q_step hf (d := 13) (v := .slice (some ⟨g, off, none⟩) n cap) rfl rfl (by decide) (by simp) (fun w' hw' => ?_) (fun A hA13 hf => ?_)
                · have f0 := hf.get (d := 0) (v := .slice (some ⟨g, off, none⟩) n cap) (by simp)
                  clear hf
                  simp [Oper.quietAt, Oper.quietUpon, go_sem, f0]
                refine q_step hf (d := 14) (v := .int .i64 ((j : Int) + 1)) rfl rfl (by decide) (by simp) (fun w' hw' => ?_) (fun A hA14 hf => ?_)
                · have f3 := hf.get (d := 3) (v := .int .i64 ((j : Int) + 1)) (by simp)
                  clear hf
                  simp [Oper.quietAt, Oper.quietUpon, go_sem, f3]
                refine q_step hf (d := 15) (v := .pointer (some ⟨g, off + (j + 1) * 3, none⟩)) rfl rfl (by decide) (by simp) (fun w' hw' => ?_) (fun A hA15 hf => ?_)
                · have f13 := hf.get (d := 13) (v := .slice (some ⟨g, off, none⟩) n cap) (by simp)
                  have f14 := hf.get (d := 14) (v := .int .i64 ((j : Int) + 1)) (by simp)
                  clear hf
                  simp [Oper.quietAt, Oper.quietUpon, go_sem, f13, f14, hki2, hz2]
                refine q_step hf (d := 16) (v := .pointer (some ⟨g, off + (j + 1) * 3, none⟩)) rfl rfl (by decide) (by simp) (fun w' hw' => ?_) (fun A hA16 hf => ?_)
                · have f15 := hf.get (d := 15) (v := .pointer (some ⟨g, off + (j + 1) * 3, none⟩)) (by simp)
                  clear hf
                  simp [Oper.quietAt, Oper.quietUpon, go_sem, f15]
                refine q_step hf (d := 17) (v := .int .i64 m.i) rfl rfl (by decide) (by simp) (fun w' hw' => ?_) (fun A hA17 hf => ?_)
                · have hc := hS _ hw'
                  have f16 := hf.get (d := 16) (v := .pointer (some ⟨g, off + (j + 1) * 3, none⟩)) (by simp)
                  clear hf
                  simp [Oper.quietAt, Oper.quietUpon, go_sem, f16, hc]
                refine q_step hf (d := 18) (v := .bool true) rfl rfl (by decide) (by simp) (fun w' hw' => ?_) (fun A hA18 hf => ?_)
                · have f17 := hf.get (d := 17) (v := .int .i64 m.i) (by simp)
                  clear hf
                  simp [Oper.quietAt, Oper.quietUpon, go_sem, f17]
                  exact (l1In_v hd1 _).mono (fun e w'' hq => ⟨hq.1, by rw [hq.2]; exact hw'⟩)
                refine q_step hf (d := 19) (v := .bool false) rfl rfl (by decide) (by simp) (fun w' hw' => ?_) (fun A hA19 hf => ?_)
                · have f18 := hf.get (d := 18) (v := .bool true) (by simp)
                  clear hf
                  simp [Oper.quietAt, Oper.quietUpon, go_sem, f18]
                refine q_step hf (d := 20) (v := .bool false) rfl rfl (by decide) (by simp) (fun w' hw' => ?_) (fun A hA20 hf => ?_)
                · have f19 := hf.get (d := 19) (v := .bool false) (by simp)
                  clear hf
                  simp [Oper.quietAt, Oper.quietUpon, go_sem, f19]
                refine q_want hf (d := 21) (v := .slice (some ⟨g, off, none⟩) n cap) (e := 20) rfl rfl (by simp) rfl (by decide) (by simp) (fun w' hw' => ?_) (fun A hA21 hf => ?_)
                · have f0 := hf.get (d := 0) (v := .slice (some ⟨g, off, none⟩) n cap) (by simp)
                  clear hf
                  simp [Oper.quietAt, Oper.quietUpon, go_sem, f0]
                refine q_want hf (d := 22) (v := .int .i64 ((j : Int) + 1)) (e := 20) rfl rfl (by simp) rfl (by decide) (by simp) (fun w' hw' => ?_) (fun A hA22 hf => ?_)
                · have f3 := hf.get (d := 3) (v := .int .i64 ((j : Int) + 1)) (by simp)
                  clear hf
                  simp [Oper.quietAt, Oper.quietUpon, go_sem, f3]
                refine q_want hf (d := 23) (v := .pointer (some ⟨g, off + (j + 1) * 3, none⟩)) (e := 20) rfl rfl (by simp) rfl (by decide) (by simp) (fun w' hw' => ?_) (fun A hA23 hf => ?_)
                · have f21 := hf.get (d := 21) (v := .slice (some ⟨g, off, none⟩) n cap) (by simp)
                  have f22 := hf.get (d := 22) (v := .int .i64 ((j : Int) + 1)) (by simp)
                  clear hf
                  simp [Oper.quietAt, Oper.quietUpon, go_sem, f21, f22, hki2, hz2]
                refine q_want hf (d := 24) (v := .pointer (some ⟨g, off + (j + 1) * 3 + 1, none⟩)) (e := 20) rfl rfl (by simp) rfl (by decide) (by simp) (fun w' hw' => ?_) (fun A hA24 hf => ?_)
                · have f23 := hf.get (d := 23) (v := .pointer (some ⟨g, off + (j + 1) * 3, none⟩)) (by simp)
                  clear hf
                  simp [Oper.quietAt, Oper.quietUpon, go_sem, f23]
                refine q_want hf (d := 25) (v := .agg #[.int .i64 m.x, .int .i64 m.y]) (e := 20) rfl rfl (by simp) rfl (by decide) (by simp) (fun w' hw' => ?_) (fun A hA25 hf => ?_)
                · have hc := hS _ hw'
                  have f24 := hf.get (d := 24) (v := .pointer (some ⟨g, off + (j + 1) * 3 + 1, none⟩)) (by simp)
                  clear hf
                  simp [Oper.quietAt, Oper.quietUpon, go_sem, f24, hc]
                refine q_want hf (d := 26) (v := .bool true) (e := 20) rfl rfl (by simp) rfl (by decide) (by simp) (fun w' hw' => ?_) (fun A hA26 hf => ?_)
                · have f25 := hf.get (d := 25) (v := .agg #[.int .i64 m.x, .int .i64 m.y]) (by simp)
                  clear hf
                  simp [Oper.quietAt, Oper.quietUpon, go_sem, f25]
                  exact (l1Spot_v h3 _).mono (fun e w'' hq => ⟨hq.1, bstep hw' hq.2 (Nat.le_refl _)⟩)
                refine q_want hf (d := 27) (v := .bool false) (e := 20) rfl rfl (by simp) rfl (by decide) (by simp) (fun w' hw' => ?_) (fun A hA27 hf => ?_)
                · have f26 := hf.get (d := 26) (v := .bool true) (by simp)
                  clear hf
                  simp [Oper.quietAt, Oper.quietUpon, go_sem, f26]
                refine q_step hf (d := 28) (v := .bool false) rfl rfl (by decide) (by simp) (fun w' hw' => ?_) (fun A hA28 hf => ?_)
                · have f20 := hf.get (d := 20) (v := .bool false) (by simp)
                  have f27 := hf.get (d := 27) (v := .bool false) (by simp)
                  clear hf
                  simp [Oper.quietAt, Oper.quietUpon, go_sem, f20, f27]
                refine q_step hf (d := 29) (v := .bool false) rfl rfl (by decide) (by simp) (fun w' hw' => ?_) (fun A hA29 hf => ?_)
                · have f28 := hf.get (d := 28) (v := .bool false) (by simp)
                  clear hf
                  simp [Oper.quietAt, Oper.quietUpon, go_sem, f28]
                refine q_want hf (d := 30) (v := .int .i64 ((j : Int) + 1)) (e := 29) rfl rfl (by simp) rfl (by decide) (by simp) (fun w' hw' => ?_) (fun A hA30 hf => ?_)
                · have f3 := hf.get (d := 3) (v := .int .i64 ((j : Int) + 1)) (by simp)
                  clear hf
                  simp [Oper.quietAt, Oper.quietUpon, go_sem, f3]
                refine q_want hf (d := 31) (v := .bool true) (e := 29) rfl rfl (by simp) rfl (by decide) (by simp) (fun w' hw' => ?_) (fun A hA31 hf => ?_)
                · have f30 := hf.get (d := 30) (v := .int .i64 ((j : Int) + 1)) (by simp)
                  clear hf
                  simp [Oper.quietAt, Oper.quietUpon, go_sem, f30, hz]
                refine q_want hf (d := 32) (v := .bool true) (e := 29) rfl rfl (by simp) rfl (by decide) (by simp) (fun w' hw' => ?_) (fun A hA32 hf => ?_)
                · have f31 := hf.get (d := 31) (v := .bool true) (by simp)
                  clear hf
                  simp [Oper.quietAt, Oper.quietUpon, go_sem, f31]
                refine q_want hf (d := 33) (v := .slice (some ⟨g, off, none⟩) n cap) (e := 32) rfl rfl (by simp) rfl (by decide) (by simp) (fun w' hw' => ?_) (fun A hA33 hf => ?_)
                · have f0 := hf.get (d := 0) (v := .slice (some ⟨g, off, none⟩) n cap) (by simp)
                  clear hf
                  simp [Oper.quietAt, Oper.quietUpon, go_sem, f0]
                refine q_want hf (d := 34) (v := .int .i64 ((j : Int) + 1)) (e := 32) rfl rfl (by simp) rfl (by decide) (by simp) (fun w' hw' => ?_) (fun A hA34 hf => ?_)
                · have f3 := hf.get (d := 3) (v := .int .i64 ((j : Int) + 1)) (by simp)
                  clear hf
                  simp [Oper.quietAt, Oper.quietUpon, go_sem, f3]
                refine q_want hf (d := 35) (v := .pointer (some ⟨g, off + (j + 1) * 3, none⟩)) (e := 32) rfl rfl (by simp) rfl (by decide) (by simp) (fun w' hw' => ?_) (fun A hA35 hf => ?_)
                · have f33 := hf.get (d := 33) (v := .slice (some ⟨g, off, none⟩) n cap) (by simp)
                  have f34 := hf.get (d := 34) (v := .int .i64 ((j : Int) + 1)) (by simp)
                  clear hf
                  simp [Oper.quietAt, Oper.quietUpon, go_sem, f33, f34, hki2, hz2]
                refine q_want hf (d := 36) (v := .pointer (some ⟨g, off + (j + 1) * 3, none⟩)) (e := 32) rfl rfl (by simp) rfl (by decide) (by simp) (fun w' hw' => ?_) (fun A hA36 hf => ?_)
                · have f35 := hf.get (d := 35) (v := .pointer (some ⟨g, off + (j + 1) * 3, none⟩)) (by simp)
                  clear hf
                  simp [Oper.quietAt, Oper.quietUpon, go_sem, f35]
                refine q_want hf (d := 37) (v := .int .i64 m.i) (e := 32) rfl rfl (by simp) rfl (by decide) (by simp) (fun w' hw' => ?_) (fun A hA37 hf => ?_)
                · have hc := hS _ hw'
                  have f36 := hf.get (d := 36) (v := .pointer (some ⟨g, off + (j + 1) * 3, none⟩)) (by simp)
                  clear hf
                  simp [Oper.quietAt, Oper.quietUpon, go_sem, f36, hc]
                refine q_want hf (d := 38) (v := .slice (some ⟨g, off, none⟩) n cap) (e := 32) rfl rfl (by simp) rfl (by decide) (by simp) (fun w' hw' => ?_) (fun A hA38 hf => ?_)
                · have f0 := hf.get (d := 0) (v := .slice (some ⟨g, off, none⟩) n cap) (by simp)
                  clear hf
                  simp [Oper.quietAt, Oper.quietUpon, go_sem, f0]
                refine q_want hf (d := 39) (v := .int .i64 ((j : Int) + 1)) (e := 32) rfl rfl (by simp) rfl (by decide) (by simp) (fun w' hw' => ?_) (fun A hA39 hf => ?_)
                · have f3 := hf.get (d := 3) (v := .int .i64 ((j : Int) + 1)) (by simp)
                  clear hf
                  simp [Oper.quietAt, Oper.quietUpon, go_sem, f3]
                refine q_want hf (d := 40) (v := .int .i64 (j : Int)) (e := 32) rfl rfl (by simp) rfl (by decide) (by simp) (fun w' hw' => ?_) (fun A hA40 hf => ?_)
                · have f39 := hf.get (d := 39) (v := .int .i64 ((j : Int) + 1)) (by simp)
                  clear hf
                  simp [Oper.quietAt, Oper.quietUpon, go_sem, f39, hwj]
                refine q_want hf (d := 41) (v := .pointer (some ⟨g, off + j * 3, none⟩)) (e := 32) rfl rfl (by simp) rfl (by decide) (by simp) (fun w' hw' => ?_) (fun A hA41 hf => ?_)
                · have f38 := hf.get (d := 38) (v := .slice (some ⟨g, off, none⟩) n cap) (by simp)
                  have f40 := hf.get (d := 40) (v := .int .i64 (j : Int)) (by simp)
                  clear hf
                  simp [Oper.quietAt, Oper.quietUpon, go_sem, f38, f40, hji]
                refine q_want hf (d := 42) (v := .pointer (some ⟨g, off + j * 3, none⟩)) (e := 32) rfl rfl (by simp) rfl (by decide) (by simp) (fun w' hw' => ?_) (fun A hA42 hf => ?_)
                · have f41 := hf.get (d := 41) (v := .pointer (some ⟨g, off + j * 3, none⟩)) (by simp)
                  clear hf
                  simp [Oper.quietAt, Oper.quietUpon, go_sem, f41]
                refine q_want hf (d := 43) (v := .int .i64 l) (e := 32) rfl rfl (by simp) rfl (by decide) (by simp) (fun w' hw' => ?_) (fun A hA43 hf => ?_)
                · have hc := hS _ hw'
                  have f42 := hf.get (d := 42) (v := .pointer (some ⟨g, off + j * 3, none⟩)) (by simp)
                  clear hf
                  simp [Oper.quietAt, Oper.quietUpon, go_sem, f42, hc]
                refine q_want hf (d := 44) (v := .bool false) (e := 32) rfl rfl (by simp) rfl (by decide) (by simp) (fun w' hw' => ?_) (fun A hA44 hf => ?_)
                · have f37 := hf.get (d := 37) (v := .int .i64 m.i) (by simp)
                  have f43 := hf.get (d := 43) (v := .int .i64 l) (by simp)
                  clear hf
                  simp [Oper.quietAt, Oper.quietUpon, go_sem, f37, f43, hle]
                refine q_want hf (d := 45) (v := .bool false) (e := 29) rfl rfl (by simp) rfl (by decide) (by simp) (fun w' hw' => ?_) (fun A hA45 hf => ?_)
                · have f32 := hf.get (d := 32) (v := .bool true) (by simp)
                  have f44 := hf.get (d := 44) (v := .bool false) (by simp)
                  clear hf
                  simp [Oper.quietAt, Oper.quietUpon, go_sem, f32, f44]
                refine q_step hf (d := 46) (v := .bool false) rfl rfl (by decide) (by simp) (fun w' hw' => ?_) (fun A hA46 hf => ?_)
                · have f29 := hf.get (d := 29) (v := .bool false) (by simp)
                  have f45 := hf.get (d := 45) (v := .bool false) (by simp)
                  clear hf
                  simp [Oper.quietAt, Oper.quietUpon, go_sem, f29, f45]
                refine wpQuiet_nil (fun w' hw' => ?_)
                clear hf
                subst hA46 hA45 hA44 hA43 hA42 hA41 hA40 hA39 hA38 hA37 hA36 hA35 hA34 hA33 hA32 hA31 hA30 hA29 hA28 hA27 hA26 hA25 hA24 hA23 hA22 hA21 hA20 hA19 hA18 hA17 hA16 hA15 hA14 hA13 hA
                simp only [Act.put, List.setIfInBounds_toArray, List.set_cons_succ, List.set_cons_zero]
                go_wp2
                go_roundw
                case rel => exact ⟨j + 1 + 1, by omega, by go_num, ⟨(show mkR _ _ = mkR 0 L by rw [HST.out, h3, show decide (l < m.i ∧ m.i ≤ 100000) = true from decide_eq_true (by omega)]; simp), by rw [HL2.out]; omega⟩, hw'⟩
                case measure => simp [intOf]; omega
        · have hd1 : decide (1 ≤ m.i ∧ m.i ≤ 100000) = false := decide_eq_false h1
          go_wp2
          refine wp_region_quiet (C := fun w' => Below w.heap.size w w') (by kernel_rfl) (by kernel_rfl) (hb1.drew) ?_
          refine q_intro (fun A hA => ?_)
          have hf : Fr 47 A [(0, .slice (some ⟨g, off, none⟩) n cap), (3, .int .i64 (k : Int))] := by subst hA; exact ⟨rfl, by simp⟩
          refine q_step hf (d := 13) (v := .slice (some ⟨g, off, none⟩) n cap) rfl rfl (by decide) (by simp) (fun w' hw' => ?_) (fun A hA13 hf => ?_)
          · have f0 := hf.get (d := 0) (v := .slice (some ⟨g, off, none⟩) n cap) (by simp)
            clear hf
            simp [Oper.quietAt, Oper.quietUpon, go_sem, f0]
          refine q_step hf (d := 14) (v := .int .i64 (k : Int)) rfl rfl (by decide) (by simp) (fun w' hw' => ?_) (fun A hA14 hf => ?_)
          · have f3 := hf.get (d := 3) (v := .int .i64 (k : Int)) (by simp)
            clear hf
            simp [Oper.quietAt, Oper.quietUpon, go_sem, f3]
          refine q_step hf (d := 15) (v := .pointer (some ⟨g, off + k * 3, none⟩)) rfl rfl (by decide) (by simp) (fun w' hw' => ?_) (fun A hA15 hf => ?_)
          · have f13 := hf.get (d := 13) (v := .slice (some ⟨g, off, none⟩) n cap) (by simp)
            have f14 := hf.get (d := 14) (v := .int .i64 (k : Int)) (by simp)
            clear hf
            simp [Oper.quietAt, Oper.quietUpon, go_sem, f13, f14, hki]
          refine q_step hf (d := 16) (v := .pointer (some ⟨g, off + k * 3, none⟩)) rfl rfl (by decide) (by simp) (fun w' hw' => ?_) (fun A hA16 hf => ?_)
          · have f15 := hf.get (d := 15) (v := .pointer (some ⟨g, off + k * 3, none⟩)) (by simp)
            clear hf
            simp [Oper.quietAt, Oper.quietUpon, go_sem, f15]
          refine q_step hf (d := 17) (v := .int .i64 m.i) rfl rfl (by decide) (by simp) (fun w' hw' => ?_) (fun A hA17 hf => ?_)
          · have hc := hS _ hw'
            have f16 := hf.get (d := 16) (v := .pointer (some ⟨g, off + k * 3, none⟩)) (by simp)
            clear hf
            simp [Oper.quietAt, Oper.quietUpon, go_sem, f16, hc]
          refine q_step hf (d := 18) (v := .bool false) rfl rfl (by decide) (by simp) (fun w' hw' => ?_) (fun A hA18 hf => ?_)
          · have f17 := hf.get (d := 17) (v := .int .i64 m.i) (by simp)
            clear hf
            simp [Oper.quietAt, Oper.quietUpon, go_sem, f17]
            exact (l1In_v hd1 _).mono (fun e w'' hq => ⟨hq.1, by rw [hq.2]; exact hw'⟩)
          refine q_step hf (d := 19) (v := .bool true) rfl rfl (by decide) (by simp) (fun w' hw' => ?_) (fun A hA19 hf => ?_)
          · have f18 := hf.get (d := 18) (v := .bool false) (by simp)
            clear hf
            simp [Oper.quietAt, Oper.quietUpon, go_sem, f18]
          refine q_step hf (d := 20) (v := .bool true) rfl rfl (by decide) (by simp) (fun w' hw' => ?_) (fun A hA20 hf => ?_)
          · have f19 := hf.get (d := 19) (v := .bool true) (by simp)
            clear hf
            simp [Oper.quietAt, Oper.quietUpon, go_sem, f19]
          refine q_skip hf (d := 21) (e := 20) (b := true) rfl rfl (by simp) rfl rfl (by decide) (by simp) (fun A hA21 hf => ?_)
          refine q_skip hf (d := 22) (e := 20) (b := true) rfl rfl (by simp) rfl rfl (by decide) (by simp) (fun A hA22 hf => ?_)
          refine q_skip hf (d := 23) (e := 20) (b := true) rfl rfl (by simp) rfl rfl (by decide) (by simp) (fun A hA23 hf => ?_)
          refine q_skip hf (d := 24) (e := 20) (b := true) rfl rfl (by simp) rfl rfl (by decide) (by simp) (fun A hA24 hf => ?_)
          refine q_skip hf (d := 25) (e := 20) (b := true) rfl rfl (by simp) rfl rfl (by decide) (by simp) (fun A hA25 hf => ?_)
          refine q_skip hf (d := 26) (e := 20) (b := true) rfl rfl (by simp) rfl rfl (by decide) (by simp) (fun A hA26 hf => ?_)
          refine q_skip hf (d := 27) (e := 20) (b := true) rfl rfl (by simp) rfl rfl (by decide) (by simp) (fun A hA27 hf => ?_)
          refine q_step hf (d := 28) (v := .bool true) rfl rfl (by decide) (by simp) (fun w' hw' => ?_) (fun A hA28 hf => ?_)
          · have f20 := hf.get (d := 20) (v := .bool true) (by simp)
            clear hf
            simp [Oper.quietAt, Oper.quietUpon, go_sem, f20]
          refine q_step hf (d := 29) (v := .bool true) rfl rfl (by decide) (by simp) (fun w' hw' => ?_) (fun A hA29 hf => ?_)
          · have f28 := hf.get (d := 28) (v := .bool true) (by simp)
            clear hf
            simp [Oper.quietAt, Oper.quietUpon, go_sem, f28]
          refine q_skip hf (d := 30) (e := 29) (b := true) rfl rfl (by simp) rfl rfl (by decide) (by simp) (fun A hA30 hf => ?_)
          refine q_skip hf (d := 31) (e := 29) (b := true) rfl rfl (by simp) rfl rfl (by decide) (by simp) (fun A hA31 hf => ?_)
          refine q_skip hf (d := 32) (e := 29) (b := true) rfl rfl (by simp) rfl rfl (by decide) (by simp) (fun A hA32 hf => ?_)
          refine q_skipU hf (d := 33) (e := 32) rfl rfl (by simp) rfl (by decide) (by simp) (fun A hA33 hf => ?_)
          refine q_skipU hf (d := 34) (e := 32) rfl rfl (by simp) rfl (by decide) (by simp) (fun A hA34 hf => ?_)
          refine q_skipU hf (d := 35) (e := 32) rfl rfl (by simp) rfl (by decide) (by simp) (fun A hA35 hf => ?_)
          refine q_skipU hf (d := 36) (e := 32) rfl rfl (by simp) rfl (by decide) (by simp) (fun A hA36 hf => ?_)
          refine q_skipU hf (d := 37) (e := 32) rfl rfl (by simp) rfl (by decide) (by simp) (fun A hA37 hf => ?_)
          refine q_skipU hf (d := 38) (e := 32) rfl rfl (by simp) rfl (by decide) (by simp) (fun A hA38 hf => ?_)
          refine q_skipU hf (d := 39) (e := 32) rfl rfl (by simp) rfl (by decide) (by simp) (fun A hA39 hf => ?_)
          refine q_skipU hf (d := 40) (e := 32) rfl rfl (by simp) rfl (by decide) (by simp) (fun A hA40 hf => ?_)
          refine q_skipU hf (d := 41) (e := 32) rfl rfl (by simp) rfl (by decide) (by simp) (fun A hA41 hf => ?_)
          refine q_skipU hf (d := 42) (e := 32) rfl rfl (by simp) rfl (by decide) (by simp) (fun A hA42 hf => ?_)
          refine q_skipU hf (d := 43) (e := 32) rfl rfl (by simp) rfl (by decide) (by simp) (fun A hA43 hf => ?_)
          refine q_skipU hf (d := 44) (e := 32) rfl rfl (by simp) rfl (by decide) (by simp) (fun A hA44 hf => ?_)
          refine q_skip hf (d := 45) (e := 29) (b := true) rfl rfl (by simp) rfl rfl (by decide) (by simp) (fun A hA45 hf => ?_)
          refine q_step hf (d := 46) (v := .bool true) rfl rfl (by decide) (by simp) (fun w' hw' => ?_) (fun A hA46 hf => ?_)
          · have f29 := hf.get (d := 29) (v := .bool true) (by simp)
            clear hf
            simp [Oper.quietAt, Oper.quietUpon, go_sem, f29]
          refine wpQuiet_nil (fun w' hw' => ?_)
          clear hf
          subst hA46 hA45 hA44 hA43 hA42 hA41 hA40 hA39 hA38 hA37 hA36 hA35 hA34 hA33 hA32 hA31 hA30 hA29 hA28 hA27 hA26 hA25 hA24 hA23 hA22 hA21 hA20 hA19 hA18 hA17 hA16 hA15 hA14 hA13 hA
          simp only [Act.put, List.setIfInBounds_toArray, List.set_cons_succ, List.set_cons_zero]
          go_wp2
          go_ret
          exact ⟨ret_bool (by rw [HV.out, HST.out]; rw [show decide (l < m.i ∧ m.i ≤ 100000) = false from decide_eq_false (by omega)]; simp), hw'⟩
      · obtain rfl : k = n := by omega
        have e : L.drop k = [] := List.drop_eq_nil_of_le (by rw [HN.out]; exact Nat.le_refl _)
        have HE : Hid (mkR 0 L = true) := (show mkR 0 L = true by rw [← hR.out.1, e]; rfl)
        clear e hR
        go_wp2
        go_ret
        exact ⟨ret_bool (by rw [HV.out, HE.out]), hb1⟩
  · have h60' : (60 : Int) < n := by omega
    have HV : Hid (mksB L = false) := (show mksB L = false by unfold mksB; simp [hn, h60])
    go_enter Tryz.func48, Tryz.ntmps48
    go_wp2
    go_ret
    exact ⟨ret_bool HV.out.symm, Below.refl _ _⟩
theorem l8Marks_v {L : List Mk} {v : Bool} (hv : mksB L = v) (p : Option Addr) (cap : Nat) (n : Nat) (hn : L.length = n) (w : World) (hL : SlG kM w p L) (hb : n ≤ 10000000) :
    Calls Tryz.prog 48 #[.slice p n cap] w fun e w' => e = .returned (.bool v) ∧ Below w.heap.size w w' := by subst hv; exact l8Marks_any p cap L n hn w hL hb
end Go.Proofs.YtipfcmfcdfofmaaGreat
