/-
  RecordsOk, the program's and the spec's.
-/
import Derived.Test.YtppoafggiejdgaaGreatKFq
namespace Go.Proofs.YtppoafggiejdgaaGreat.K
open Go.RowKit Go.Joins
attribute [local go_sem] Oper.semAt_some

theorem recsB_eq {L : List Rc} {n : Nat} (hn : L.length = n) : recsB L = (decide (n ≤ 400) && (L.all recB && riseB L)) := by unfold recsB; rw [hn]
set_option maxHeartbeats 1000000 in
theorem iOk_v {L : List Rc} {v : Bool} (hv : recsB L = v) (p : Option Addr) (cap n : Nat) (hn : L.length = n) (w : World) (hL : SlG kR w p L) (hb0 : n ≤ 10000000) :
    Calls Tryz.prog 41 #[.slice p n cap] w fun e w' => e = .returned (.bool v) ∧ Below w.heap.size w w' := by
  rw [recsB_eq hn] at hv
  have HA : Hid (∀ v, L.all recB = v → Calls Tryz.prog 58 #[.slice p n cap, .func (.func 59) #[] #[]] w fun e w' => e = .returned (.bool v) ∧ Below w.heap.size w w') := fun v h => are_any p cap L n hn w hL hb0 h
  have HR : Hid (∀ W v, Below w.heap.size w W → riseB L = v → Calls Tryz.prog 60 #[.slice p n cap, .func (.func 61) #[] #[]] W fun e w' => e = .returned (.bool v) ∧ Below W.heap.size W w') := fun W v hb h => rises_any p cap L n hn W (hL.step hb) hb0 h
  clear hn hL
  by_cases h4 : n ≤ 400
  · have h4' : (n : Int) ≤ 400 := by omega
    rw [decide_eq_true h4, Bool.true_and] at hv
    cases ha : L.all recB
    · rw [ha, Bool.false_and] at hv
      subst hv
      go_enter Tryz.func41, Tryz.ntmps41
      go_wp2_with (go_at_call 58; refine (HA.out _ ha).mono ?_; rintro e w1 ⟨rfl, hb1⟩)
      go_ret
      exact ⟨rfl, hb1⟩
    · rw [ha, Bool.true_and] at hv
      go_enter Tryz.func41, Tryz.ntmps41
      go_wp2_with (first | (go_at_call 58; refine (HA.out _ ha).mono ?_; rintro e w1 ⟨rfl, hb1⟩) | (go_at_call 60; refine (HR.out _ _ hb1 hv).mono ?_; rintro e w2 ⟨rfl, hb2⟩))
      go_ret
      exact ⟨rfl, bstep hb1 hb2 (Nat.le_refl _)⟩
  · have h4' : ¬ (n : Int) ≤ 400 := by omega
    rw [decide_eq_false h4, Bool.false_and] at hv
    subst hv
    go_enter Tryz.func41, Tryz.ntmps41
    go_wp2
    go_ret
    exact ⟨rfl, Below.refl _ _⟩
theorem rise_snoc {L : List Rc} {k : Nat} {a b : Rc} (h1 : L[k]? = some a) (h2 : L[k + 1]? = some b) (h : riseB (L.take (k + 1)) = true) (hl : lessB a b = true) : riseB (L.take (k + 2)) = true := by
  refine rise_of fun i x y hx hy => ?_
  have hi := (List.getElem?_eq_some_iff.1 hy).1
  rw [List.length_take] at hi
  rw [List.getElem?_take_of_lt (by omega)] at hx hy
  by_cases e : i = k
  · subst e; rw [h1] at hx; rw [h2] at hy; cases hx; cases hy; exact hl
  · exact rise_at h (i := i) (j := i + 1) (by omega) (by rw [List.getElem?_take_of_lt (by omega)]; exact hx) (by rw [List.getElem?_take_of_lt (by omega)]; exact hy)
theorem recs_no1 {L : List Rc} {k : Nat} {r : Rc} (hg : L[k]? = some r) (h : recB r = false) : recsB L = false := by
  unfold recsB; rw [all_no hg h]; simp
theorem recs_no2 {L : List Rc} {k : Nat} {a b : Rc} (h1 : L[k]? = some a) (h2 : L[k + 1]? = some b) (h : lessB a b = false) : recsB L = false := by
  unfold recsB; rw [rise_no h1 h2 h]; simp
set_option maxRecDepth 100000 in
set_option maxHeartbeats 2000000 in
theorem sOk_v {L : List Rc} {v : Bool} (hv : recsB L = v) (p : Option Addr) (cap n : Nat) (hn : L.length = n) (w : World) (hL : SlG kR w p L) (hb0 : n ≤ 10000000) :
    Calls Tryz.prog 32 #[.slice p n cap] w fun e w' => e = .returned (.bool v) ∧ Below w.heap.size w w' := by
  subst hn
  by_cases h4 : L.length ≤ 400
  · have h4' : (L.length : Int) ≤ 400 := by omega
    have h4n : ¬ (L.length : Int) > 400 := by omega
    go_enter Tryz.func32, Tryz.ntmps32
    go_wp2
    go_loopw [3] (fun i wr => ∃ k : Nat, k ≤ L.length ∧ i = .int .i64 k ∧ Hid ((L.take k).all recB = true ∧ riseB (L.take k) = true) ∧ Below w.heap.size w wr) (fun i _ => L.length - (intOf i).toNat)
    case atStart => exact ⟨0, by omega, rfl, ⟨rfl, rfl⟩, Below.refl _ _⟩
    case round =>
      obtain ⟨k, hk, rfl, hall, hb⟩ := hrel
      by_cases hlt : k < L.length
      · have hki : (k : Int) < L.length := by omega
        obtain ⟨g, off, rfl, hC⟩ := hL.at hlt
        have HCC : Hid (CsG kR w g off L) := hC
        have hg := List.getElem?_eq_getElem hlt
        have ht := all_take (f := recB) hlt
        generalize L[k] = r at hg ht
        have HG : Hid (L[k]? = some r ∧ (L.take (k + 1)).all recB = ((L.take k).all recB && recB r)) := ⟨hg, ht⟩
        have hS : ∀ w', Below w.heap.size w w' → (w'.cell? ⟨g, off + k * 5, none⟩ = some (.int .i64 r.t) ∧ w'.cell? ⟨g, off + k * 5 + 1, none⟩ = some (.int .i64 r.i) ∧ w'.cell? ⟨g, off + k * 5 + 2, none⟩ = some (.int .i64 r.x) ∧ w'.cell? ⟨g, off + k * 5 + 3, none⟩ = some (.int .i64 r.y) ∧ w'.cell? ⟨g, off + k * 5 + 4, none⟩ = some (.string r.s)) := fun w' h => (HCC.out.step h).r5 HG.out.1
        clear hg ht hC
        cases hr : recB r
        · have hno := recs_no1 HG.out.1 hr
          go_wp2
          refine wp_region_quiet (C := fun w' => Below w.heap.size w w') (by kernel_rfl) (by kernel_rfl) (hb.drew) ?_
          refine q_intro (fun A hA => ?_)
          have hf : Fr 42 A [(0, .slice (some ⟨g, off, none⟩) L.length cap), (3, .int .i64 (k : Int))] := by subst hA; exact ⟨rfl, by simp⟩
          refine q_step hf (d := 13) (v := .slice (some ⟨g, off, none⟩) L.length cap) rfl rfl (by decide) (by simp) (fun w' hw' => ?_) (fun A hA13 hf => ?_)
          · have f0 := hf.get (d := 0) (v := .slice (some ⟨g, off, none⟩) L.length cap) (by simp)
            clear hf
            simp [Oper.quietAt, Oper.quietUpon, go_sem, f0]
          refine q_step hf (d := 14) (v := .int .i64 (k : Int)) rfl rfl (by decide) (by simp) (fun w' hw' => ?_) (fun A hA14 hf => ?_)
          · have f3 := hf.get (d := 3) (v := .int .i64 (k : Int)) (by simp)
            clear hf
            simp [Oper.quietAt, Oper.quietUpon, go_sem, f3]
          refine q_step hf (d := 15) (v := .pointer (some ⟨g, off + k * 5, none⟩)) rfl rfl (by decide) (by simp) (fun w' hw' => ?_) (fun A hA15 hf => ?_)
          · have f13 := hf.get (d := 13) (v := .slice (some ⟨g, off, none⟩) L.length cap) (by simp)
            have f14 := hf.get (d := 14) (v := .int .i64 (k : Int)) (by simp)
            clear hf
            simp [Oper.quietAt, Oper.quietUpon, go_sem, f13, f14, hki]
          refine q_step hf (d := 16) (v := .agg #[.int .i64 r.t, .int .i64 r.i, .int .i64 r.x, .int .i64 r.y, .string r.s]) rfl rfl (by decide) (by simp) (fun w' hw' => ?_) (fun A hA16 hf => ?_)
          · have hc := hS _ hw'
            have f15 := hf.get (d := 15) (v := .pointer (some ⟨g, off + k * 5, none⟩)) (by simp)
            clear hf
            simp [Oper.quietAt, Oper.quietUpon, go_sem, f15, hc]
          refine q_step hf (d := 17) (v := .bool false) rfl rfl (by decide) (by simp) (fun w' hw' => ?_) (fun A hA17 hf => ?_)
          · have f16 := hf.get (d := 16) (v := .agg #[.int .i64 r.t, .int .i64 r.i, .int .i64 r.x, .int .i64 r.y, .string r.s]) (by simp)
            clear hf
            simp [Oper.quietAt, Oper.quietUpon, go_sem, f16]
            exact (sRec_v (r := r) hr _).mono (fun e w'' hq => ⟨hq.1, bstep hw' hq.2 (Nat.le_refl _)⟩)
          refine q_step hf (d := 18) (v := .bool true) rfl rfl (by decide) (by simp) (fun w' hw' => ?_) (fun A hA18 hf => ?_)
          · have f17 := hf.get (d := 17) (v := .bool false) (by simp)
            clear hf
            simp [Oper.quietAt, Oper.quietUpon, go_sem, f17]
          refine q_step hf (d := 19) (v := .bool true) rfl rfl (by decide) (by simp) (fun w' hw' => ?_) (fun A hA19 hf => ?_)
          · have f18 := hf.get (d := 18) (v := .bool true) (by simp)
            clear hf
            simp [Oper.quietAt, Oper.quietUpon, go_sem, f18]
          refine q_skip hf (d := 20) (e := 19) (b := true) rfl rfl (by simp) rfl rfl (by decide) (by simp) (fun A hA20 hf => ?_)
          refine q_skip hf (d := 21) (e := 19) (b := true) rfl rfl (by simp) rfl rfl (by decide) (by simp) (fun A hA21 hf => ?_)
          refine q_skip hf (d := 22) (e := 19) (b := true) rfl rfl (by simp) rfl rfl (by decide) (by simp) (fun A hA22 hf => ?_)
          refine q_skipU hf (d := 23) (e := 22) rfl rfl (by simp) rfl (by decide) (by simp) (fun A hA23 hf => ?_)
          refine q_skipU hf (d := 24) (e := 22) rfl rfl (by simp) rfl (by decide) (by simp) (fun A hA24 hf => ?_)
          refine q_skipU hf (d := 25) (e := 22) rfl rfl (by simp) rfl (by decide) (by simp) (fun A hA25 hf => ?_)
          refine q_skipU hf (d := 26) (e := 22) rfl rfl (by simp) rfl (by decide) (by simp) (fun A hA26 hf => ?_)
          refine q_skipU hf (d := 27) (e := 22) rfl rfl (by simp) rfl (by decide) (by simp) (fun A hA27 hf => ?_)
          refine q_skipU hf (d := 28) (e := 22) rfl rfl (by simp) rfl (by decide) (by simp) (fun A hA28 hf => ?_)
          refine q_skipU hf (d := 29) (e := 22) rfl rfl (by simp) rfl (by decide) (by simp) (fun A hA29 hf => ?_)
          refine q_skipU hf (d := 30) (e := 22) rfl rfl (by simp) rfl (by decide) (by simp) (fun A hA30 hf => ?_)
          refine q_skipU hf (d := 31) (e := 22) rfl rfl (by simp) rfl (by decide) (by simp) (fun A hA31 hf => ?_)
          refine q_skipU hf (d := 32) (e := 22) rfl rfl (by simp) rfl (by decide) (by simp) (fun A hA32 hf => ?_)
          refine q_skipU hf (d := 33) (e := 22) rfl rfl (by simp) rfl (by decide) (by simp) (fun A hA33 hf => ?_)
          refine q_skipU hf (d := 34) (e := 22) rfl rfl (by simp) rfl (by decide) (by simp) (fun A hA34 hf => ?_)
          refine q_skipU hf (d := 35) (e := 22) rfl rfl (by simp) rfl (by decide) (by simp) (fun A hA35 hf => ?_)
          refine q_skipU hf (d := 36) (e := 22) rfl rfl (by simp) rfl (by decide) (by simp) (fun A hA36 hf => ?_)
          refine q_skipU hf (d := 37) (e := 22) rfl rfl (by simp) rfl (by decide) (by simp) (fun A hA37 hf => ?_)
          refine q_skipU hf (d := 38) (e := 22) rfl rfl (by simp) rfl (by decide) (by simp) (fun A hA38 hf => ?_)
          refine q_skipU hf (d := 39) (e := 22) rfl rfl (by simp) rfl (by decide) (by simp) (fun A hA39 hf => ?_)
          refine q_skip hf (d := 40) (e := 19) (b := true) rfl rfl (by simp) rfl rfl (by decide) (by simp) (fun A hA40 hf => ?_)
          refine q_step hf (d := 41) (v := .bool true) rfl rfl (by decide) (by simp) (fun w' hw' => ?_) (fun A hA41 hf => ?_)
          · have f19 := hf.get (d := 19) (v := .bool true) (by simp)
            clear hf
            simp [Oper.quietAt, Oper.quietUpon, go_sem, f19]
          refine wpQuiet_nil (fun w' hw' => ?_)
          clear hf
          subst hA41 hA40 hA39 hA38 hA37 hA36 hA35 hA34 hA33 hA32 hA31 hA30 hA29 hA28 hA27 hA26 hA25 hA24 hA23 hA22 hA21 hA20 hA19 hA18 hA17 hA16 hA15 hA14 hA13 hA
          simp only [Act.put, List.setIfInBounds_toArray, List.set_cons_succ, List.set_cons_zero]
          go_wp2
          go_ret
          exact ⟨ret_bool (by rw [← hv, hno]), hw'⟩
        · cases k with
          | zero =>
            simp only [Nat.zero_mul, Nat.add_zero] at hS
            have HA : Hid ((L.take (0 + 1)).all recB = true ∧ riseB (L.take (0 + 1)) = true) := ⟨by rw [HG.out.2, hr]; simp, by
              have e : L.take (0 + 1) = [r] := by
                have := HG.out.1
                cases L with
                | nil => simp at this
                | cons a t => simp at this; subst this; rfl
              rw [e]; rfl⟩
            go_wp2
            refine wp_region_quiet (C := fun w' => Below w.heap.size w w') (by kernel_rfl) (by kernel_rfl) (hb.drew) ?_
            refine q_intro (fun A hA => ?_)
            have hf : Fr 42 A [(0, .slice (some ⟨g, off, none⟩) L.length cap), (3, .int .i64 0)] := by subst hA; exact ⟨rfl, by simp⟩
            refine q_step hf (d := 13) (v := .slice (some ⟨g, off, none⟩) L.length cap) rfl rfl (by decide) (by simp) (fun w' hw' => ?_) (fun A hA13 hf => ?_)
            · have f0 := hf.get (d := 0) (v := .slice (some ⟨g, off, none⟩) L.length cap) (by simp)
              clear hf
              simp [Oper.quietAt, Oper.quietUpon, go_sem, f0]
            refine q_step hf (d := 14) (v := .int .i64 0) rfl rfl (by decide) (by simp) (fun w' hw' => ?_) (fun A hA14 hf => ?_)
            · have f3 := hf.get (d := 3) (v := .int .i64 0) (by simp)
              clear hf
              simp [Oper.quietAt, Oper.quietUpon, go_sem, f3]
            refine q_step hf (d := 15) (v := .pointer (some ⟨g, off, none⟩)) rfl rfl (by decide) (by simp) (fun w' hw' => ?_) (fun A hA15 hf => ?_)
            · have f13 := hf.get (d := 13) (v := .slice (some ⟨g, off, none⟩) L.length cap) (by simp)
              have f14 := hf.get (d := 14) (v := .int .i64 0) (by simp)
              clear hf
              simp [Oper.quietAt, Oper.quietUpon, go_sem, f13, f14, hlt]
            refine q_step hf (d := 16) (v := .agg #[.int .i64 r.t, .int .i64 r.i, .int .i64 r.x, .int .i64 r.y, .string r.s]) rfl rfl (by decide) (by simp) (fun w' hw' => ?_) (fun A hA16 hf => ?_)
            · have hc := hS _ hw'
              have f15 := hf.get (d := 15) (v := .pointer (some ⟨g, off, none⟩)) (by simp)
              clear hf
              simp [Oper.quietAt, Oper.quietUpon, go_sem, f15, hc]
            refine q_step hf (d := 17) (v := .bool true) rfl rfl (by decide) (by simp) (fun w' hw' => ?_) (fun A hA17 hf => ?_)
            · have f16 := hf.get (d := 16) (v := .agg #[.int .i64 r.t, .int .i64 r.i, .int .i64 r.x, .int .i64 r.y, .string r.s]) (by simp)
              clear hf
              simp [Oper.quietAt, Oper.quietUpon, go_sem, f16]
              exact (sRec_v (r := r) hr _).mono (fun e w'' hq => ⟨hq.1, bstep hw' hq.2 (Nat.le_refl _)⟩)
            refine q_step hf (d := 18) (v := .bool false) rfl rfl (by decide) (by simp) (fun w' hw' => ?_) (fun A hA18 hf => ?_)
            · have f17 := hf.get (d := 17) (v := .bool true) (by simp)
              clear hf
              simp [Oper.quietAt, Oper.quietUpon, go_sem, f17]
            refine q_step hf (d := 19) (v := .bool false) rfl rfl (by decide) (by simp) (fun w' hw' => ?_) (fun A hA19 hf => ?_)
            · have f18 := hf.get (d := 18) (v := .bool false) (by simp)
              clear hf
              simp [Oper.quietAt, Oper.quietUpon, go_sem, f18]
            refine q_want hf (d := 20) (v := .int .i64 0) (e := 19) rfl rfl (by simp) rfl (by decide) (by simp) (fun w' hw' => ?_) (fun A hA20 hf => ?_)
            · have f3 := hf.get (d := 3) (v := .int .i64 0) (by simp)
              clear hf
              simp [Oper.quietAt, Oper.quietUpon, go_sem, f3]
            refine q_want hf (d := 21) (v := .bool false) (e := 19) rfl rfl (by simp) rfl (by decide) (by simp) (fun w' hw' => ?_) (fun A hA21 hf => ?_)
            · have f20 := hf.get (d := 20) (v := .int .i64 0) (by simp)
              clear hf
              simp [Oper.quietAt, Oper.quietUpon, go_sem, f20]
            refine q_want hf (d := 22) (v := .bool false) (e := 19) rfl rfl (by simp) rfl (by decide) (by simp) (fun w' hw' => ?_) (fun A hA22 hf => ?_)
            · have f21 := hf.get (d := 21) (v := .bool false) (by simp)
              clear hf
              simp [Oper.quietAt, Oper.quietUpon, go_sem, f21]
            refine q_skip hf (d := 23) (e := 22) (b := false) rfl rfl (by simp) rfl rfl (by decide) (by simp) (fun A hA23 hf => ?_)
            refine q_skip hf (d := 24) (e := 22) (b := false) rfl rfl (by simp) rfl rfl (by decide) (by simp) (fun A hA24 hf => ?_)
            refine q_skip hf (d := 25) (e := 22) (b := false) rfl rfl (by simp) rfl rfl (by decide) (by simp) (fun A hA25 hf => ?_)
            refine q_skip hf (d := 26) (e := 22) (b := false) rfl rfl (by simp) rfl rfl (by decide) (by simp) (fun A hA26 hf => ?_)
            refine q_skip hf (d := 27) (e := 22) (b := false) rfl rfl (by simp) rfl rfl (by decide) (by simp) (fun A hA27 hf => ?_)
            refine q_skip hf (d := 28) (e := 22) (b := false) rfl rfl (by simp) rfl rfl (by decide) (by simp) (fun A hA28 hf => ?_)
            refine q_skip hf (d := 29) (e := 22) (b := false) rfl rfl (by simp) rfl rfl (by decide) (by simp) (fun A hA29 hf => ?_)
            refine q_skip hf (d := 30) (e := 22) (b := false) rfl rfl (by simp) rfl rfl (by decide) (by simp) (fun A hA30 hf => ?_)
            refine q_skip hf (d := 31) (e := 22) (b := false) rfl rfl (by simp) rfl rfl (by decide) (by simp) (fun A hA31 hf => ?_)
            refine q_skip hf (d := 32) (e := 22) (b := false) rfl rfl (by simp) rfl rfl (by decide) (by simp) (fun A hA32 hf => ?_)
            refine q_skip hf (d := 33) (e := 22) (b := false) rfl rfl (by simp) rfl rfl (by decide) (by simp) (fun A hA33 hf => ?_)
            refine q_skip hf (d := 34) (e := 22) (b := false) rfl rfl (by simp) rfl rfl (by decide) (by simp) (fun A hA34 hf => ?_)
            refine q_skip hf (d := 35) (e := 22) (b := false) rfl rfl (by simp) rfl rfl (by decide) (by simp) (fun A hA35 hf => ?_)
            refine q_skip hf (d := 36) (e := 22) (b := false) rfl rfl (by simp) rfl rfl (by decide) (by simp) (fun A hA36 hf => ?_)
            refine q_skip hf (d := 37) (e := 22) (b := false) rfl rfl (by simp) rfl rfl (by decide) (by simp) (fun A hA37 hf => ?_)
            refine q_skip hf (d := 38) (e := 22) (b := false) rfl rfl (by simp) rfl rfl (by decide) (by simp) (fun A hA38 hf => ?_)
            refine q_skip hf (d := 39) (e := 22) (b := false) rfl rfl (by simp) rfl rfl (by decide) (by simp) (fun A hA39 hf => ?_)
            refine q_want hf (d := 40) (v := .bool false) (e := 19) rfl rfl (by simp) rfl (by decide) (by simp) (fun w' hw' => ?_) (fun A hA40 hf => ?_)
            · have f22 := hf.get (d := 22) (v := .bool false) (by simp)
              clear hf
              simp [Oper.quietAt, Oper.quietUpon, go_sem, f22]
            refine q_step hf (d := 41) (v := .bool false) rfl rfl (by decide) (by simp) (fun w' hw' => ?_) (fun A hA41 hf => ?_)
            · have f19 := hf.get (d := 19) (v := .bool false) (by simp)
              have f40 := hf.get (d := 40) (v := .bool false) (by simp)
              clear hf
              simp [Oper.quietAt, Oper.quietUpon, go_sem, f19, f40]
            refine wpQuiet_nil (fun w' hw' => ?_)
            clear hf
            subst hA41 hA40 hA39 hA38 hA37 hA36 hA35 hA34 hA33 hA32 hA31 hA30 hA29 hA28 hA27 hA26 hA25 hA24 hA23 hA22 hA21 hA20 hA19 hA18 hA17 hA16 hA15 hA14 hA13 hA
            simp only [Act.put, List.setIfInBounds_toArray, List.set_cons_succ, List.set_cons_zero]
            go_wp2
            go_roundw
            case rel => exact ⟨0 + 1, by omega, by go_num, HA, hw'⟩
            case measure => simp [intOf]; omega
          | succ j =>
            have hz : (0 : Int) < (j : Int) + 1 := by omega
            have hji : (j : Int) < L.length := by omega
            have hki2 : (j : Int) + 1 < L.length := by omega
            have hz2 : (0 : Int) ≤ (j : Int) + 1 := by omega
            have hwj : IntKind.i64.wrap (j : Int) = j := by rw [IntKind.wrap_i64]; omega
            have hj0 : j < L.length := by omega
            have hgq := List.getElem?_eq_getElem hj0
            generalize L[j] = q at hgq
            have hS : ∀ w', Below w.heap.size w w' → ((w'.cell? ⟨g, off + (j + 1) * 5, none⟩ = some (.int .i64 r.t) ∧ w'.cell? ⟨g, off + (j + 1) * 5 + 1, none⟩ = some (.int .i64 r.i) ∧ w'.cell? ⟨g, off + (j + 1) * 5 + 2, none⟩ = some (.int .i64 r.x) ∧ w'.cell? ⟨g, off + (j + 1) * 5 + 3, none⟩ = some (.int .i64 r.y) ∧ w'.cell? ⟨g, off + (j + 1) * 5 + 4, none⟩ = some (.string r.s)) ∧ (w'.cell? ⟨g, off + j * 5, none⟩ = some (.int .i64 q.t) ∧ w'.cell? ⟨g, off + j * 5 + 1, none⟩ = some (.int .i64 q.i) ∧ w'.cell? ⟨g, off + j * 5 + 2, none⟩ = some (.int .i64 q.x) ∧ w'.cell? ⟨g, off + j * 5 + 3, none⟩ = some (.int .i64 q.y) ∧ w'.cell? ⟨g, off + j * 5 + 4, none⟩ = some (.string q.s))) := fun w' h => ⟨hS w' h, (HCC.out.step h).r5 hgq⟩
            cases hle : lessB q r
            · have hno := recs_no2 hgq HG.out.1 hle
              go_wp2
              refine wp_region_quiet (C := fun w' => Below w.heap.size w w') (by kernel_rfl) (by kernel_rfl) (hb.drew) ?_
              refine q_intro (fun A hA => ?_)
              have hf : Fr 42 A [(0, .slice (some ⟨g, off, none⟩) L.length cap), (3, .int .i64 ((j : Int) + 1))] := by subst hA; exact ⟨rfl, by simp⟩
              refine q_step hf (d := 13) (v := .slice (some ⟨g, off, none⟩) L.length cap) rfl rfl (by decide) (by simp) (fun w' hw' => ?_) (fun A hA13 hf => ?_)
              · have f0 := hf.get (d := 0) (v := .slice (some ⟨g, off, none⟩) L.length cap) (by simp)
                clear hf
                simp [Oper.quietAt, Oper.quietUpon, go_sem, f0]
              refine q_step hf (d := 14) (v := .int .i64 ((j : Int) + 1)) rfl rfl (by decide) (by simp) (fun w' hw' => ?_) (fun A hA14 hf => ?_)
              · have f3 := hf.get (d := 3) (v := .int .i64 ((j : Int) + 1)) (by simp)
                clear hf
                simp [Oper.quietAt, Oper.quietUpon, go_sem, f3]
              refine q_step hf (d := 15) (v := .pointer (some ⟨g, off + (j + 1) * 5, none⟩)) rfl rfl (by decide) (by simp) (fun w' hw' => ?_) (fun A hA15 hf => ?_)
              · have f13 := hf.get (d := 13) (v := .slice (some ⟨g, off, none⟩) L.length cap) (by simp)
                have f14 := hf.get (d := 14) (v := .int .i64 ((j : Int) + 1)) (by simp)
                clear hf
                simp [Oper.quietAt, Oper.quietUpon, go_sem, f13, f14, hki2, hz2]
              refine q_step hf (d := 16) (v := .agg #[.int .i64 r.t, .int .i64 r.i, .int .i64 r.x, .int .i64 r.y, .string r.s]) rfl rfl (by decide) (by simp) (fun w' hw' => ?_) (fun A hA16 hf => ?_)
              · have hc := hS _ hw'
                have f15 := hf.get (d := 15) (v := .pointer (some ⟨g, off + (j + 1) * 5, none⟩)) (by simp)
                clear hf
                simp [Oper.quietAt, Oper.quietUpon, go_sem, f15, hc]
              refine q_step hf (d := 17) (v := .bool true) rfl rfl (by decide) (by simp) (fun w' hw' => ?_) (fun A hA17 hf => ?_)
              · have f16 := hf.get (d := 16) (v := .agg #[.int .i64 r.t, .int .i64 r.i, .int .i64 r.x, .int .i64 r.y, .string r.s]) (by simp)
                clear hf
                simp [Oper.quietAt, Oper.quietUpon, go_sem, f16]
                exact (sRec_v (r := r) hr _).mono (fun e w'' hq => ⟨hq.1, bstep hw' hq.2 (Nat.le_refl _)⟩)
              refine q_step hf (d := 18) (v := .bool false) rfl rfl (by decide) (by simp) (fun w' hw' => ?_) (fun A hA18 hf => ?_)
              · have f17 := hf.get (d := 17) (v := .bool true) (by simp)
                clear hf
                simp [Oper.quietAt, Oper.quietUpon, go_sem, f17]
              refine q_step hf (d := 19) (v := .bool false) rfl rfl (by decide) (by simp) (fun w' hw' => ?_) (fun A hA19 hf => ?_)
              · have f18 := hf.get (d := 18) (v := .bool false) (by simp)
                clear hf
                simp [Oper.quietAt, Oper.quietUpon, go_sem, f18]
              refine q_want hf (d := 20) (v := .int .i64 ((j : Int) + 1)) (e := 19) rfl rfl (by simp) rfl (by decide) (by simp) (fun w' hw' => ?_) (fun A hA20 hf => ?_)
              · have f3 := hf.get (d := 3) (v := .int .i64 ((j : Int) + 1)) (by simp)
                clear hf
                simp [Oper.quietAt, Oper.quietUpon, go_sem, f3]
              refine q_want hf (d := 21) (v := .bool true) (e := 19) rfl rfl (by simp) rfl (by decide) (by simp) (fun w' hw' => ?_) (fun A hA21 hf => ?_)
              · have f20 := hf.get (d := 20) (v := .int .i64 ((j : Int) + 1)) (by simp)
                clear hf
                simp [Oper.quietAt, Oper.quietUpon, go_sem, f20, hz]
              refine q_want hf (d := 22) (v := .bool true) (e := 19) rfl rfl (by simp) rfl (by decide) (by simp) (fun w' hw' => ?_) (fun A hA22 hf => ?_)
              · have f21 := hf.get (d := 21) (v := .bool true) (by simp)
                clear hf
                simp [Oper.quietAt, Oper.quietUpon, go_sem, f21]
              refine q_want hf (d := 23) (v := .slice (some ⟨g, off, none⟩) L.length cap) (e := 22) rfl rfl (by simp) rfl (by decide) (by simp) (fun w' hw' => ?_) (fun A hA23 hf => ?_)
              · have f0 := hf.get (d := 0) (v := .slice (some ⟨g, off, none⟩) L.length cap) (by simp)
                clear hf
                simp [Oper.quietAt, Oper.quietUpon, go_sem, f0]
              refine q_want hf (d := 24) (v := .int .i64 ((j : Int) + 1)) (e := 22) rfl rfl (by simp) rfl (by decide) (by simp) (fun w' hw' => ?_) (fun A hA24 hf => ?_)
              · have f3 := hf.get (d := 3) (v := .int .i64 ((j : Int) + 1)) (by simp)
                clear hf
                simp [Oper.quietAt, Oper.quietUpon, go_sem, f3]
              refine q_want hf (d := 25) (v := .int .i64 (j : Int)) (e := 22) rfl rfl (by simp) rfl (by decide) (by simp) (fun w' hw' => ?_) (fun A hA25 hf => ?_)
              · have f24 := hf.get (d := 24) (v := .int .i64 ((j : Int) + 1)) (by simp)
                clear hf
                simp [Oper.quietAt, Oper.quietUpon, go_sem, f24, hwj]
              refine q_want hf (d := 26) (v := .pointer (some ⟨g, off + j * 5, none⟩)) (e := 22) rfl rfl (by simp) rfl (by decide) (by simp) (fun w' hw' => ?_) (fun A hA26 hf => ?_)
              · have f23 := hf.get (d := 23) (v := .slice (some ⟨g, off, none⟩) L.length cap) (by simp)
                have f25 := hf.get (d := 25) (v := .int .i64 (j : Int)) (by simp)
                clear hf
                simp [Oper.quietAt, Oper.quietUpon, go_sem, f23, f25, hji]
              refine q_want hf (d := 27) (v := .agg #[.int .i64 q.t, .int .i64 q.i, .int .i64 q.x, .int .i64 q.y, .string q.s]) (e := 22) rfl rfl (by simp) rfl (by decide) (by simp) (fun w' hw' => ?_) (fun A hA27 hf => ?_)
              · have hc := hS _ hw'
                have f26 := hf.get (d := 26) (v := .pointer (some ⟨g, off + j * 5, none⟩)) (by simp)
                clear hf
                simp [Oper.quietAt, Oper.quietUpon, go_sem, f26, hc]
              refine q_want hf (d := 28) (v := .slice (some ⟨g, off, none⟩) L.length cap) (e := 22) rfl rfl (by simp) rfl (by decide) (by simp) (fun w' hw' => ?_) (fun A hA28 hf => ?_)
              · have f0 := hf.get (d := 0) (v := .slice (some ⟨g, off, none⟩) L.length cap) (by simp)
                clear hf
                simp [Oper.quietAt, Oper.quietUpon, go_sem, f0]
              refine q_want hf (d := 29) (v := .int .i64 ((j : Int) + 1)) (e := 22) rfl rfl (by simp) rfl (by decide) (by simp) (fun w' hw' => ?_) (fun A hA29 hf => ?_)
              · have f3 := hf.get (d := 3) (v := .int .i64 ((j : Int) + 1)) (by simp)
                clear hf
                simp [Oper.quietAt, Oper.quietUpon, go_sem, f3]
              refine q_want hf (d := 30) (v := .pointer (some ⟨g, off + (j + 1) * 5, none⟩)) (e := 22) rfl rfl (by simp) rfl (by decide) (by simp) (fun w' hw' => ?_) (fun A hA30 hf => ?_)
              · have f28 := hf.get (d := 28) (v := .slice (some ⟨g, off, none⟩) L.length cap) (by simp)
                have f29 := hf.get (d := 29) (v := .int .i64 ((j : Int) + 1)) (by simp)
                clear hf
                simp [Oper.quietAt, Oper.quietUpon, go_sem, f28, f29, hki2, hz2]
              refine q_want hf (d := 31) (v := .pointer (some ⟨g, off + (j + 1) * 5, none⟩)) (e := 22) rfl rfl (by simp) rfl (by decide) (by simp) (fun w' hw' => ?_) (fun A hA31 hf => ?_)
              · have f30 := hf.get (d := 30) (v := .pointer (some ⟨g, off + (j + 1) * 5, none⟩)) (by simp)
                clear hf
                simp [Oper.quietAt, Oper.quietUpon, go_sem, f30]
              refine q_want hf (d := 32) (v := .int .i64 r.t) (e := 22) rfl rfl (by simp) rfl (by decide) (by simp) (fun w' hw' => ?_) (fun A hA32 hf => ?_)
              · have hc := hS _ hw'
                have f31 := hf.get (d := 31) (v := .pointer (some ⟨g, off + (j + 1) * 5, none⟩)) (by simp)
                clear hf
                simp [Oper.quietAt, Oper.quietUpon, go_sem, f31, hc]
              refine q_want hf (d := 33) (v := .slice (some ⟨g, off, none⟩) L.length cap) (e := 22) rfl rfl (by simp) rfl (by decide) (by simp) (fun w' hw' => ?_) (fun A hA33 hf => ?_)
              · have f0 := hf.get (d := 0) (v := .slice (some ⟨g, off, none⟩) L.length cap) (by simp)
                clear hf
                simp [Oper.quietAt, Oper.quietUpon, go_sem, f0]
              refine q_want hf (d := 34) (v := .int .i64 ((j : Int) + 1)) (e := 22) rfl rfl (by simp) rfl (by decide) (by simp) (fun w' hw' => ?_) (fun A hA34 hf => ?_)
              · have f3 := hf.get (d := 3) (v := .int .i64 ((j : Int) + 1)) (by simp)
                clear hf
                simp [Oper.quietAt, Oper.quietUpon, go_sem, f3]
              refine q_want hf (d := 35) (v := .pointer (some ⟨g, off + (j + 1) * 5, none⟩)) (e := 22) rfl rfl (by simp) rfl (by decide) (by simp) (fun w' hw' => ?_) (fun A hA35 hf => ?_)
              · have f33 := hf.get (d := 33) (v := .slice (some ⟨g, off, none⟩) L.length cap) (by simp)
                have f34 := hf.get (d := 34) (v := .int .i64 ((j : Int) + 1)) (by simp)
                clear hf
                simp [Oper.quietAt, Oper.quietUpon, go_sem, f33, f34, hki2, hz2]
              refine q_want hf (d := 36) (v := .pointer (some ⟨g, off + (j + 1) * 5 + 1, none⟩)) (e := 22) rfl rfl (by simp) rfl (by decide) (by simp) (fun w' hw' => ?_) (fun A hA36 hf => ?_)
              · have f35 := hf.get (d := 35) (v := .pointer (some ⟨g, off + (j + 1) * 5, none⟩)) (by simp)
                clear hf
                simp [Oper.quietAt, Oper.quietUpon, go_sem, f35]
              refine q_want hf (d := 37) (v := .int .i64 r.i) (e := 22) rfl rfl (by simp) rfl (by decide) (by simp) (fun w' hw' => ?_) (fun A hA37 hf => ?_)
              · have hc := hS _ hw'
                have f36 := hf.get (d := 36) (v := .pointer (some ⟨g, off + (j + 1) * 5 + 1, none⟩)) (by simp)
                clear hf
                simp [Oper.quietAt, Oper.quietUpon, go_sem, f36, hc]
              refine q_want hf (d := 38) (v := .bool false) (e := 22) rfl rfl (by simp) rfl (by decide) (by simp) (fun w' hw' => ?_) (fun A hA38 hf => ?_)
              · have f27 := hf.get (d := 27) (v := .agg #[.int .i64 q.t, .int .i64 q.i, .int .i64 q.x, .int .i64 q.y, .string q.s]) (by simp)
                have f32 := hf.get (d := 32) (v := .int .i64 r.t) (by simp)
                have f37 := hf.get (d := 37) (v := .int .i64 r.i) (by simp)
                clear hf
                simp [Oper.quietAt, Oper.quietUpon, go_sem, f27, f32, f37]
                exact (sLess_v (a := q) (b := r) hle _).mono (fun e w'' hq => ⟨hq.1, bstep hw' hq.2 (Nat.le_refl _)⟩)
              refine q_want hf (d := 39) (v := .bool true) (e := 22) rfl rfl (by simp) rfl (by decide) (by simp) (fun w' hw' => ?_) (fun A hA39 hf => ?_)
              · have f38 := hf.get (d := 38) (v := .bool false) (by simp)
                clear hf
                simp [Oper.quietAt, Oper.quietUpon, go_sem, f38]
              refine q_want hf (d := 40) (v := .bool true) (e := 19) rfl rfl (by simp) rfl (by decide) (by simp) (fun w' hw' => ?_) (fun A hA40 hf => ?_)
              · have f22 := hf.get (d := 22) (v := .bool true) (by simp)
                have f39 := hf.get (d := 39) (v := .bool true) (by simp)
                clear hf
                simp [Oper.quietAt, Oper.quietUpon, go_sem, f22, f39]
              refine q_step hf (d := 41) (v := .bool true) rfl rfl (by decide) (by simp) (fun w' hw' => ?_) (fun A hA41 hf => ?_)
              · have f19 := hf.get (d := 19) (v := .bool false) (by simp)
                have f40 := hf.get (d := 40) (v := .bool true) (by simp)
                clear hf
                simp [Oper.quietAt, Oper.quietUpon, go_sem, f19, f40]
              refine wpQuiet_nil (fun w' hw' => ?_)
              clear hf
              subst hA41 hA40 hA39 hA38 hA37 hA36 hA35 hA34 hA33 hA32 hA31 hA30 hA29 hA28 hA27 hA26 hA25 hA24 hA23 hA22 hA21 hA20 hA19 hA18 hA17 hA16 hA15 hA14 hA13 hA
              simp only [Act.put, List.setIfInBounds_toArray, List.set_cons_succ, List.set_cons_zero]
              go_wp2
              go_ret
              exact ⟨ret_bool (by rw [← hv, hno]), hw'⟩
            · have HA : Hid ((L.take (j + 1 + 1)).all recB = true ∧ riseB (L.take (j + 1 + 1)) = true) := ⟨by rw [HG.out.2, hr, hall.out.1]; rfl, rise_snoc hgq HG.out.1 hall.out.2 hle⟩
              go_wp2
              refine wp_region_quiet (C := fun w' => Below w.heap.size w w') (by kernel_rfl) (by kernel_rfl) (hb.drew) ?_
              refine q_intro (fun A hA => ?_)
              have hf : Fr 42 A [(0, .slice (some ⟨g, off, none⟩) L.length cap), (3, .int .i64 ((j : Int) + 1))] := by subst hA; exact ⟨rfl, by simp⟩
              refine q_step hf (d := 13) (v := .slice (some ⟨g, off, none⟩) L.length cap) rfl rfl (by decide) (by simp) (fun w' hw' => ?_) (fun A hA13 hf => ?_)
              · have f0 := hf.get (d := 0) (v := .slice (some ⟨g, off, none⟩) L.length cap) (by simp)
                clear hf
                simp [Oper.quietAt, Oper.quietUpon, go_sem, f0]
              refine q_step hf (d := 14) (v := .int .i64 ((j : Int) + 1)) rfl rfl (by decide) (by simp) (fun w' hw' => ?_) (fun A hA14 hf => ?_)
              · have f3 := hf.get (d := 3) (v := .int .i64 ((j : Int) + 1)) (by simp)
                clear hf
                simp [Oper.quietAt, Oper.quietUpon, go_sem, f3]
              refine q_step hf (d := 15) (v := .pointer (some ⟨g, off + (j + 1) * 5, none⟩)) rfl rfl (by decide) (by simp) (fun w' hw' => ?_) (fun A hA15 hf => ?_)
              · have f13 := hf.get (d := 13) (v := .slice (some ⟨g, off, none⟩) L.length cap) (by simp)
                have f14 := hf.get (d := 14) (v := .int .i64 ((j : Int) + 1)) (by simp)
                clear hf
                simp [Oper.quietAt, Oper.quietUpon, go_sem, f13, f14, hki2, hz2]
              refine q_step hf (d := 16) (v := .agg #[.int .i64 r.t, .int .i64 r.i, .int .i64 r.x, .int .i64 r.y, .string r.s]) rfl rfl (by decide) (by simp) (fun w' hw' => ?_) (fun A hA16 hf => ?_)
              · have hc := hS _ hw'
                have f15 := hf.get (d := 15) (v := .pointer (some ⟨g, off + (j + 1) * 5, none⟩)) (by simp)
                clear hf
                simp [Oper.quietAt, Oper.quietUpon, go_sem, f15, hc]
              refine q_step hf (d := 17) (v := .bool true) rfl rfl (by decide) (by simp) (fun w' hw' => ?_) (fun A hA17 hf => ?_)
              · have f16 := hf.get (d := 16) (v := .agg #[.int .i64 r.t, .int .i64 r.i, .int .i64 r.x, .int .i64 r.y, .string r.s]) (by simp)
                clear hf
                simp [Oper.quietAt, Oper.quietUpon, go_sem, f16]
                exact (sRec_v (r := r) hr _).mono (fun e w'' hq => ⟨hq.1, bstep hw' hq.2 (Nat.le_refl _)⟩)
              refine q_step hf (d := 18) (v := .bool false) rfl rfl (by decide) (by simp) (fun w' hw' => ?_) (fun A hA18 hf => ?_)
              · have f17 := hf.get (d := 17) (v := .bool true) (by simp)
                clear hf
                simp [Oper.quietAt, Oper.quietUpon, go_sem, f17]
              refine q_step hf (d := 19) (v := .bool false) rfl rfl (by decide) (by simp) (fun w' hw' => ?_) (fun A hA19 hf => ?_)
              · have f18 := hf.get (d := 18) (v := .bool false) (by simp)
                clear hf
                simp [Oper.quietAt, Oper.quietUpon, go_sem, f18]
              refine q_want hf (d := 20) (v := .int .i64 ((j : Int) + 1)) (e := 19) rfl rfl (by simp) rfl (by decide) (by simp) (fun w' hw' => ?_) (fun A hA20 hf => ?_)
              · have f3 := hf.get (d := 3) (v := .int .i64 ((j : Int) + 1)) (by simp)
                clear hf
                simp [Oper.quietAt, Oper.quietUpon, go_sem, f3]
              refine q_want hf (d := 21) (v := .bool true) (e := 19) rfl rfl (by simp) rfl (by decide) (by simp) (fun w' hw' => ?_) (fun A hA21 hf => ?_)
              · have f20 := hf.get (d := 20) (v := .int .i64 ((j : Int) + 1)) (by simp)
                clear hf
                simp [Oper.quietAt, Oper.quietUpon, go_sem, f20, hz]
              refine q_want hf (d := 22) (v := .bool true) (e := 19) rfl rfl (by simp) rfl (by decide) (by simp) (fun w' hw' => ?_) (fun A hA22 hf => ?_)
              · have f21 := hf.get (d := 21) (v := .bool true) (by simp)
                clear hf
                simp [Oper.quietAt, Oper.quietUpon, go_sem, f21]
              refine q_want hf (d := 23) (v := .slice (some ⟨g, off, none⟩) L.length cap) (e := 22) rfl rfl (by simp) rfl (by decide) (by simp) (fun w' hw' => ?_) (fun A hA23 hf => ?_)
              · have f0 := hf.get (d := 0) (v := .slice (some ⟨g, off, none⟩) L.length cap) (by simp)
                clear hf
                simp [Oper.quietAt, Oper.quietUpon, go_sem, f0]
              refine q_want hf (d := 24) (v := .int .i64 ((j : Int) + 1)) (e := 22) rfl rfl (by simp) rfl (by decide) (by simp) (fun w' hw' => ?_) (fun A hA24 hf => ?_)
              · have f3 := hf.get (d := 3) (v := .int .i64 ((j : Int) + 1)) (by simp)
                clear hf
                simp [Oper.quietAt, Oper.quietUpon, go_sem, f3]
              refine q_want hf (d := 25) (v := .int .i64 (j : Int)) (e := 22) rfl rfl (by simp) rfl (by decide) (by simp) (fun w' hw' => ?_) (fun A hA25 hf => ?_)
              · have f24 := hf.get (d := 24) (v := .int .i64 ((j : Int) + 1)) (by simp)
                clear hf
                simp [Oper.quietAt, Oper.quietUpon, go_sem, f24, hwj]
              refine q_want hf (d := 26) (v := .pointer (some ⟨g, off + j * 5, none⟩)) (e := 22) rfl rfl (by simp) rfl (by decide) (by simp) (fun w' hw' => ?_) (fun A hA26 hf => ?_)
              · have f23 := hf.get (d := 23) (v := .slice (some ⟨g, off, none⟩) L.length cap) (by simp)
                have f25 := hf.get (d := 25) (v := .int .i64 (j : Int)) (by simp)
                clear hf
                simp [Oper.quietAt, Oper.quietUpon, go_sem, f23, f25, hji]
              refine q_want hf (d := 27) (v := .agg #[.int .i64 q.t, .int .i64 q.i, .int .i64 q.x, .int .i64 q.y, .string q.s]) (e := 22) rfl rfl (by simp) rfl (by decide) (by simp) (fun w' hw' => ?_) (fun A hA27 hf => ?_)
              · have hc := hS _ hw'
                have f26 := hf.get (d := 26) (v := .pointer (some ⟨g, off + j * 5, none⟩)) (by simp)
                clear hf
                simp [Oper.quietAt, Oper.quietUpon, go_sem, f26, hc]
              refine q_want hf (d := 28) (v := .slice (some ⟨g, off, none⟩) L.length cap) (e := 22) rfl rfl (by simp) rfl (by decide) (by simp) (fun w' hw' => ?_) (fun A hA28 hf => ?_)
              · have f0 := hf.get (d := 0) (v := .slice (some ⟨g, off, none⟩) L.length cap) (by simp)
                clear hf
                simp [Oper.quietAt, Oper.quietUpon, go_sem, f0]
              refine q_want hf (d := 29) (v := .int .i64 ((j : Int) + 1)) (e := 22) rfl rfl (by simp) rfl (by decide) (by simp) (fun w' hw' => ?_) (fun A hA29 hf => ?_)
              · have f3 := hf.get (d := 3) (v := .int .i64 ((j : Int) + 1)) (by simp)
                clear hf
                simp [Oper.quietAt, Oper.quietUpon, go_sem, f3]
              refine q_want hf (d := 30) (v := .pointer (some ⟨g, off + (j + 1) * 5, none⟩)) (e := 22) rfl rfl (by simp) rfl (by decide) (by simp) (fun w' hw' => ?_) (fun A hA30 hf => ?_)
              · have f28 := hf.get (d := 28) (v := .slice (some ⟨g, off, none⟩) L.length cap) (by simp)
                have f29 := hf.get (d := 29) (v := .int .i64 ((j : Int) + 1)) (by simp)
                clear hf
                simp [Oper.quietAt, Oper.quietUpon, go_sem, f28, f29, hki2, hz2]
              refine q_want hf (d := 31) (v := .pointer (some ⟨g, off + (j + 1) * 5, none⟩)) (e := 22) rfl rfl (by simp) rfl (by decide) (by simp) (fun w' hw' => ?_) (fun A hA31 hf => ?_)
              · have f30 := hf.get (d := 30) (v := .pointer (some ⟨g, off + (j + 1) * 5, none⟩)) (by simp)
                clear hf
                simp [Oper.quietAt, Oper.quietUpon, go_sem, f30]
              refine q_want hf (d := 32) (v := .int .i64 r.t) (e := 22) rfl rfl (by simp) rfl (by decide) (by simp) (fun w' hw' => ?_) (fun A hA32 hf => ?_)
              · have hc := hS _ hw'
                have f31 := hf.get (d := 31) (v := .pointer (some ⟨g, off + (j + 1) * 5, none⟩)) (by simp)
                clear hf
                simp [Oper.quietAt, Oper.quietUpon, go_sem, f31, hc]
              refine q_want hf (d := 33) (v := .slice (some ⟨g, off, none⟩) L.length cap) (e := 22) rfl rfl (by simp) rfl (by decide) (by simp) (fun w' hw' => ?_) (fun A hA33 hf => ?_)
              · have f0 := hf.get (d := 0) (v := .slice (some ⟨g, off, none⟩) L.length cap) (by simp)
                clear hf
                simp [Oper.quietAt, Oper.quietUpon, go_sem, f0]
              refine q_want hf (d := 34) (v := .int .i64 ((j : Int) + 1)) (e := 22) rfl rfl (by simp) rfl (by decide) (by simp) (fun w' hw' => ?_) (fun A hA34 hf => ?_)
              · have f3 := hf.get (d := 3) (v := .int .i64 ((j : Int) + 1)) (by simp)
                clear hf
                simp [Oper.quietAt, Oper.quietUpon, go_sem, f3]
              refine q_want hf (d := 35) (v := .pointer (some ⟨g, off + (j + 1) * 5, none⟩)) (e := 22) rfl rfl (by simp) rfl (by decide) (by simp) (fun w' hw' => ?_) (fun A hA35 hf => ?_)
              · have f33 := hf.get (d := 33) (v := .slice (some ⟨g, off, none⟩) L.length cap) (by simp)
                have f34 := hf.get (d := 34) (v := .int .i64 ((j : Int) + 1)) (by simp)
                clear hf
                simp [Oper.quietAt, Oper.quietUpon, go_sem, f33, f34, hki2, hz2]
              refine q_want hf (d := 36) (v := .pointer (some ⟨g, off + (j + 1) * 5 + 1, none⟩)) (e := 22) rfl rfl (by simp) rfl (by decide) (by simp) (fun w' hw' => ?_) (fun A hA36 hf => ?_)
              · have f35 := hf.get (d := 35) (v := .pointer (some ⟨g, off + (j + 1) * 5, none⟩)) (by simp)
                clear hf
                simp [Oper.quietAt, Oper.quietUpon, go_sem, f35]
              refine q_want hf (d := 37) (v := .int .i64 r.i) (e := 22) rfl rfl (by simp) rfl (by decide) (by simp) (fun w' hw' => ?_) (fun A hA37 hf => ?_)
              · have hc := hS _ hw'
                have f36 := hf.get (d := 36) (v := .pointer (some ⟨g, off + (j + 1) * 5 + 1, none⟩)) (by simp)
                clear hf
                simp [Oper.quietAt, Oper.quietUpon, go_sem, f36, hc]
              refine q_want hf (d := 38) (v := .bool true) (e := 22) rfl rfl (by simp) rfl (by decide) (by simp) (fun w' hw' => ?_) (fun A hA38 hf => ?_)
              · have f27 := hf.get (d := 27) (v := .agg #[.int .i64 q.t, .int .i64 q.i, .int .i64 q.x, .int .i64 q.y, .string q.s]) (by simp)
                have f32 := hf.get (d := 32) (v := .int .i64 r.t) (by simp)
                have f37 := hf.get (d := 37) (v := .int .i64 r.i) (by simp)
                clear hf
                simp [Oper.quietAt, Oper.quietUpon, go_sem, f27, f32, f37]
                exact (sLess_v (a := q) (b := r) hle _).mono (fun e w'' hq => ⟨hq.1, bstep hw' hq.2 (Nat.le_refl _)⟩)
              refine q_want hf (d := 39) (v := .bool false) (e := 22) rfl rfl (by simp) rfl (by decide) (by simp) (fun w' hw' => ?_) (fun A hA39 hf => ?_)
              · have f38 := hf.get (d := 38) (v := .bool true) (by simp)
                clear hf
                simp [Oper.quietAt, Oper.quietUpon, go_sem, f38]
              refine q_want hf (d := 40) (v := .bool false) (e := 19) rfl rfl (by simp) rfl (by decide) (by simp) (fun w' hw' => ?_) (fun A hA40 hf => ?_)
              · have f22 := hf.get (d := 22) (v := .bool true) (by simp)
                have f39 := hf.get (d := 39) (v := .bool false) (by simp)
                clear hf
                simp [Oper.quietAt, Oper.quietUpon, go_sem, f22, f39]
              refine q_step hf (d := 41) (v := .bool false) rfl rfl (by decide) (by simp) (fun w' hw' => ?_) (fun A hA41 hf => ?_)
              · have f19 := hf.get (d := 19) (v := .bool false) (by simp)
                have f40 := hf.get (d := 40) (v := .bool false) (by simp)
                clear hf
                simp [Oper.quietAt, Oper.quietUpon, go_sem, f19, f40]
              refine wpQuiet_nil (fun w' hw' => ?_)
              clear hf
              subst hA41 hA40 hA39 hA38 hA37 hA36 hA35 hA34 hA33 hA32 hA31 hA30 hA29 hA28 hA27 hA26 hA25 hA24 hA23 hA22 hA21 hA20 hA19 hA18 hA17 hA16 hA15 hA14 hA13 hA
              simp only [Act.put, List.setIfInBounds_toArray, List.set_cons_succ, List.set_cons_zero]
              go_wp2
              go_roundw
              case rel => exact ⟨j + 1 + 1, by omega, by go_num, HA, hw'⟩
              case measure => simp [intOf]; omega
      · obtain rfl : k = L.length := by omega
        go_wp2
        go_ret
        have := hall.out
        rw [List.take_length] at this
        exact ⟨ret_bool (by rw [← hv]; unfold recsB; rw [this.1, this.2, decide_eq_true h4]; rfl), hb⟩
  · have h4n : (L.length : Int) > 400 := by omega
    have hno : recsB L = false := by unfold recsB; rw [decide_eq_false h4]; rfl
    go_enter Tryz.func32, Tryz.ntmps32
    go_wp2
    go_ret
    exact ⟨ret_bool (by rw [← hv, hno]), Below.refl _ _⟩
end Go.Proofs.YtppoafggiejdgaaGreat.K
