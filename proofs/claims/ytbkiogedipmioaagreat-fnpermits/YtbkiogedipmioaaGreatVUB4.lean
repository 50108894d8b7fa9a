/-
  slices.BinarySearchFunc over Records, and where one stands.
-/
import Derived.Test.YtbkiogedipmioaaGreatVUB3
namespace Go.Proofs.YtbkiogedipmioaaGreat.V.U
open Go.RowKit Go.Joins
attribute [local go_sem] Oper.semAt_some

theorem has5 {W : World} {b : Nat} {a0 a1 a2 a3 a4 : Value} {l : List (Nat × List Value)} (h : Has W ((b, [a0, a1, a2, a3, a4]) :: l)) : W.cell? ⟨b, 0, none⟩ = some a0 ∧ W.cell? ⟨b, 1, none⟩ = some a1 ∧ W.cell? ⟨b, 2, none⟩ = some a2 ∧ W.cell? ⟨b, 3, none⟩ = some a3 ∧ W.cell? ⟨b, 4, none⟩ = some a4 := by
  obtain ⟨⟨_, _, h0, h1, h2, h3, h4, _⟩, _⟩ := h
  exact ⟨h0, h1, h2, h3, h4⟩
theorem pos_of_halves {L : List Rc} {q : Rc} {k : Nat} (hk : k ≤ L.length) (h1 : ∀ j a, j < k → L[j]? = some a → lessB a q = true) (h2 : ∀ j a, k ≤ j → L[j]? = some a → lessB a q = false) : k = pos L q :=
  pos_uniq hk h1 (fun a ha => h2 k a (Nat.le_refl _) ha)
set_option maxRecDepth 100000 in
set_option maxHeartbeats 1500000 in
theorem search_any (p : Option Addr) (cap : Nat) (L : List Rc) (n : Nat) (hn : L.length = n) (w : World) (hL : SlG kR w p L) (hb0 : n ≤ 10000000) (q : Rc) (hr : riseB L = true) {kp : Nat} {b : Bool} (hkp : pos L q = kp) (hbv : isAt L q = b) :
    Calls Tryz.prog 129 #[.slice p n cap, q.v, .func (.func 72) #[] #[]] w fun e w' => e = .returned (.tuple #[.int .i64 (kp : Int), .bool b]) ∧ Below w.heap.size w w' := by
  subst hn
  obtain ⟨qt, qi, qx, qy, qs⟩ := q
  have hst := (St.nil w).push [.int .i64 qt, .int .i64 qi, .int .i64 qx, .int .i64 qy, .string qs] 79
  have HR : Hid (riseB L = true) := hr
  have HK : Hid (pos L ⟨qt, qi, qx, qy, qs⟩ = kp) := hkp
  have HB : Hid (isAt L ⟨qt, qi, qx, qy, qs⟩ = b) := hbv
  clear hr hkp hbv
  go_enter Tryz.func129, Tryz.ntmps129
  go_wp2
  go_loopw [9, 10] (fun s9 s10 wr => ∃ lo hi : Nat, s9 = .int .i64 lo ∧ s10 = .int .i64 hi ∧ lo ≤ hi ∧ hi ≤ L.length ∧ Hid ((∀ j a, j < lo → L[j]? = some a → lessB a ⟨qt, qi, qx, qy, qs⟩ = true) ∧ (∀ j a, hi ≤ j → L[j]? = some a → lessB a ⟨qt, qi, qx, qy, qs⟩ = false)) ∧ St w wr [(w.heap.size, [.int .i64 qt, .int .i64 qi, .int .i64 qx, .int .i64 qy, .string qs])]) (fun s9 s10 _ => (intOf s10).toNat - (intOf s9).toNat)
  case atStart => exact ⟨0, L.length, rfl, rfl, Nat.zero_le _, Nat.le_refl _, ⟨fun j a h => by omega, fun j a h1 h2 => by have := (List.getElem?_eq_some_iff.1 h2).1; omega⟩, hst⟩
  case round =>
    clear hst
    obtain ⟨lo, hi, rfl, rfl, hlh, hhn, hI, hst⟩ := hrel
    obtain ⟨d0, d1, d2, d3, d4⟩ := has5 hst.has
    by_cases hlt : lo < hi
    · obtain ⟨m, hm⟩ : ∃ m, (lo + hi) / 2 = m := ⟨_, rfl⟩
      have hmi : ((lo : Int) + (hi : Int)) / 2 = (m : Int) := by omega
      have hml : m < L.length := by omega
      have hm1 : (m : Int) < L.length := by omega
      obtain ⟨g, off, rfl, hC⟩ := (hL.step hst.bel).at hml
      have hg := List.getElem?_eq_getElem hml
      generalize L[m] = a at hg
      obtain ⟨c0, c1, c2, c3, c4⟩ := hC.r5 hg
      have HG : Hid (L[m]? = some a) := hg
      clear hC hg
      obtain ⟨v, hc⟩ : ∃ v, cmpI a ⟨qt, qi, qx, qy, qs⟩ = v := ⟨_, rfl⟩
      by_cases hv0 : v < 0
      · have hla : Hid (lessB a ⟨qt, qi, qx, qy, qs⟩ = true) := (cmpI_neg.1 (by rw [hc]; exact hv0) : lessB a _ = true)
        go_wp2
        go_region_with ((go_at_call 72; refine (byOwner_v (a := a) (b := ⟨qt, qi, qx, qy, qs⟩) hc _).mono ?_; rintro e w1 ⟨rfl, hb2⟩))
        all_goals
          go_wp2
          go_roundw
          case rel => exact ⟨m + 1, hi, by go_num, rfl, by omega, hhn, ⟨fun j x hj hx => by
            by_cases e : j = m
            · subst e; rw [HG.out] at hx; cases hx; exact hla.out
            · exact less_trans (rise_at HR.out (by omega) hx HG.out) hla.out, hI.out.2⟩, hst.dr.step hb2⟩
          case measure => simp [intOf]; omega
      · have hla : Hid (lessB a ⟨qt, qi, qx, qy, qs⟩ = false) := (cmpI_ge.1 (by rw [hc]; omega) : lessB a _ = false)
        go_wp2
        go_region_with ((go_at_call 72; refine (byOwner_v (a := a) (b := ⟨qt, qi, qx, qy, qs⟩) hc _).mono ?_; rintro e w1 ⟨rfl, hb2⟩))
        all_goals
          go_wp2
          go_roundw
          case rel => exact ⟨lo, m, rfl, rfl, by omega, by omega, ⟨hI.out.1, fun j x hj hx => by
            by_cases e : j = m
            · subst e; rw [HG.out] at hx; cases hx; exact hla.out
            · exact not_less_of (rise_at HR.out (by omega) HG.out hx) hla.out⟩, hst.dr.step hb2⟩
          case measure => simp [intOf]; omega
    · obtain rfl : hi = lo := by omega
      have hkp : hi = pos L ⟨qt, qi, qx, qy, qs⟩ := pos_of_halves hhn hI.out.1 hI.out.2
      rw [HK.out] at hkp
      by_cases hlen : hi < L.length
      · have hm1 : (hi : Int) < L.length := by omega
        obtain ⟨g, off, rfl, hC⟩ := hL.at hlen
        have HCC : Hid (CsG kR w g off L) := hC
        have hg := List.getElem?_eq_getElem hlen
        generalize L[hi] = a at hg
        have hb1 : isAt L ⟨qt, qi, qx, qy, qs⟩ = sameK a ⟨qt, qi, qx, qy, qs⟩ := isAt_get (by rw [HK.out, ← hkp]; exact hg)
        rw [HB.out] at hb1
        have HA : Hid (b = sameK a ⟨qt, qi, qx, qy, qs⟩ ∧ hi = kp) := ⟨hb1, hkp⟩
        clear hC hkp hb1 d0 d1 d2 d3 d4
        obtain ⟨v, hc0⟩ : ∃ v, cmpI a ⟨qt, qi, qx, qy, qs⟩ = v := ⟨_, rfl⟩
        have hS : ∀ w', St w w' [(w.heap.size, [.int .i64 qt, .int .i64 qi, .int .i64 qx, .int .i64 qy, .string qs])] → ((w'.cell? ⟨w.heap.size, 0, none⟩ = some (.int .i64 qt) ∧ w'.cell? ⟨w.heap.size, 1, none⟩ = some (.int .i64 qi) ∧ w'.cell? ⟨w.heap.size, 2, none⟩ = some (.int .i64 qx) ∧ w'.cell? ⟨w.heap.size, 3, none⟩ = some (.int .i64 qy) ∧ w'.cell? ⟨w.heap.size, 4, none⟩ = some (.string qs)) ∧ (w'.cell? ⟨g, off + hi * 5, none⟩ = some (.int .i64 a.t) ∧ w'.cell? ⟨g, off + hi * 5 + 1, none⟩ = some (.int .i64 a.i) ∧ w'.cell? ⟨g, off + hi * 5 + 2, none⟩ = some (.int .i64 a.x) ∧ w'.cell? ⟨g, off + hi * 5 + 3, none⟩ = some (.int .i64 a.y) ∧ w'.cell? ⟨g, off + hi * 5 + 4, none⟩ = some (.string a.s))) := fun w' h => ⟨has5 h.has, (HCC.out.step h.bel).r5 hg⟩
        clear hg
        by_cases hv0 : v = 0
        · subst hv0
          have hs := cmpI_zero.1 hc0
          go_wp2
          refine wp_region_quiet (C := fun w' => St w w' [(w.heap.size, [.int .i64 qt, .int .i64 qi, .int .i64 qx, .int .i64 qy, .string qs])]) (by kernel_rfl) (by kernel_rfl) (hst.dr) ?_
          refine q_intro (fun A hA => ?_)
          have hf : Fr 49 A [(0, .slice (some ⟨g, off, none⟩) L.length cap), (2, .func (.func 72) #[] #[]), (4, .pointer (some ⟨w.heap.size, 0, none⟩)), (8, .int .i64 (L.length : Int)), (9, .int .i64 (hi : Int))] := by subst hA; exact ⟨rfl, by simp⟩
          refine q_step hf (d := 35) (v := .int .i64 (hi : Int)) rfl rfl (by decide) (by simp) (fun w' hw' => ?_) (fun A hA35 hf => ?_)
          · have f9 := hf.get (d := 9) (v := .int .i64 (hi : Int)) (by simp)
            clear hf
            simp [Oper.quietAt, Oper.quietUpon, go_sem, f9]
          refine q_step hf (d := 36) (v := .int .i64 (hi : Int)) rfl rfl (by decide) (by simp) (fun w' hw' => ?_) (fun A hA36 hf => ?_)
          · have f9 := hf.get (d := 9) (v := .int .i64 (hi : Int)) (by simp)
            clear hf
            simp [Oper.quietAt, Oper.quietUpon, go_sem, f9]
          refine q_step hf (d := 37) (v := .int .i64 (L.length : Int)) rfl rfl (by decide) (by simp) (fun w' hw' => ?_) (fun A hA37 hf => ?_)
          · have f8 := hf.get (d := 8) (v := .int .i64 (L.length : Int)) (by simp)
            clear hf
            simp [Oper.quietAt, Oper.quietUpon, go_sem, f8]
          refine q_step hf (d := 38) (v := .bool true) rfl rfl (by decide) (by simp) (fun w' hw' => ?_) (fun A hA38 hf => ?_)
          · have f36 := hf.get (d := 36) (v := .int .i64 (hi : Int)) (by simp)
            have f37 := hf.get (d := 37) (v := .int .i64 (L.length : Int)) (by simp)
            clear hf
            simp [Oper.quietAt, Oper.quietUpon, go_sem, f36, f37, hm1]
          refine q_step hf (d := 39) (v := .bool true) rfl rfl (by decide) (by simp) (fun w' hw' => ?_) (fun A hA39 hf => ?_)
          · have f38 := hf.get (d := 38) (v := .bool true) (by simp)
            clear hf
            simp [Oper.quietAt, Oper.quietUpon, go_sem, f38]
          refine q_want hf (d := 40) (v := .func (.func 72) #[] #[]) (e := 39) rfl rfl (by simp) rfl (by decide) (by simp) (fun w' hw' => ?_) (fun A hA40 hf => ?_)
          · have f2 := hf.get (d := 2) (v := .func (.func 72) #[] #[]) (by simp)
            clear hf
            simp [Oper.quietAt, Oper.quietUpon, go_sem, f2]
          refine q_want hf (d := 41) (v := .slice (some ⟨g, off, none⟩) L.length cap) (e := 39) rfl rfl (by simp) rfl (by decide) (by simp) (fun w' hw' => ?_) (fun A hA41 hf => ?_)
          · have f0 := hf.get (d := 0) (v := .slice (some ⟨g, off, none⟩) L.length cap) (by simp)
            clear hf
            simp [Oper.quietAt, Oper.quietUpon, go_sem, f0]
          refine q_want hf (d := 42) (v := .int .i64 (hi : Int)) (e := 39) rfl rfl (by simp) rfl (by decide) (by simp) (fun w' hw' => ?_) (fun A hA42 hf => ?_)
          · have f9 := hf.get (d := 9) (v := .int .i64 (hi : Int)) (by simp)
            clear hf
            simp [Oper.quietAt, Oper.quietUpon, go_sem, f9]
          refine q_want hf (d := 43) (v := .pointer (some ⟨g, off + hi * 5, none⟩)) (e := 39) rfl rfl (by simp) rfl (by decide) (by simp) (fun w' hw' => ?_) (fun A hA43 hf => ?_)
          · have f41 := hf.get (d := 41) (v := .slice (some ⟨g, off, none⟩) L.length cap) (by simp)
            have f42 := hf.get (d := 42) (v := .int .i64 (hi : Int)) (by simp)
            clear hf
            simp [Oper.quietAt, Oper.quietUpon, go_sem, f41, f42, hm1]
          refine q_want hf (d := 44) (v := .agg #[.int .i64 a.t, .int .i64 a.i, .int .i64 a.x, .int .i64 a.y, .string a.s]) (e := 39) rfl rfl (by simp) rfl (by decide) (by simp) (fun w' hw' => ?_) (fun A hA44 hf => ?_)
          · have hc := hS _ hw'
            have f43 := hf.get (d := 43) (v := .pointer (some ⟨g, off + hi * 5, none⟩)) (by simp)
            clear hf
            simp [Oper.quietAt, Oper.quietUpon, go_sem, f43, hc]
          refine q_want hf (d := 45) (v := .agg #[.int .i64 qt, .int .i64 qi, .int .i64 qx, .int .i64 qy, .string qs]) (e := 39) rfl rfl (by simp) rfl (by decide) (by simp) (fun w' hw' => ?_) (fun A hA45 hf => ?_)
          · have hc := hS _ hw'
            have f4 := hf.get (d := 4) (v := .pointer (some ⟨w.heap.size, 0, none⟩)) (by simp)
            clear hf
            simp [Oper.quietAt, Oper.quietUpon, go_sem, f4, hc]
          refine q_want hf (d := 46) (v := .int .i64 0) (e := 39) rfl rfl (by simp) rfl (by decide) (by simp) (fun w' hw' => ?_) (fun A hA46 hf => ?_)
          · have f40 := hf.get (d := 40) (v := .func (.func 72) #[] #[]) (by simp)
            have f44 := hf.get (d := 44) (v := .agg #[.int .i64 a.t, .int .i64 a.i, .int .i64 a.x, .int .i64 a.y, .string a.s]) (by simp)
            have f45 := hf.get (d := 45) (v := .agg #[.int .i64 qt, .int .i64 qi, .int .i64 qx, .int .i64 qy, .string qs]) (by simp)
            clear hf
            simp [Oper.quietAt, Oper.quietUpon, go_sem, f40, f44, f45]
            exact (byOwner_v (a := a) (b := ⟨qt, qi, qx, qy, qs⟩) hc0 _).mono (fun e w'' hq => ⟨hq.1, hw'.step hq.2⟩)
          refine q_want hf (d := 47) (v := .bool true) (e := 39) rfl rfl (by simp) rfl (by decide) (by simp) (fun w' hw' => ?_) (fun A hA47 hf => ?_)
          · have f46 := hf.get (d := 46) (v := .int .i64 0) (by simp)
            clear hf
            simp [Oper.quietAt, Oper.quietUpon, go_sem, f46]
          refine q_step hf (d := 48) (v := .bool true) rfl rfl (by decide) (by simp) (fun w' hw' => ?_) (fun A hA48 hf => ?_)
          · have f39 := hf.get (d := 39) (v := .bool true) (by simp)
            have f47 := hf.get (d := 47) (v := .bool true) (by simp)
            clear hf
            simp [Oper.quietAt, Oper.quietUpon, go_sem, f39, f47]
          refine q_step hf (d := 6) (v := .int .i64 (hi : Int)) rfl rfl (by decide) (by simp) (fun w' hw' => ?_) (fun A hA6 hf => ?_)
          · have f35 := hf.get (d := 35) (v := .int .i64 (hi : Int)) (by simp)
            clear hf
            simp [Oper.quietAt, Oper.quietUpon, go_sem, f35]
          refine q_step hf (d := 7) (v := .bool true) rfl rfl (by decide) (by simp) (fun w' hw' => ?_) (fun A hA7 hf => ?_)
          · have f48 := hf.get (d := 48) (v := .bool true) (by simp)
            clear hf
            simp [Oper.quietAt, Oper.quietUpon, go_sem, f48]
          refine wpQuiet_nil (fun w' hw' => ?_)
          clear hf
          subst hA7 hA6 hA48 hA47 hA46 hA45 hA44 hA43 hA42 hA41 hA40 hA39 hA38 hA37 hA36 hA35 hA
          simp only [Act.put, List.setIfInBounds_toArray, List.set_cons_succ, List.set_cons_zero]
          go_wp2
          go_ret2
          exact ⟨by rw [HA.out.1, hs, HA.out.2]; rfl, hw'.bel⟩
        · have hs : sameK a ⟨qt, qi, qx, qy, qs⟩ = false := by
            cases e : sameK a ⟨qt, qi, qx, qy, qs⟩
            · rfl
            · rw [cmpI_zero.2 e] at hc0; omega
          have hvb : (v == 0) = false := by simp [hv0]
          go_wp2
          refine wp_region_quiet (C := fun w' => St w w' [(w.heap.size, [.int .i64 qt, .int .i64 qi, .int .i64 qx, .int .i64 qy, .string qs])]) (by kernel_rfl) (by kernel_rfl) (hst.dr) ?_
          refine q_intro (fun A hA => ?_)
          have hf : Fr 49 A [(0, .slice (some ⟨g, off, none⟩) L.length cap), (2, .func (.func 72) #[] #[]), (4, .pointer (some ⟨w.heap.size, 0, none⟩)), (8, .int .i64 (L.length : Int)), (9, .int .i64 (hi : Int))] := by subst hA; exact ⟨rfl, by simp⟩
          refine q_step hf (d := 35) (v := .int .i64 (hi : Int)) rfl rfl (by decide) (by simp) (fun w' hw' => ?_) (fun A hA35 hf => ?_)
          · have f9 := hf.get (d := 9) (v := .int .i64 (hi : Int)) (by simp)
            clear hf
            simp [Oper.quietAt, Oper.quietUpon, go_sem, f9]
          refine q_step hf (d := 36) (v := .int .i64 (hi : Int)) rfl rfl (by decide) (by simp) (fun w' hw' => ?_) (fun A hA36 hf => ?_)
          · have f9 := hf.get (d := 9) (v := .int .i64 (hi : Int)) (by simp)
            clear hf
            simp [Oper.quietAt, Oper.quietUpon, go_sem, f9]
          refine q_step hf (d := 37) (v := .int .i64 (L.length : Int)) rfl rfl (by decide) (by simp) (fun w' hw' => ?_) (fun A hA37 hf => ?_)
          · have f8 := hf.get (d := 8) (v := .int .i64 (L.length : Int)) (by simp)
            clear hf
            simp [Oper.quietAt, Oper.quietUpon, go_sem, f8]
          refine q_step hf (d := 38) (v := .bool true) rfl rfl (by decide) (by simp) (fun w' hw' => ?_) (fun A hA38 hf => ?_)
          · have f36 := hf.get (d := 36) (v := .int .i64 (hi : Int)) (by simp)
            have f37 := hf.get (d := 37) (v := .int .i64 (L.length : Int)) (by simp)
            clear hf
            simp [Oper.quietAt, Oper.quietUpon, go_sem, f36, f37, hm1]
          refine q_step hf (d := 39) (v := .bool true) rfl rfl (by decide) (by simp) (fun w' hw' => ?_) (fun A hA39 hf => ?_)
          · have f38 := hf.get (d := 38) (v := .bool true) (by simp)
            clear hf
            simp [Oper.quietAt, Oper.quietUpon, go_sem, f38]
          refine q_want hf (d := 40) (v := .func (.func 72) #[] #[]) (e := 39) rfl rfl (by simp) rfl (by decide) (by simp) (fun w' hw' => ?_) (fun A hA40 hf => ?_)
          · have f2 := hf.get (d := 2) (v := .func (.func 72) #[] #[]) (by simp)
            clear hf
            simp [Oper.quietAt, Oper.quietUpon, go_sem, f2]
          refine q_want hf (d := 41) (v := .slice (some ⟨g, off, none⟩) L.length cap) (e := 39) rfl rfl (by simp) rfl (by decide) (by simp) (fun w' hw' => ?_) (fun A hA41 hf => ?_)
          · have f0 := hf.get (d := 0) (v := .slice (some ⟨g, off, none⟩) L.length cap) (by simp)
            clear hf
            simp [Oper.quietAt, Oper.quietUpon, go_sem, f0]
          refine q_want hf (d := 42) (v := .int .i64 (hi : Int)) (e := 39) rfl rfl (by simp) rfl (by decide) (by simp) (fun w' hw' => ?_) (fun A hA42 hf => ?_)
          · have f9 := hf.get (d := 9) (v := .int .i64 (hi : Int)) (by simp)
            clear hf
            simp [Oper.quietAt, Oper.quietUpon, go_sem, f9]
          refine q_want hf (d := 43) (v := .pointer (some ⟨g, off + hi * 5, none⟩)) (e := 39) rfl rfl (by simp) rfl (by decide) (by simp) (fun w' hw' => ?_) (fun A hA43 hf => ?_)
          · have f41 := hf.get (d := 41) (v := .slice (some ⟨g, off, none⟩) L.length cap) (by simp)
            have f42 := hf.get (d := 42) (v := .int .i64 (hi : Int)) (by simp)
            clear hf
            simp [Oper.quietAt, Oper.quietUpon, go_sem, f41, f42, hm1]
          refine q_want hf (d := 44) (v := .agg #[.int .i64 a.t, .int .i64 a.i, .int .i64 a.x, .int .i64 a.y, .string a.s]) (e := 39) rfl rfl (by simp) rfl (by decide) (by simp) (fun w' hw' => ?_) (fun A hA44 hf => ?_)
          · have hc := hS _ hw'
            have f43 := hf.get (d := 43) (v := .pointer (some ⟨g, off + hi * 5, none⟩)) (by simp)
            clear hf
            simp [Oper.quietAt, Oper.quietUpon, go_sem, f43, hc]
          refine q_want hf (d := 45) (v := .agg #[.int .i64 qt, .int .i64 qi, .int .i64 qx, .int .i64 qy, .string qs]) (e := 39) rfl rfl (by simp) rfl (by decide) (by simp) (fun w' hw' => ?_) (fun A hA45 hf => ?_)
          · have hc := hS _ hw'
            have f4 := hf.get (d := 4) (v := .pointer (some ⟨w.heap.size, 0, none⟩)) (by simp)
            clear hf
            simp [Oper.quietAt, Oper.quietUpon, go_sem, f4, hc]
          refine q_want hf (d := 46) (v := .int .i64 v) (e := 39) rfl rfl (by simp) rfl (by decide) (by simp) (fun w' hw' => ?_) (fun A hA46 hf => ?_)
          · have f40 := hf.get (d := 40) (v := .func (.func 72) #[] #[]) (by simp)
            have f44 := hf.get (d := 44) (v := .agg #[.int .i64 a.t, .int .i64 a.i, .int .i64 a.x, .int .i64 a.y, .string a.s]) (by simp)
            have f45 := hf.get (d := 45) (v := .agg #[.int .i64 qt, .int .i64 qi, .int .i64 qx, .int .i64 qy, .string qs]) (by simp)
            clear hf
            simp [Oper.quietAt, Oper.quietUpon, go_sem, f40, f44, f45]
            exact (byOwner_v (a := a) (b := ⟨qt, qi, qx, qy, qs⟩) hc0 _).mono (fun e w'' hq => ⟨hq.1, hw'.step hq.2⟩)
          refine q_want hf (d := 47) (v := .bool false) (e := 39) rfl rfl (by simp) rfl (by decide) (by simp) (fun w' hw' => ?_) (fun A hA47 hf => ?_)
          · have f46 := hf.get (d := 46) (v := .int .i64 v) (by simp)
            clear hf
            simp [Oper.quietAt, Oper.quietUpon, go_sem, f46, hvb]
          refine q_step hf (d := 48) (v := .bool false) rfl rfl (by decide) (by simp) (fun w' hw' => ?_) (fun A hA48 hf => ?_)
          · have f39 := hf.get (d := 39) (v := .bool true) (by simp)
            have f47 := hf.get (d := 47) (v := .bool false) (by simp)
            clear hf
            simp [Oper.quietAt, Oper.quietUpon, go_sem, f39, f47]
          refine q_step hf (d := 6) (v := .int .i64 (hi : Int)) rfl rfl (by decide) (by simp) (fun w' hw' => ?_) (fun A hA6 hf => ?_)
          · have f35 := hf.get (d := 35) (v := .int .i64 (hi : Int)) (by simp)
            clear hf
            simp [Oper.quietAt, Oper.quietUpon, go_sem, f35]
          refine q_step hf (d := 7) (v := .bool false) rfl rfl (by decide) (by simp) (fun w' hw' => ?_) (fun A hA7 hf => ?_)
          · have f48 := hf.get (d := 48) (v := .bool false) (by simp)
            clear hf
            simp [Oper.quietAt, Oper.quietUpon, go_sem, f48]
          refine wpQuiet_nil (fun w' hw' => ?_)
          clear hf
          subst hA7 hA6 hA48 hA47 hA46 hA45 hA44 hA43 hA42 hA41 hA40 hA39 hA38 hA37 hA36 hA35 hA
          simp only [Act.put, List.setIfInBounds_toArray, List.set_cons_succ, List.set_cons_zero]
          go_wp2
          go_ret2
          exact ⟨by rw [HA.out.1, hs, HA.out.2]; rfl, hw'.bel⟩
      · obtain rfl : hi = L.length := by omega
        have hb1 : isAt L ⟨qt, qi, qx, qy, qs⟩ = false := isAt_none (by rw [HK.out, ← hkp]; exact List.getElem?_eq_none (Nat.le_refl _))
        rw [HB.out] at hb1
        have HA : Hid (b = false ∧ L.length = kp) := ⟨hb1, hkp⟩
        clear hkp hb1
        go_wp2
        refine wp_region_quiet (C := fun w' => Below w.heap.size w w') (by kernel_rfl) (by kernel_rfl) (hst.bel.drew) ?_
        refine q_intro (fun A hA => ?_)
        have hf : Fr 49 A [(8, .int .i64 (L.length : Int)), (9, .int .i64 (L.length : Int))] := by subst hA; exact ⟨rfl, by simp⟩
        refine q_step hf (d := 35) (v := .int .i64 (L.length : Int)) rfl rfl (by decide) (by simp) (fun w' hw' => ?_) (fun A hA35 hf => ?_)
        · have f9 := hf.get (d := 9) (v := .int .i64 (L.length : Int)) (by simp)
          clear hf
          simp [Oper.quietAt, Oper.quietUpon, go_sem, f9]
        refine q_step hf (d := 36) (v := .int .i64 (L.length : Int)) rfl rfl (by decide) (by simp) (fun w' hw' => ?_) (fun A hA36 hf => ?_)
        · have f9 := hf.get (d := 9) (v := .int .i64 (L.length : Int)) (by simp)
          clear hf
          simp [Oper.quietAt, Oper.quietUpon, go_sem, f9]
        refine q_step hf (d := 37) (v := .int .i64 (L.length : Int)) rfl rfl (by decide) (by simp) (fun w' hw' => ?_) (fun A hA37 hf => ?_)
        · have f8 := hf.get (d := 8) (v := .int .i64 (L.length : Int)) (by simp)
          clear hf
          simp [Oper.quietAt, Oper.quietUpon, go_sem, f8]
        refine q_step hf (d := 38) (v := .bool false) rfl rfl (by decide) (by simp) (fun w' hw' => ?_) (fun A hA38 hf => ?_)
        · have f36 := hf.get (d := 36) (v := .int .i64 (L.length : Int)) (by simp)
          have f37 := hf.get (d := 37) (v := .int .i64 (L.length : Int)) (by simp)
          clear hf
          simp [Oper.quietAt, Oper.quietUpon, go_sem, f36, f37]
        refine q_step hf (d := 39) (v := .bool false) rfl rfl (by decide) (by simp) (fun w' hw' => ?_) (fun A hA39 hf => ?_)
        · have f38 := hf.get (d := 38) (v := .bool false) (by simp)
          clear hf
          simp [Oper.quietAt, Oper.quietUpon, go_sem, f38]
        refine q_skip hf (d := 40) (e := 39) (b := false) rfl rfl (by simp) rfl rfl (by decide) (by simp) (fun A hA40 hf => ?_)
        refine q_skip hf (d := 41) (e := 39) (b := false) rfl rfl (by simp) rfl rfl (by decide) (by simp) (fun A hA41 hf => ?_)
        refine q_skip hf (d := 42) (e := 39) (b := false) rfl rfl (by simp) rfl rfl (by decide) (by simp) (fun A hA42 hf => ?_)
        refine q_skip hf (d := 43) (e := 39) (b := false) rfl rfl (by simp) rfl rfl (by decide) (by simp) (fun A hA43 hf => ?_)
        refine q_skip hf (d := 44) (e := 39) (b := false) rfl rfl (by simp) rfl rfl (by decide) (by simp) (fun A hA44 hf => ?_)
        refine q_skip hf (d := 45) (e := 39) (b := false) rfl rfl (by simp) rfl rfl (by decide) (by simp) (fun A hA45 hf => ?_)
        refine q_skip hf (d := 46) (e := 39) (b := false) rfl rfl (by simp) rfl rfl (by decide) (by simp) (fun A hA46 hf => ?_)
        refine q_skip hf (d := 47) (e := 39) (b := false) rfl rfl (by simp) rfl rfl (by decide) (by simp) (fun A hA47 hf => ?_)
        refine q_step hf (d := 48) (v := .bool false) rfl rfl (by decide) (by simp) (fun w' hw' => ?_) (fun A hA48 hf => ?_)
        · have f39 := hf.get (d := 39) (v := .bool false) (by simp)
          clear hf
          simp [Oper.quietAt, Oper.quietUpon, go_sem, f39]
        refine q_step hf (d := 6) (v := .int .i64 (L.length : Int)) rfl rfl (by decide) (by simp) (fun w' hw' => ?_) (fun A hA6 hf => ?_)
        · have f35 := hf.get (d := 35) (v := .int .i64 (L.length : Int)) (by simp)
          clear hf
          simp [Oper.quietAt, Oper.quietUpon, go_sem, f35]
        refine q_step hf (d := 7) (v := .bool false) rfl rfl (by decide) (by simp) (fun w' hw' => ?_) (fun A hA7 hf => ?_)
        · have f48 := hf.get (d := 48) (v := .bool false) (by simp)
          clear hf
          simp [Oper.quietAt, Oper.quietUpon, go_sem, f48]
        refine wpQuiet_nil (fun w' hw' => ?_)
        clear hf
        subst hA7 hA6 hA48 hA47 hA46 hA45 hA44 hA43 hA42 hA41 hA40 hA39 hA38 hA37 hA36 hA35 hA
        simp only [Act.put, List.setIfInBounds_toArray, List.set_cons_succ, List.set_cons_zero]
        go_wp2
        go_ret2
        exact ⟨by rw [HA.out.1, HA.out.2]; rfl, hw'⟩
end Go.Proofs.YtbkiogedipmioaaGreat.V.U
