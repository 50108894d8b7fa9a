/-
  Together, Deepest and Depths: the spec's.
-/
import Derived.Test.YtgpgmndjkcpaoaaA7
namespace Go.Proofs.Ytgpgmndjkcpaoaa
open Go.RowKit Go.Joins
attribute [local go_sem] Oper.semAt_some

set_option maxHeartbeats 2000000 in
theorem sTogether_any (p : Option Addr) (cap : Nat) (L : List T4) (w : World) (hL : Sl4 w p L) (hn : L.length ≤ 1048576) {v : Int} (hv : tgL L = v) :
    Calls Try.prog 15 #[.slice p L.length cap] w fun e w' => e = .returned (.int .i64 v) ∧ Below w.heap.size w w' := by
  cases hs : okL L
  · have hv' : v = -1 := by rw [← hv]; simp [tgL, hs]
    subst hv'
    clear hv
    go_enter Try.func15, Try.ntmps15
    go_wp2_with (go_at_call 45; refine (l7Rects_v hs _ _ _ hL hn).mono ?_; rintro e w1 ⟨rfl, hb2⟩)
    go_ret
    exact ⟨rfl, hb2⟩
  · have hvv : sumI ((dpsL L).drop 1) = v := by rw [← hv]; simp [tgL, hs]
    have h12 := okL_len hs
    have hbd := dps_bd hs
    have hdl := dpsL_len L
    have HAR : Hid (∀ W, Sl4 W p L → Calls Try.prog 45 #[.slice p L.length cap] W fun e w' => e = .returned (.bool true) ∧ Below W.heap.size W w') := fun W h => l7Rects_v hs p cap W h hn
    have HDP : Hid (∀ W, Sl4 W p L → Calls Try.prog 46 #[.slice p L.length cap] W fun e w' => ∃ g1 cap1, e = .returned (.slice (some ⟨g1, 0, none⟩) (L.length + 1) cap1) ∧ w'.ownsRow W.heap.size 2 1 (.slice (some ⟨g1, 0, none⟩) (L.length + 1) cap1) (L.length + 1) (flat1 (dpsL L)) ∧ Below W.heap.size W w') := fun W h => l7Depths_any p cap L W h hs
    obtain ⟨N, hN⟩ : ∃ N, L.length = N := ⟨_, rfl⟩
    simp only [hN] at HAR HDP h12 hdl hvv ⊢
    clear hv hs hn
    generalize dpsL L = E at hvv hbd hdl HDP
    have HDL : Hid (E.length = N + 1) := hdl
    have HVV : Hid (sumI (E.drop 1) = v) := hvv
    have HSB : Hid (∀ k, 0 ≤ sumI ((E.drop 1).take k) ∧ sumI ((E.drop 1).take k) ≤ 65536 * 600 * 12) := fun k => by
      have h1 := sum_part (hbd.drop 1) k
      have h2 : ((E.drop 1).length : Int) ≤ 12 := by rw [List.length_drop, hdl]; omega
      have : (65536 : Int) * (600 : Nat) * ((E.drop 1).length : Int) ≤ 65536 * 600 * 12 := Int.mul_le_mul_of_nonneg_left h2 (by omega)
      exact ⟨h1.1, Int.le_trans h1.2 this⟩
    have HBD : Hid (Bd 600 E) := hbd
    clear hvv hbd hdl hN
    go_enter Try.func15, Try.ntmps15
    go_wp2_with (first
      | (go_at_call 45; refine (HAR.out _ hL).mono ?_; rintro e w1 ⟨rfl, hb2⟩)
      | (go_at_call 46; refine (HDP.out _ (hL.step hb2)).mono ?_; rintro e w2 ⟨g, cap1, rfl, hO, hb3⟩))
    have hC := own1_cs hO
    have hB : Below w.heap.size w w2 := bstep hb2 hb3 (Nat.le_refl _)
    clear hb2 hb3 hO HAR HDP
    go_loop [3, 5] (fun sv iv => ∃ k : Nat, k ≤ N ∧ iv = .int .i64 (k + 1 : Nat) ∧ sv = .int .i64 (sumI ((E.drop 1).take k))) (fun _ iv => N + 1 - (intOf iv).toNat)
    case atStart => exact ⟨0, by omega, rfl, rfl⟩
    case round =>
      obtain ⟨k, hk, rfl, rfl⟩ := hrel
      by_cases hlt : k < N
      · have hki : (k : Int) + 1 < (N : Int) + 1 := by omega
        have hki1 : (k : Int) < N := by omega
        have hkE : k + 1 < E.length := by rw [HDL.out]; omega
        have x0 := hC.2 (k + 1) _ (getI_some hkE)
        rw [Nat.zero_add] at x0
        have hk0 : (0 : Int) ≤ (k : Int) + 1 := by omega
        have hkt : ((k : Int) + 1).toNat = k + 1 := by omega
        have hst := sumI_take (l := E.drop 1) (k := k) (by rw [List.length_drop]; omega)
        rw [drop_get] at hst
        have h1 := HSB.out k
        have h2 := HBD.out _ (getD_mem hkE)
        generalize E.getD (k + 1) 0 = y at x0 hst h2
        have HST : Hid (sumI ((E.drop 1).take (k + 1)) = sumI ((E.drop 1).take k) + y) := hst
        generalize sumI ((E.drop 1).take k) = z at h1 HST
        clear hst
        go_wp2
        go_round
        case rel => exact ⟨k + 1, by omega, by go_num, by rw [HST.out]⟩
        case measure => simp [intOf]; omega
      · obtain rfl : k = N := by omega
        have he : (E.drop 1).take k = E.drop 1 := List.take_of_length_le (by rw [List.length_drop, HDL.out]; omega)
        rw [he, HVV.out]
        clear he
        go_wp2
        go_ret
        exact ⟨rfl, hB⟩

set_option maxHeartbeats 2000000 in
theorem sDeepest_any (p : Option Addr) (cap : Nat) (L : List T4) (w : World) (hL : Sl4 w p L) (hn : L.length ≤ 1048576) {v : Int} (hv : dpL L = v) :
    Calls Try.prog 18 #[.slice p L.length cap] w fun e w' => e = .returned (.int .i64 v) ∧ Below w.heap.size w w' := by
  cases hs : okL L
  · have hv' : v = -1 := by rw [← hv]; simp [dpL, hs]
    subst hv'
    clear hv
    go_enter Try.func18, Try.ntmps18
    go_wp2_with (go_at_call 45; refine (l7Rects_v hs _ _ _ hL hn).mono ?_; rintro e w1 ⟨rfl, hb2⟩)
    go_ret
    exact ⟨rfl, hb2⟩
  · have hvv : dpK ((dpsL L).drop 1) L.length = v := by rw [← hv]; simp [dpL, hs]
    have h12 := okL_len hs
    have hbd := dps_bd hs
    have hdl := dpsL_len L
    have HAR : Hid (∀ W, Sl4 W p L → Calls Try.prog 45 #[.slice p L.length cap] W fun e w' => e = .returned (.bool true) ∧ Below W.heap.size W w') := fun W h => l7Rects_v hs p cap W h hn
    have HDP : Hid (∀ W, Sl4 W p L → Calls Try.prog 46 #[.slice p L.length cap] W fun e w' => ∃ g1 cap1, e = .returned (.slice (some ⟨g1, 0, none⟩) (L.length + 1) cap1) ∧ w'.ownsRow W.heap.size 2 1 (.slice (some ⟨g1, 0, none⟩) (L.length + 1) cap1) (L.length + 1) (flat1 (dpsL L)) ∧ Below W.heap.size W w') := fun W h => l7Depths_any p cap L W h hs
    obtain ⟨N, hN⟩ : ∃ N, L.length = N := ⟨_, rfl⟩
    simp only [hN] at HAR HDP h12 hdl hvv ⊢
    clear hv hs hn
    generalize dpsL L = E at hvv hbd hdl HDP
    have HDL : Hid (E.length = N + 1) := hdl
    have HVV : Hid (dpK (E.drop 1) N = v) := hvv
    have HSB : Hid (∀ k, 0 ≤ sumI ((E.drop 1).take k) ∧ sumI ((E.drop 1).take k) ≤ 65536 * 600 * 12) := fun k => by
      have h1 := sum_part (hbd.drop 1) k
      have h2 : ((E.drop 1).length : Int) ≤ 12 := by rw [List.length_drop, hdl]; omega
      have : (65536 : Int) * (600 : Nat) * ((E.drop 1).length : Int) ≤ 65536 * 600 * 12 := Int.mul_le_mul_of_nonneg_left h2 (by omega)
      exact ⟨h1.1, Int.le_trans h1.2 this⟩
    have HBD : Hid (Bd 600 E) := hbd
    clear hvv hbd hdl hN
    go_enter Try.func18, Try.ntmps18
    go_wp2_with (first
      | (go_at_call 45; refine (HAR.out _ hL).mono ?_; rintro e w1 ⟨rfl, hb2⟩)
      | (go_at_call 46; refine (HDP.out _ (hL.step hb2)).mono ?_; rintro e w2 ⟨g, cap1, rfl, hO, hb3⟩))
    have hC := own1_cs hO
    have hB : Below w.heap.size w w2 := bstep hb2 hb3 (Nat.le_refl _)
    clear hb2 hb3 hO HAR HDP
    go_loop [3, 5] (fun sv iv => ∃ k : Nat, k ≤ N ∧ iv = .int .i64 (k + 1 : Nat) ∧ sv = .int .i64 (dpK (E.drop 1) k)) (fun _ iv => N + 1 - (intOf iv).toNat)
    case atStart => exact ⟨0, by omega, rfl, rfl⟩
    case round =>
      obtain ⟨k, hk, rfl, rfl⟩ := hrel
      by_cases hlt : k < N
      · have hki : (k : Int) + 1 < (N : Int) + 1 := by omega
        have hki1 : (k : Int) < N := by omega
        have hkE : k + 1 < E.length := by rw [HDL.out]; omega
        have x0 := hC.2 (k + 1) _ (getI_some hkE)
        rw [Nat.zero_add] at x0
        have hk0 : (0 : Int) ≤ (k : Int) + 1 := by omega
        have hkt : ((k : Int) + 1).toNat = k + 1 := by omega
        have hst : dpK (E.drop 1) (k + 1) = if 0 < (E.drop 1).getD k 0 then (k : Int) + 1 else dpK (E.drop 1) k := rfl
        rw [drop_get] at hst
        have HST : Hid (dpK (E.drop 1) (k + 1) = if 0 < E.getD (k + 1) 0 then (k : Int) + 1 else dpK (E.drop 1) k) := hst
        clear hst
        generalize E.getD (k + 1) 0 = y at x0 HST
        generalize dpK (E.drop 1) k = z at HST
        by_cases hy : 0 < y
        · go_wp2
          go_round
          case rel => exact ⟨k + 1, by omega, by go_num, by rw [HST.out, if_pos hy]; first | rfl | simp⟩
          case measure => simp [intOf]; omega
        · go_wp2
          go_round
          case rel => exact ⟨k + 1, by omega, by go_num, by rw [HST.out, if_neg hy]⟩
          case measure => simp [intOf]; omega
      · obtain rfl : k = N := by omega
        rw [HVV.out]
        go_wp2
        go_ret
        exact ⟨rfl, hB⟩

theorem cap_of {W : World} {base e s n g cap : Nat} {xs : List Value} (h : W.ownsRow base e s (.slice (some ⟨g, 0, none⟩) n cap) n xs) : n ≤ cap := by
  rcases h.2 with ⟨h1, _⟩ | ⟨_, _, _, h1, _, _, h2, _⟩
  · cases h1
  · injection h1 with _ _ h1; omega
set_option maxHeartbeats 2000000 in
theorem sDepths_any (p : Option Addr) (cap : Nat) (L : List T4) (w : World) (hL : Sl4 w p L) (hn : L.length ≤ 1048576) {v : List Int} (hv : dcL L = v) :
    Calls Try.prog 17 #[.slice p L.length cap] w fun e w' => ∃ p1 cap1, e = .returned (.slice p1 v.length cap1) ∧ Ow1 w' w.heap.size (.slice p1 v.length cap1) v ∧ Below w.heap.size w w' := by
  cases hs : okL L
  · have hv' : v = [] := by rw [← hv]; simp [dcL, hs]
    subst hv'
    clear hv
    go_enter Try.func17, Try.ntmps17
    go_wp2_with (go_at_call 45; refine (l7Rects_v hs _ _ _ hL hn).mono ?_; rintro e w1 ⟨rfl, hb2⟩)
    go_ret
    exact ⟨_, _, rfl, own_mono (ow1_new _) hb2.size, hb2.alloc hb2.size _⟩
  · have hvv : (dpsL L).drop 1 = v := by rw [← hv]; simp [dcL, hs]
    have hvl : v.length = L.length := by rw [← hvv]; exact drop_len
    have h12 := okL_len hs
    have HAR : Hid (∀ W, Sl4 W p L → Calls Try.prog 45 #[.slice p L.length cap] W fun e w' => e = .returned (.bool true) ∧ Below W.heap.size W w') := fun W h => l7Rects_v hs p cap W h hn
    have HDP : Hid (∀ W, Sl4 W p L → Calls Try.prog 46 #[.slice p L.length cap] W fun e w' => ∃ g1 cap1, e = .returned (.slice (some ⟨g1, 0, none⟩) (L.length + 1) cap1) ∧ w'.ownsRow W.heap.size 2 1 (.slice (some ⟨g1, 0, none⟩) (L.length + 1) cap1) (L.length + 1) (flat1 (dpsL L)) ∧ Below W.heap.size W w') := fun W h => l7Depths_any p cap L W h hs
    obtain ⟨N, hN⟩ : ∃ N, L.length = N := ⟨_, rfl⟩
    simp only [hN] at HAR HDP h12 hvl ⊢
    generalize dpsL L = E at hvv HDP
    have HVV : Hid (E.drop 1 = v) := hvv
    have HVL : Hid (v.length = N) := hvl
    clear hv hs hn hvv hvl hN
    go_enter Try.func17, Try.ntmps17
    go_upto_region 3 with (go_at_call 45; refine (HAR.out _ hL).mono ?_; rintro e w1 ⟨rfl, hb2⟩)
    have hLA := (hL.step hb2).step (below_alloc1 w1 (.cells #[] 2))
    have hN1 := ow1_new w1
    have hbA := hb2.alloc hb2.size (.cells #[] 2)
    by_cases hN0 : N = 0
    · subst hN0
      have hv0 : v = [] := List.eq_nil_of_length_eq_zero HVL.out
      subst hv0
      go_wp2_with (first
        | (go_at_call 46; refine (HDP.out _ hLA).mono ?_; rintro e w2 ⟨g, cap1, rfl, hO, hb3⟩; have hcp := cap_of hO; have hcpi : (1 : Int) ≤ cap1 := (by omega); have hbB := bstep hbA hb3 (Nat.le_refl _); have hN2 := own_of_below hN1 hb3; by_cases hc1 : cap1 = 1)
        | (at_builtin; refine wpList_ap1 rfl _ _ rfl w1.heap.size w1.heap.size 0 0 0 [] [] rfl hN2 _ _ 0 rfl rfl (fun j u hj => by simp [flat1] at hj) rfl (by omega) (by have := hb3.size; simp at this; omega) ?_; intro g4 cap4 w4 hO4 hg4 ha4; have hB4 := bel_grown1 hbB hg4 (fun r hr => by cases hr; exact hb2.size) (Nat.le_refl _)))
      all_goals
        go_ret
        exact ⟨some ⟨g4, 0, none⟩, cap4, rfl, own_mono hO4 hb2.size, hB4⟩
    · have hEl : ∀ {W : World} {base g cap1 : Nat}, W.ownsRow base 2 1 (.slice (some ⟨g, 0, none⟩) (N + 1) cap1) (N + 1) (flat1 E) → ∀ j u, (flat1 v)[j]? = some u → W.cell? ((⟨g, 1, none⟩ : Addr).add j) = some u := by
        intro W base g cap1 h
        have := cs_news (own1_cs h) 1 N
        rw [HVV.out, List.take_of_length_le (by rw [HVL.out]; exact Nat.le_refl _)] at this
        exact this
      have HEL : Hid (∀ {W : World} {base g cap1 : Nat}, W.ownsRow base 2 1 (.slice (some ⟨g, 0, none⟩) (N + 1) cap1) (N + 1) (flat1 E) → ∀ j u, (flat1 v)[j]? = some u → W.cell? ((⟨g, 1, none⟩ : Addr).add j) = some u) := hEl
      clear hEl
      go_wp2_with (first
        | (go_at_call 46; refine (HDP.out _ hLA).mono ?_; rintro e w2 ⟨g, cap1, rfl, hO, hb3⟩; have hcp := cap_of hO; have hcpi : (1 : Int) ≤ cap1 := (by omega); have hc1 : ¬ cap1 = 1 := (by omega); have hcpj : (N : Int) + 1 ≤ cap1 := (by omega); have hbB := bstep hbA hb3 (Nat.le_refl _); have hN2 := own_of_below hN1 hb3)
        | (at_builtin; refine wpList_ap1 rfl _ _ rfl w1.heap.size w1.heap.size 0 0 N [] v rfl hN2 _ _ N rfl HVL.out (HEL.out hO) (by omega) (by omega) (by have := hb3.size; simp at this; omega) ?_; intro g4 cap4 w4 hO4 hg4 ha4; have hB4 := bel_grown1 hbB hg4 (fun r hr => by cases hr; exact hb2.size) (Nat.le_refl _)))
      go_ret
      exact ⟨some ⟨g4, 0, none⟩, cap4, by rw [HVL.out]; rfl, by unfold Ow1; rw [HVL.out]; exact own_mono hO4 hb2.size, hB4⟩
end Go.Proofs.Ytgpgmndjkcpaoaa
