/-
  Together, Deepest and Depths: the program's and the spec's.
-/
import Derived.Test.YtgpgmndjkcpaoaaA6
namespace Go.Proofs.Ytgpgmndjkcpaoaa
open Go.RowKit Go.Joins
attribute [local go_sem] Oper.semAt_some

theorem sum_part {m : Nat} {l : List Int} (h : Bd m l) (k : Nat) : 0 ≤ sumI (l.take k) ∧ sumI (l.take k) ≤ 65536 * (m : Int) * (l.length : Int) := by
  have h1 : Bd m (l.take k) := fun z hz => h z (List.mem_of_mem_take hz)
  have h2 := sumI_bd h1
  refine ⟨h2.1, Int.le_trans h2.2 (Int.mul_le_mul_of_nonneg_left ?_ (by omega))⟩
  rw [List.length_take]; omega

set_option maxHeartbeats 2000000 in
theorem iTogether_any (p : Option Addr) (cap : Nat) (L : List T4) (w : World) (hL : Sl4 w p L) (hn : L.length ≤ 1048576) {v : Int} (hv : tgL L = v) :
    Calls Try.prog 11 #[.slice p L.length cap] w fun e w' => e = .returned (.int .i64 v) ∧ Below w.heap.size w w' := by
  cases hs : okL L
  · have hv' : v = -1 := by rw [← hv]; simp [tgL, hs]
    subst hv'
    clear hv
    go_enter Try.func11, Try.ntmps11
    go_wp2_with (go_at_call 43; refine (areRight_v hs _ _ _ hL hn).mono ?_; rintro e w1 ⟨rfl, hb2⟩)
    go_ret
    exact ⟨rfl, hb2⟩
  · have hvv : sumI ((dpsL L).drop 1) = v := by rw [← hv]; simp [tgL, hs]
    have h12 := okL_len hs
    have hbd := (dps_bd hs).drop 1
    have hdl := drop_len (L := L)
    have HAR : Hid (∀ W, Sl4 W p L → Calls Try.prog 43 #[.slice p L.length cap] W fun e w' => e = .returned (.bool true) ∧ Below W.heap.size W w') := fun W h => areRight_v hs p cap W h hn
    have HDP : Hid (∀ W, Sl4 W p L → Calls Try.prog 44 #[.slice p L.length cap] W fun e w' => ∃ g1 cap1, e = .returned (.slice (some ⟨g1, 0, none⟩) L.length cap1) ∧ w'.ownsRow W.heap.size 2 1 (.slice (some ⟨g1, 0, none⟩) L.length cap1) L.length (flat1 ((dpsL L).drop 1)) ∧ Below W.heap.size W w') := fun W h => depths_any p cap L W h hs
    obtain ⟨N, hN⟩ : ∃ N, L.length = N := ⟨_, rfl⟩
    simp only [hN] at HAR HDP h12 hdl ⊢
    clear hv hs hn
    generalize (dpsL L).drop 1 = D at hvv hbd hdl HDP
    have HVV : Hid (sumI D = v) := hvv
    have HDL : Hid (D.length = N) := hdl
    have HSB : Hid (∀ k, 0 ≤ sumI (D.take k) ∧ sumI (D.take k) ≤ 65536 * 600 * 12) := fun k => by
      have h1 := sum_part hbd k
      rw [hdl] at h1
      have : (65536 : Int) * (600 : Nat) * (N : Int) ≤ 65536 * 600 * 12 := Int.mul_le_mul_of_nonneg_left (by omega) (by omega)
      exact ⟨h1.1, Int.le_trans h1.2 this⟩
    have HBD : Hid (Bd 600 D) := hbd
    clear hvv hbd hdl hN
    go_enter Try.func11, Try.ntmps11
    go_wp2_with (first
      | (go_at_call 43; refine (HAR.out _ hL).mono ?_; rintro e w1 ⟨rfl, hb2⟩)
      | (go_at_call 44; refine (HDP.out _ (hL.step hb2)).mono ?_; rintro e w2 ⟨g, cap1, rfl, hO, hb3⟩))
    have hC := own1_cs hO
    have hB : Below w.heap.size w w2 := bstep hb2 hb3 (Nat.le_refl _)
    clear hb2 hb3 hO HAR HDP
    go_loop [3, 12] (fun sv iv => ∃ k : Nat, k ≤ N ∧ iv = .int .i64 k ∧ sv = .int .i64 (sumI (D.take k))) (fun _ iv => N - (intOf iv).toNat)
    case atStart => exact ⟨0, by omega, rfl, rfl⟩
    case round =>
      obtain ⟨k, hk, rfl, rfl⟩ := hrel
      by_cases hlt : k < N
      · have hki : (k : Int) < N := by omega
        have hkD : k < D.length := by rw [HDL.out]; exact hlt
        have x0 := hC.2 k _ (getI_some hkD)
        rw [Nat.zero_add] at x0
        have hst := sumI_take hkD
        have h1 := HSB.out k
        have h2 := HBD.out _ (getD_mem hkD)
        generalize D.getD k 0 = y at x0 hst h2
        have HST : Hid (sumI (D.take (k + 1)) = sumI (D.take k) + y) := hst
        generalize sumI (D.take k) = z at h1 HST
        clear hst
        go_wp2
        go_round
        case rel => exact ⟨k + 1, by omega, by go_num, by rw [HST.out]⟩
        case measure => simp [intOf]; omega
      · obtain rfl : k = N := by omega
        have he : D.take k = D := by rw [← HDL.out, List.take_length]
        rw [he, HVV.out]
        clear he
        go_wp2
        go_ret
        exact ⟨rfl, hB⟩
set_option maxHeartbeats 2000000 in
theorem iDeepest_any (p : Option Addr) (cap : Nat) (L : List T4) (w : World) (hL : Sl4 w p L) (hn : L.length ≤ 1048576) {v : Int} (hv : dpL L = v) :
    Calls Try.prog 13 #[.slice p L.length cap] w fun e w' => e = .returned (.int .i64 v) ∧ Below w.heap.size w w' := by
  cases hs : okL L
  · have hv' : v = -1 := by rw [← hv]; simp [dpL, hs]
    subst hv'
    clear hv
    go_enter Try.func13, Try.ntmps13
    go_wp2_with (go_at_call 43; refine (areRight_v hs _ _ _ hL hn).mono ?_; rintro e w1 ⟨rfl, hb2⟩)
    go_ret
    exact ⟨rfl, hb2⟩
  · have hvv : dpK ((dpsL L).drop 1) L.length = v := by rw [← hv]; simp [dpL, hs]
    have h12 := okL_len hs
    have hbd := (dps_bd hs).drop 1
    have hdl := drop_len (L := L)
    have HAR : Hid (∀ W, Sl4 W p L → Calls Try.prog 43 #[.slice p L.length cap] W fun e w' => e = .returned (.bool true) ∧ Below W.heap.size W w') := fun W h => areRight_v hs p cap W h hn
    have HDP : Hid (∀ W, Sl4 W p L → Calls Try.prog 44 #[.slice p L.length cap] W fun e w' => ∃ g1 cap1, e = .returned (.slice (some ⟨g1, 0, none⟩) L.length cap1) ∧ w'.ownsRow W.heap.size 2 1 (.slice (some ⟨g1, 0, none⟩) L.length cap1) L.length (flat1 ((dpsL L).drop 1)) ∧ Below W.heap.size W w') := fun W h => depths_any p cap L W h hs
    obtain ⟨N, hN⟩ : ∃ N, L.length = N := ⟨_, rfl⟩
    simp only [hN] at HAR HDP h12 hdl hvv ⊢
    clear hv hs hn
    generalize (dpsL L).drop 1 = D at hvv hbd hdl HDP
    have HVV : Hid (dpK D N = v) := hvv
    have HDL : Hid (D.length = N) := hdl
    clear hvv hbd hdl hN
    go_enter Try.func13, Try.ntmps13
    go_wp2_with (first
      | (go_at_call 43; refine (HAR.out _ hL).mono ?_; rintro e w1 ⟨rfl, hb2⟩)
      | (go_at_call 44; refine (HDP.out _ (hL.step hb2)).mono ?_; rintro e w2 ⟨g, cap1, rfl, hO, hb3⟩))
    have hC := own1_cs hO
    have hB : Below w.heap.size w w2 := bstep hb2 hb3 (Nat.le_refl _)
    clear hb2 hb3 hO HAR HDP
    go_loop [3, 12] (fun sv iv => ∃ k : Nat, k ≤ N ∧ iv = .int .i64 k ∧ sv = .int .i64 (dpK D k)) (fun _ iv => N - (intOf iv).toNat)
    case atStart => exact ⟨0, by omega, rfl, rfl⟩
    case round =>
      obtain ⟨k, hk, rfl, rfl⟩ := hrel
      by_cases hlt : k < N
      · have hki : (k : Int) < N := by omega
        have hkD : k < D.length := by rw [HDL.out]; exact hlt
        have x0 := hC.2 k _ (getI_some hkD)
        rw [Nat.zero_add] at x0
        have HST : Hid (dpK D (k + 1) = if 0 < D.getD k 0 then (k : Int) + 1 else dpK D k) := rfl
        generalize D.getD k 0 = y at x0 HST
        generalize dpK D k = z at HST
        by_cases hy : 0 < y
        · go_wp2
          go_round
          case rel => exact ⟨k + 1, by omega, by go_num, by rw [HST.out, if_pos hy]⟩
          case measure => simp [intOf]; omega
        · go_wp2
          go_round
          case rel => exact ⟨k + 1, by omega, by go_num, by rw [HST.out, if_neg hy]⟩
          case measure => simp [intOf]; omega
      · obtain rfl : k = N := by omega
        rw [HVV.out]
        go_wp2
        go_ret
        exact ⟨rfl, hB⟩
set_option maxHeartbeats 2000000 in
theorem iDepths_any (p : Option Addr) (cap : Nat) (L : List T4) (w : World) (hL : Sl4 w p L) (hn : L.length ≤ 1048576) {v : List Int} (hv : dcL L = v) :
    Calls Try.prog 12 #[.slice p L.length cap] w fun e w' => ∃ p1 cap1, e = .returned (.slice p1 v.length cap1) ∧ Ow1 w' w.heap.size (.slice p1 v.length cap1) v ∧ Below w.heap.size w w' := by
  cases hs : okL L
  · have hv' : v = [] := by rw [← hv]; simp [dcL, hs]
    subst hv'
    clear hv
    go_enter Try.func12, Try.ntmps12
    go_wp2_with (go_at_call 43; refine (areRight_v hs _ _ _ hL hn).mono ?_; rintro e w1 ⟨rfl, hb2⟩)
    go_ret
    exact ⟨_, _, rfl, World.ownsRow_nil .., hb2⟩
  · have hvv : (dpsL L).drop 1 = v := by rw [← hv]; simp [dcL, hs]
    have hvl : v.length = L.length := by rw [← hvv]; exact drop_len
    have HAR : Hid (∀ W, Sl4 W p L → Calls Try.prog 43 #[.slice p L.length cap] W fun e w' => e = .returned (.bool true) ∧ Below W.heap.size W w') := fun W h => areRight_v hs p cap W h hn
    have HDP : Hid (∀ W, Sl4 W p L → Calls Try.prog 44 #[.slice p L.length cap] W fun e w' => ∃ g1 cap1, e = .returned (.slice (some ⟨g1, 0, none⟩) L.length cap1) ∧ w'.ownsRow W.heap.size 2 1 (.slice (some ⟨g1, 0, none⟩) L.length cap1) L.length (flat1 ((dpsL L).drop 1)) ∧ Below W.heap.size W w') := fun W h => depths_any p cap L W h hs
    rw [hvv] at HDP
    have HVL : Hid (v.length = L.length) := hvl
    clear hv hs hn hvv hvl
    go_enter Try.func12, Try.ntmps12
    go_wp2_with (first
      | (go_at_call 43; refine (HAR.out _ hL).mono ?_; rintro e w1 ⟨rfl, hb2⟩)
      | (go_at_call 44; refine (HDP.out _ (hL.step hb2)).mono ?_; rintro e w2 ⟨g, cap1, rfl, hO, hb3⟩))
    go_ret
    exact ⟨some ⟨g, 0, none⟩, cap1, by rw [HVL.out]; rfl, by unfold Ow1; rw [HVL.out]; exact own_mono hO hb2.size, bstep hb2 hb3 (Nat.le_refl _)⟩
end Go.Proofs.Ytgpgmndjkcpaoaa
