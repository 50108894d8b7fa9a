/-
  down: what lies at the top goes down to its place.
-/
import Derived.Test.YtocfdmlkicndoaaHA6
namespace Go.Proofs.Ytocfdmlkicndoaa
open Go.RowKit Go.Joins
attribute [local go_sem] Oper.semAt_some

theorem getD_app {H : List P3} {m : P3} {k : Nat} (hk : k < H.length) : (H ++ [m]).getD k zp = H.getD k zp := by simp [List.getD, List.getElem?_append_left hk]
theorem Hp.mless {b g cap n : Nat} {L : List P3} {w : World} (h : Hp w b g cap L) (hl : L.length = n) : (method 254 54 (.pointer (some ⟨b, 0, none⟩)) "Less").run Try.prog w = .ok (107, .slice (some ⟨g, 0, none⟩) n cap) w := by
  subst hl; exact m_less h.hd
theorem Hp.mswap {b g cap n : Nat} {L : List P3} {w : World} (h : Hp w b g cap L) (hl : L.length = n) : (method 254 54 (.pointer (some ⟨b, 0, none⟩)) "Swap").run Try.prog w = .ok (110, .slice (some ⟨g, 0, none⟩) n cap) w := by
  subst hl; exact m_swap h.hd
theorem less_d {b g cap n : Nat} {H : List P3} {m : P3} {i j : Nat} {v : Bool} {w : World} (h : Hp w b g cap (H ++ [m])) (hl : (H ++ [m]).length = n) (hi : i < H.length) (hj : j < H.length) (hv : ltP (H.getD i zp) (H.getD j zp) = v) :
    Calls Try.prog 107 #[.slice (some ⟨g, 0, none⟩) n cap, .int .i64 i, .int .i64 j] w fun e w' => e = .returned (.bool v) ∧ Below w.heap.size w w' := by
  subst hl
  exact less_h h (by simp; omega) (by simp; omega) (by rw [getD_app hi, getD_app hj]; exact hv)
theorem swap_d {b g cap n : Nat} {H : List P3} {m : P3} {i j : Nat} {w : World} (h : Hp w b g cap (H ++ [m])) (hl : (H ++ [m]).length = n) (hi : i < H.length) (hj : j < H.length) :
    Calls Try.prog 110 #[.slice (some ⟨g, 0, none⟩) n cap, .int .i64 i, .int .i64 j] w fun e w' => (∃ v, e = .returned v) ∧ Hp w' b g cap (swp H i j ++ [m]) ∧ Tn b g w g w' := by
  subst hl
  rw [← swp_append hi hj]
  exact swap_any b g cap (H ++ [m]) i j w h (by simp; omega) (by simp; omega)
theorem DownInv.end1 {H : List P3} {i : Nat} (h : DownInv H i) (hn : H.length ≤ 2 * i + 1) : isHeap H := h.done (fun k h0 hk e => by omega)
theorem kids {H : List P3} {i j : Nat} (hj : (j = 2 * i + 1 ∧ (2 * i + 2 < H.length → ltP (H.getD (2 * i + 2) zp) (H.getD (2 * i + 1) zp) = false)) ∨ (j = 2 * i + 2 ∧ ltP (H.getD (2 * i + 2) zp) (H.getD (2 * i + 1) zp) = true)) : ∀ k, 0 < k → k < H.length → (k - 1) / 2 = i → leP (H.getD j zp) (H.getD k zp) := by
  intro k h0 hk e
  have hk' : k = 2 * i + 1 ∨ k = 2 * i + 2 := by omega
  rcases hj with ⟨rfl, hj⟩ | ⟨rfl, hj⟩
  · rcases hk' with rfl | rfl
    · exact leP_refl _
    · exact hj hk
  · rcases hk' with rfl | rfl
    · exact leP_of_lt hj
    · exact leP_refl _

set_option maxRecDepth 100000 in
set_option maxHeartbeats 4000000 in
theorem down_any (b g cap : Nat) (H : List P3) (m : P3) (w : World) (h : Hp w b g cap (H ++ [m])) (hu : DownInv H 0) (hn : H.length ≤ 1000000) :
    Calls Try.prog 67 #[.iface 54 (.pointer (some ⟨b, 0, none⟩)), .int .i64 0, .int .i64 H.length] w fun e w' => (∃ v, e = .returned v) ∧ ∃ M, M.Perm H ∧ isHeap M ∧ Hp w' b g cap (M ++ [m]) ∧ Tn b g w g w' := by
  obtain ⟨N, hN⟩ : ∃ N, H.length = N := ⟨_, rfl⟩
  have HN : Hid (H.length = N) := hN
  rw [hN] at hn ⊢
  clear hN
  go_enter Try.func67, Try.ntmps67
  go_wp2
  go_loopw [7] (fun iv wr => ∃ (i : Nat) (M : List P3), iv = .int .i64 i ∧ i ≤ N ∧ M.Perm H ∧ DownInv M i ∧ Hp wr b g cap (M ++ [m]) ∧ Tn b g w g wr) (fun iv _ => N - (intOf iv).toNat)
  case atStart => exact ⟨0, H, rfl, by omega, .refl _, hu, h, .refl _ _ _⟩
  case round =>
    obtain ⟨i, M, rfl, hi, hP, hI, hH, hT⟩ := hrel
    have HM : Hid (M.length = N) := hP.length_eq.trans HN.out
    clear h hu
    by_cases h1 : 2 * i + 1 < N
    · obtain ⟨c1, hc1⟩ : ∃ c, 2 * i + 1 = c := ⟨_, rfl⟩
      obtain ⟨c2, hc2⟩ : ∃ c, c1 + 1 = c := ⟨_, rfl⟩
      have e1 : 2 * (i : Int) + 1 = (c1 : Int) := by omega
      have e2 : (c1 : Int) + 1 = (c2 : Int) := by omega
      have hMl := HM.out
      have hc1M : c1 < M.length := by omega
      have hiM : i < M.length := by omega
      have q1 : (c1 : Int) < N := by omega
      have q2 : ¬ (c1 : Int) < 0 := by omega
      have hb1 : c1 ≤ 1000000 := by omega
      have H1 : Hid (2 * i + 1 = c1) := hc1
      have H2 : Hid (c1 + 1 = c2) := hc2
      obtain ⟨n1, hn1⟩ : ∃ n, (M ++ [m]).length = n := ⟨_, rfl⟩
      have L1 : Hid ((M ++ [m]).length = n1) := hn1
      clear hn1
      have hm0 := hH.mless L1.out
      by_cases h2 : c2 < N
      · have hc2M : c2 < M.length := by omega
        have q3 : (c2 : Int) < N := by omega
        clear hc1 hc2 hMl
        have f1 : True := trivial
        cases hv2 : ltP (M.getD c2 zp) (M.getD c1 zp)
        · have hkid := kids (H := M) (i := i) (j := c1) (.inl ⟨H1.out.symm, fun _ => by have := H1.out; have := H2.out; rw [show 2 * i + 2 = c2 by omega, show 2 * i + 1 = c1 by omega]; exact hv2⟩)
          cases hv : ltP (M.getD c1 zp) (M.getD i zp)
          · go_wp2_with (first | (clear f1; go_at_call 107; refine (less_d hH L1.out hc2M hc1M hv2).mono ?_; rintro e w1 ⟨rfl, hb1⟩; have hH1 := hH.step hb1; have hm1 := hH1.mless L1.out) | (go_at_call 107; refine (less_d hH1 L1.out hc1M hiM hv).mono ?_; rintro e w2 ⟨rfl, hb2⟩; have hH2 := hH1.step hb2; have hm2 := hH2.mswap L1.out))
            go_ret
            exact ⟨⟨_, rfl⟩, M, hP, hI.done (fun k k0 hk ke => leP_trans (show leP (M.getD i zp) (M.getD c1 zp) from hv) (hkid k k0 hk ke)), hH2, ((hT.step hb1).step hb2)⟩
          · go_wp2_with (first | (clear f1; go_at_call 107; refine (less_d hH L1.out hc2M hc1M hv2).mono ?_; rintro e w1 ⟨rfl, hb1⟩; have hH1 := hH.step hb1; have hm1 := hH1.mless L1.out) | (go_at_call 107; refine (less_d hH1 L1.out hc1M hiM hv).mono ?_; rintro e w2 ⟨rfl, hb2⟩; have hH2 := hH1.step hb2; have hm2 := hH2.mswap L1.out) | (go_at_call 110; refine (swap_d hH2 L1.out hiM hc1M).mono ?_; rintro e w3 ⟨⟨v3, rfl⟩, hH3, hT3⟩))
            go_roundw
            case rel => (have := H1.out; have := H2.out; have := HM.out; exact ⟨c1, swp M i c1, rfl, by omega, (swp_perm hiM hc1M).trans hP, hI.next (by omega) hc1M (by omega) hv hkid, hH3, ((hT.step hb1).step hb2).trans hT3⟩)
            case measure => (have := H1.out; have := H2.out; simp [intOf]; omega)
        · have hkid := kids (H := M) (i := i) (j := c2) (.inr ⟨by have := H1.out; have := H2.out; omega, by have := H1.out; have := H2.out; rw [show 2 * i + 2 = c2 by omega, show 2 * i + 1 = c1 by omega]; exact hv2⟩)
          cases hv : ltP (M.getD c2 zp) (M.getD i zp)
          · go_wp2_with (first | (clear f1; go_at_call 107; refine (less_d hH L1.out hc2M hc1M hv2).mono ?_; rintro e w1 ⟨rfl, hb1⟩; have hH1 := hH.step hb1; have hm1 := hH1.mless L1.out) | (go_at_call 107; refine (less_d hH1 L1.out hc2M hiM hv).mono ?_; rintro e w2 ⟨rfl, hb2⟩; have hH2 := hH1.step hb2; have hm2 := hH2.mswap L1.out))
            go_ret
            exact ⟨⟨_, rfl⟩, M, hP, hI.done (fun k k0 hk ke => leP_trans (show leP (M.getD i zp) (M.getD c2 zp) from hv) (hkid k k0 hk ke)), hH2, ((hT.step hb1).step hb2)⟩
          · go_wp2_with (first | (clear f1; go_at_call 107; refine (less_d hH L1.out hc2M hc1M hv2).mono ?_; rintro e w1 ⟨rfl, hb1⟩; have hH1 := hH.step hb1; have hm1 := hH1.mless L1.out) | (go_at_call 107; refine (less_d hH1 L1.out hc2M hiM hv).mono ?_; rintro e w2 ⟨rfl, hb2⟩; have hH2 := hH1.step hb2; have hm2 := hH2.mswap L1.out) | (go_at_call 110; refine (swap_d hH2 L1.out hiM hc2M).mono ?_; rintro e w3 ⟨⟨v3, rfl⟩, hH3, hT3⟩))
            go_roundw
            case rel => (have := H1.out; have := H2.out; have := HM.out; exact ⟨c2, swp M i c2, rfl, by omega, (swp_perm hiM hc2M).trans hP, hI.next (by omega) hc2M (by omega) hv hkid, hH3, ((hT.step hb1).step hb2).trans hT3⟩)
            case measure => (have := H1.out; have := H2.out; simp [intOf]; omega)
      · have q3 : ¬ (c2 : Int) < N := by omega
        have hkid := kids (H := M) (i := i) (j := c1) (.inl ⟨hc1.symm, fun h => by omega⟩)
        clear hc1 hc2 hMl
        cases hv : ltP (M.getD c1 zp) (M.getD i zp)
        · go_wp2_with (first | (go_at_call 107; refine (less_d hH L1.out hc1M hiM hv).mono ?_; rintro e w2 ⟨rfl, hb2⟩; have hH2 := hH.step hb2; have hm2 := hH2.mswap L1.out))
          go_ret
          exact ⟨⟨_, rfl⟩, M, hP, hI.done (fun k k0 hk ke => leP_trans (show leP (M.getD i zp) (M.getD c1 zp) from hv) (hkid k k0 hk ke)), hH2, (hT.step hb2)⟩
        · go_wp2_with (first | (go_at_call 107; refine (less_d hH L1.out hc1M hiM hv).mono ?_; rintro e w2 ⟨rfl, hb2⟩; have hH2 := hH.step hb2; have hm2 := hH2.mswap L1.out) | (go_at_call 110; refine (swap_d hH2 L1.out hiM hc1M).mono ?_; rintro e w3 ⟨⟨v3, rfl⟩, hH3, hT3⟩))
          go_roundw
          case rel => (have := H1.out; have := H2.out; have := HM.out; exact ⟨c1, swp M i c1, rfl, by omega, (swp_perm hiM hc1M).trans hP, hI.next (by omega) hc1M (by omega) hv hkid, hH3, (hT.step hb2).trans hT3⟩)
          case measure => (have := H1.out; have := H2.out; simp [intOf]; omega)
    · have h1' : (N : Int) ≤ 2 * (i : Int) + 1 := by omega
      go_wp2
      go_ret
      exact ⟨⟨_, rfl⟩, M, hP, hI.end1 (by rw [HM.out]; omega), hH, hT⟩
end Go.Proofs.Ytocfdmlkicndoaa
