/-
  Farthest: the spec's; its law, walked.
-/
import Derived.Test.YtocfdmlkicndoaaHC4
namespace Go.Proofs.Ytocfdmlkicndoaa
open Go.RowKit Go.Joins
attribute [local go_sem] Oper.semAt_some

/-- The pair (i', k') lies ahead of (i, k); the greater number first. -/
def Pf (n i k i' k' : Nat) : Prop := k' < i' ∧ i' < n ∧ (i' < i ∨ (i' = i ∧ k' < k))
def FInv (L : List T2) (i k : Nat) (best : Int) : Prop :=
  (∀ i' k', Pf L.length i k i' k' → apT (L.getD i' zro) (L.getD k' zro) ≤ best) ∧ (best = 0 ∨ ∃ i' k', Pf L.length i k i' k' ∧ best = apT (L.getD i' zro) (L.getD k' zro))
theorem FInv.start (L : List T2) : FInv L 0 0 0 := ⟨fun i' k' h => by unfold Pf at h; omega, .inl rfl⟩
theorem FInv.row {L : List T2} {i : Nat} {best : Int} (h : FInv L i i best) : FInv L (i + 1) 0 best := by
  have e : ∀ i' k', Pf L.length (i + 1) 0 i' k' ↔ Pf L.length i i i' k' := fun i' k' => by unfold Pf; omega
  refine ⟨fun i' k' hp => h.1 i' k' ((e i' k').mp hp), h.2.imp id ?_⟩
  rintro ⟨i', k', hp, hb⟩
  exact ⟨i', k', (e i' k').mpr hp, hb⟩
theorem FInv.next {L : List T2} {i k : Nat} {best : Int} (h : FInv L i k best) (hk : k < i) (hi : i < L.length) : FInv L i (k + 1) (max best (apT (L.getD i zro) (L.getD k zro))) := by
  refine ⟨fun i' k' hp => ?_, ?_⟩
  · by_cases e : i' = i ∧ k' = k
    · rw [e.1, e.2]; omega
    · have := h.1 i' k' (by unfold Pf at hp ⊢; omega)
      omega
  · by_cases hm : best ≤ apT (L.getD i zro) (L.getD k zro)
    · exact .inr ⟨i, k, by unfold Pf; omega, by omega⟩
    · rw [show max best (apT (L.getD i zro) (L.getD k zro)) = best by omega]
      refine h.2.imp id ?_
      rintro ⟨i', k', hp, hb⟩
      exact ⟨i', k', by unfold Pf at hp ⊢; omega, hb⟩
theorem lasA_is {s : List P3} (h : 0 < s.length) : lasA s s.length = (s.getD (s.length - 1) zp).a := by
  obtain ⟨n, hn⟩ : ∃ n, s.length = n + 1 := ⟨s.length - 1, by omega⟩
  rw [hn]; rfl
theorem lasA_max {s : List P3} (hs : s.Pairwise leP) (h : 0 < s.length) : ∀ q ∈ s, q.a ≤ lasA s s.length := by
  intro q hq
  obtain ⟨i, hi, rfl⟩ := List.getElem_of_mem hq
  have := sorted_le hs (show i ≤ s.length - 1 by omega) (by omega)
  rw [lasA_is h]
  rw [leP_iff] at this
  simp only [List.getD_eq_getElem?_getD, List.getElem?_eq_getElem hi, Option.getD_some] at this ⊢
  omega
theorem lasA_mem {s : List P3} (h : 0 < s.length) : ∃ q ∈ s, q.a = lasA s s.length := ⟨_, getD_mem (show s.length - 1 < s.length by omega), (lasA_is h).symm⟩
theorem FInv.done {L : List T2} (h2 : 2 ≤ L.length) (hnn : ∀ i k, i < L.length → k < L.length → 0 ≤ apT (L.getD i zro) (L.getD k zro)) {best : Int} (h : FInv L L.length 0 best) : lasA (srtP L) (srtP L).length = best := by
  have h0 := srt_pos h2
  obtain ⟨q, hq, e⟩ := lasA_mem h0
  have h1 : lasA (srtP L) (srtP L).length ≤ best := by
    rw [← e]
    obtain ⟨i, k, hi, hk, rfl⟩ := mem_srt.mp hq
    have := h.1 k i (by unfold Pf; omega)
    rw [apT_symm] at this
    exact this
  have h3 : best ≤ lasA (srtP L) (srtP L).length := by
    rcases h.2 with rfl | ⟨i', k', hp, rfl⟩
    · rw [← e]
      obtain ⟨i, k, hi, hk, rfl⟩ := mem_srt.mp hq
      exact hnn i k (by omega) hk
    · unfold Pf at hp
      have := lasA_max (srt_pair L) h0 (prP L k' i') (mem_srt.mpr ⟨k', i', by omega, by omega, rfl⟩)
      rw [apT_symm]
      exact this
  omega

set_option maxRecDepth 100000 in
set_option maxHeartbeats 4000000 in
theorem sFarthest_any (p : Option Addr) (cap : Nat) (L : List T2) (w : World) (hL : Sl w p L) (hn : L.length ≤ 1048576) {v : Int} (hv : faI L = v) :
    Calls Try.prog 16 #[.slice p L.length cap] w fun e w' => e = .returned (.int .i64 v) ∧ Below w.heap.size w w' := by
  cases hs : okS L
  · have hv' : v = -1 := by rw [← hv]; simp [faI, hpr, hs]
    subst hv'
    clear hv
    go_enter Try.func16, Try.ntmps16
    go_wp2_with (go_at_call 38; refine (l5Spots_v hs _ _ _ hL hn).mono ?_; rintro e w1 ⟨rfl, hb2⟩)
    go_ret
    exact ⟨rfl, hb2⟩
  by_cases h2 : 2 ≤ L.length
  · have hv' : lasA (srtP L) (srtP L).length = v := by rw [← hv]; simp [faI, hpr, hs, h2]
    have H40 := okS_len hs
    have Hok := okS_all hs
    have hnn : ∀ i k, i < L.length → k < L.length → 0 ≤ apT (L.getD i zro) (L.getD k zro) := fun i k hi hk => (apT_bd (Hok _ (getS_mem hi)) (Hok _ (getS_mem hk))).1
    have HV : Hid (lasA (srtP L) (srtP L).length = v) := hv'
    have HNN : Hid (∀ i k, i < L.length → k < L.length → 0 ≤ apT (L.getD i zro) (L.getD k zro)) := hnn
    clear hv hv' hn Hok hnn
    obtain ⟨N, hN⟩ : ∃ N, L.length = N := ⟨_, rfl⟩
    have HN : Hid (L.length = N) := hN
    have hNi : ¬ (N : Int) < 2 := by omega
    rw [hN] at H40 h2
    have hlc : Hid (∀ w, Sl w p L → Calls Try.prog 38 #[.slice p N cap] w fun e w' => e = .returned (.bool true) ∧ Below w.heap.size w w') := by
      intro w hw; have := l5Spots_v hs p cap w hw (by omega); rw [hN] at this; exact this
    rw [hN]
    clear hN hs
    go_enter Try.func16, Try.ntmps16
    go_wp2_with (go_at_call 38; refine (hlc.out _ hL).mono ?_; rintro e w1 ⟨rfl, hb2⟩)
    go_loopw [3, 4] (fun bv iv wr => ∃ (i : Nat) (best : Int), i ≤ N ∧ iv = .int .i64 i ∧ bv = .int .i64 best ∧ FInv L i 0 best ∧ Below w.heap.size w wr) (fun _ iv _ => N - (intOf iv).toNat)
    case atStart => exact ⟨0, 0, by omega, rfl, rfl, FInv.start L, hb2⟩
    case round =>
      rename World => wo
      obtain ⟨i, best, hi, rfl, rfl, hI, hb⟩ := hrel
      by_cases hlt : i < N
      · have hii : (i : Int) < N := by omega
        go_wp2
        go_loopw [3, 5] (fun bv kv wr => ∃ (k : Nat) (best : Int), k ≤ i ∧ kv = .int .i64 k ∧ bv = .int .i64 best ∧ FInv L i k best ∧ Below w.heap.size w wr) (fun _ kv _ => i - (intOf kv).toNat)
        case atStart => exact ⟨0, best, by omega, rfl, rfl, hI, hb⟩
        case round =>
          clear hI hb
          obtain ⟨k, best, hk, rfl, rfl, hI, hb⟩ := hrel
          by_cases hlt2 : k < i
          · have hki : (k : Int) < i := by omega
            have hkn : (k : Int) < N := by omega
            have hiL : i < L.length := by rw [HN.out]; exact hlt
            have hkL : k < L.length := by omega
            have hT := hI.next hlt2 hiL
            obtain ⟨g, off, rfl, hC⟩ := (hL.step hb).at hkL
            obtain ⟨x0, x1⟩ := hC.2 i _ (getS_some hiL)
            obtain ⟨y0, y1⟩ := hC.2 k _ (getS_some hkL)
            generalize hd : apT (L.getD i zro) (L.getD k zro) = d at hT
            generalize L.getD i zro = x at x0 x1 hd
            generalize L.getD k zro = y at y0 y1 hd
            have HD : Hid (apT x y = d) := hd
            have HT : Hid (FInv L i (k + 1) (max best d)) := hT
            clear hd hT
            go_wp2
            go_region_with (first
              | (go_at_call 39; refine (sApart_v HD.out _).mono ?_; rintro e w2 ⟨rfl, hb3⟩)
              | (go_at_call 40; refine (l1Max_v _ _ _).mono ?_; rintro e w3 ⟨rfl, rfl⟩))
            all_goals
              go_wp2
              go_roundw
              case rel => exact ⟨k + 1, max best d, by omega, by go_num, rfl, HT.out, bstep hb.drew hb3 (Nat.le_refl _)⟩
              case measure => simp [intOf]; omega
          · obtain rfl : k = i := by omega
            have hR := hI.row
            have HR : Hid (FInv L (k + 1) 0 best) := hR
            clear hR
            go_wp2
            refine ⟨⟨k + 1, best, by omega, by go_num, rfl, HR.out, hb⟩, by simp [intOf]; omega⟩
      · obtain rfl : i = N := by omega
        have hD : best = v := by have h := hI; rw [← HN.out] at h; rw [← HV.out]; exact (h.done (by rw [HN.out]; exact h2) HNN.out).symm
        subst hD
        clear HV
        go_wp2
        go_ret
        exact ⟨rfl, hb⟩
  · have hv' : v = -1 := by rw [← hv]; simp [faI, hpr, hs, h2]
    subst hv'
    clear hv
    have hNi : (L.length : Int) < 2 := by omega
    go_enter Try.func16, Try.ntmps16
    go_wp2_with (go_at_call 38; refine (l5Spots_v hs _ _ _ hL hn).mono ?_; rintro e w1 ⟨rfl, hb2⟩)
    go_ret
    exact ⟨rfl, hb2⟩

set_option maxHeartbeats 1000000 in
theorem exactFarthest (p : Option Addr) (cap : Nat) (L : List T2) (w : World) (hL : Sl w p L) (hm : L.length ≤ maxLen) :
    Calls Try.prog 5 #[.slice p L.length cap] w fun e w' => e = .returned (.bool true) ∧ Below w.heap.size w w' := by
  by_cases hn : L.length ≤ 1048576
  · have hni : (L.length : Int) ≤ 1048576 := by omega
    have hx := Sx.nil w
    obtain ⟨v, hv⟩ : ∃ v, faI L = v := ⟨_, rfl⟩
    have HV : Hid (faI L = v) := hv
    clear hv
    go_enter Try.func5, Try.ntmps5
    go_wp2_with (first
      | (go_at_call 22; refine (szSpotS_ok _ _ _ _ _ hni (by omega)).mono ?_; rintro e w1 ⟨rfl, rfl⟩)
      | (go_at_call 23; refine (toSpotS_any p cap L _ (hL.step hx.bel) hn).mono ?_; rintro e w1 ⟨p1, cap1, rfl, hO, hb2⟩; replace hx := hx.add hO hb2)
      | (go_at_call 16; refine (sFarthest_any _ _ _ _ (Ow.sl (hx.own _ (List.mem_cons_self ..))) hn HV.out).mono ?_; rintro e w1 ⟨rfl, hb2⟩; replace hx := hx.step hb2)
      | (go_at_call 11; refine (iFarthest_any _ _ _ _ (Ow.sl (hx.own _ (List.mem_cons_self ..))) (Ow.cap (hx.own _ (List.mem_cons_self ..))) hn HV.out).mono ?_; rintro e w1 ⟨rfl, hb2⟩; replace hx := hx.step hb2)
      | (go_at_call 24; refine (eqSpotS_same _ _ _ _ L _ (Ow.sl (hx.own _ (List.mem_cons_of_mem _ (List.mem_cons_self ..)))) (Ow.sl (hx.own _ (List.mem_cons_self ..))) (by omega)).mono ?_; rintro e w1 ⟨rfl, hb2⟩; replace hx := hx.step hb2))
    all_goals (go_ret; exact ⟨rfl, hx.bel⟩)
  · have hni : (1048576 : Int) < L.length := by omega
    go_enter Try.func5, Try.ntmps5
    go_wp2_with (go_at_call 22; refine (szSpotS_no _ _ _ _ _ hni (by omega) hm).mono ?_; rintro e w1 ⟨rfl, rfl⟩)
    go_ret
    exact ⟨rfl, Below.refl _ _⟩
end Go.Proofs.Ytocfdmlkicndoaa
