/-
  Nearest: the spec's and the program's.
-/
import Derived.Test.YtocfdmlkicndoaaHC1
import Derived.Test.YtocfdmlkicndoaaB1
namespace Go.Proofs.Ytocfdmlkicndoaa
open Go.RowKit Go.Joins
attribute [local go_sem] Oper.semAt_some

def hpr (L : List T2) : Bool := okS L && decide (2 ≤ L.length)
def neT (L : List T2) : P3 := if hpr L then (srtP L).getD 0 zp else ⟨-1, 0, 0⟩
theorem sApart_v {x y : T2} {v : Int} (hv : apT x y = v) (w : World) : Calls Try.prog 39 #[.agg #[.int .i64 x.x, .int .i64 x.y], .agg #[.int .i64 y.x, .int .i64 y.y]] w fun e w' => e = .returned (.int .i64 v) ∧ Below w.heap.size w w' := by
  subst hv; exact sApart_any _ _ _ _ w
theorem getS_mem {L : List T2} {k : Nat} (h : k < L.length) : L.getD k zro ∈ L := by simp [List.getD, h]

set_option maxRecDepth 100000 in
set_option maxHeartbeats 4000000 in
theorem sNearest_any (p : Option Addr) (cap : Nat) (L : List T2) (w : World) (hL : Sl w p L) (hn : L.length ≤ 1048576) {v : P3} (hv : neT L = v) :
    Calls Try.prog 15 #[.slice p L.length cap] w fun e w' => e = .returned (.tuple #[.int .i64 v.a, .int .i64 v.i, .int .i64 v.j]) ∧ Below w.heap.size w w' := by
  cases hs : okS L
  · have hv' : v = ⟨-1, 0, 0⟩ := by rw [← hv]; simp [neT, hpr, hs]
    subst hv'
    clear hv
    go_enter Try.func15, Try.ntmps15
    go_wp2_with (go_at_call 38; refine (l5Spots_v hs _ _ _ hL hn).mono ?_; rintro e w1 ⟨rfl, hb2⟩)
    exact bodyPost_ret (v := .tuple #[.int .i64 (-1), .int .i64 0, .int .i64 0]) (by simp [results, Try.results15, go_sem]) rfl ⟨rfl, hb2⟩
  by_cases h2 : 2 ≤ L.length
  · have hv' : (srtP L).getD 0 zp = v := by rw [← hv]; simp [neT, hpr, hs, h2]
    have H40 := okS_len hs
    have Hok := okS_all hs
    have hnn : ∀ i k, i < L.length → k < L.length → 0 ≤ apT (L.getD i zro) (L.getD k zro) := fun i k hi hk => (apT_bd (Hok _ (getS_mem hi)) (Hok _ (getS_mem hk))).1
    have HV : Hid ((srtP L).getD 0 zp = v) := hv'
    have HNN : Hid (∀ i k, i < L.length → k < L.length → 0 ≤ apT (L.getD i zro) (L.getD k zro)) := hnn
    clear hv hv' hn Hok hnn
    obtain ⟨N, hN⟩ : ∃ N, L.length = N := ⟨_, rfl⟩
    have HN : Hid (L.length = N) := hN
    have hNi : ¬ (N : Int) < 2 := by omega
    rw [hN] at H40 h2
    have hlc : Hid (∀ w, Sl w p L → Calls Try.prog 38 #[.slice p N cap] w fun e w' => e = .returned (.bool true) ∧ Below w.heap.size w w') := by
      intro w hw; have := l5Spots_v hs p cap w hw (by omega); rw [hN] at this; exact this
    rw [hN]
    clear hN hs
    go_enter Try.func15, Try.ntmps15
    go_wp2_with (go_at_call 38; refine (hlc.out _ hL).mono ?_; rintro e w1 ⟨rfl, hb2⟩)
    go_loopw [5, 6, 7, 8] (fun bv av cv iv wr => ∃ (i a c : Nat) (best : Int), i ≤ N ∧ iv = .int .i64 i ∧ av = .int .i64 a ∧ cv = .int .i64 c ∧ bv = .int .i64 best ∧ NInv L i (i + 1) best a c ∧ Below w.heap.size w wr) (fun _ _ _ iv _ => N - (intOf iv).toNat)
    case atStart => exact ⟨0, 0, 0, -1, by omega, rfl, rfl, rfl, rfl, NInv.start L, hb2⟩
    case round =>
      rename World => wo
      obtain ⟨i, a, c, best, hi, rfl, rfl, rfl, rfl, hI, hb⟩ := hrel
      by_cases hlt : i < N
      · have hii : (i : Int) < N := by omega
        go_wp2
        go_loopw [5, 6, 7, 9] (fun bv av cv kv wr => ∃ (k a c : Nat) (best : Int), i < k ∧ k ≤ N ∧ kv = .int .i64 k ∧ av = .int .i64 a ∧ cv = .int .i64 c ∧ bv = .int .i64 best ∧ NInv L i k best a c ∧ Below w.heap.size w wr) (fun _ _ _ kv _ => N - (intOf kv).toNat)
        case atStart => exact ⟨i + 1, a, c, best, by omega, by omega, by go_num, rfl, rfl, rfl, hI, hb⟩
        case round =>
          clear hI hb
          obtain ⟨k, a, c, best, hik, hk, rfl, rfl, rfl, rfl, hI, hb⟩ := hrel
          by_cases hlt2 : k < N
          · have hki : (k : Int) < N := by omega
            have hiL : i < L.length := by rw [HN.out]; exact hlt
            have hkL : k < L.length := by rw [HN.out]; exact hlt2
            have hPn : ∀ i' k', Pc L.length i k i' k' → 0 ≤ apT (L.getD i' zro) (L.getD k' zro) := fun i' k' hp => HNN.out i' k' (by unfold Pc at hp; omega) (by unfold Pc at hp; omega)
            have hT := hI.take hik hkL
            have hS := hI.skip
            have hdd := HNN.out i k hiL hkL
            obtain ⟨g, off, rfl, hC⟩ := (hL.step hb).at hkL
            obtain ⟨x0, x1⟩ := hC.2 i _ (getS_some hiL)
            obtain ⟨y0, y1⟩ := hC.2 k _ (getS_some hkL)
            generalize hd : apT (L.getD i zro) (L.getD k zro) = d at hT hS hdd
            generalize L.getD i zro = x at x0 x1 hd
            generalize L.getD k zro = y at y0 y1 hd
            have HD : Hid (apT x y = d) := hd
            have HP : Hid (∀ i' k', Pc L.length i k i' k' → 0 ≤ apT (L.getD i' zro) (L.getD k' zro)) := hPn
            have HT : Hid ((best < 0 ∨ d < best) → NInv L i (k + 1) d i k) := fun h => hT h hPn
            have HS : Hid (0 ≤ best → best ≤ d → NInv L i (k + 1) best a c) := hS
            have hbb := hI.nn hPn
            clear hd hPn hT hS
            rcases hbb with rfl | hb0
            · go_wp2
              go_region_with (go_at_call 39; refine (sApart_v HD.out _).mono ?_; rintro e w2 ⟨rfl, hb3⟩)
              all_goals
                go_wp2
                go_roundw
                case rel => exact ⟨k + 1, i, k, d, by omega, by omega, by go_num, rfl, rfl, rfl, HT.out (.inl (by omega)), bstep hb.drew hb3 (Nat.le_refl _)⟩
                case measure => simp [intOf]; omega
            · have hb1 : ¬ best < 0 := by omega
              by_cases hdb : d < best
              · go_wp2
                go_region_with (go_at_call 39; refine (sApart_v HD.out _).mono ?_; rintro e w2 ⟨rfl, hb3⟩)
                all_goals
                  go_wp2
                  go_roundw
                  case rel => exact ⟨k + 1, i, k, d, by omega, by omega, by go_num, rfl, rfl, rfl, HT.out (.inr hdb), bstep hb.drew hb3 (Nat.le_refl _)⟩
                  case measure => simp [intOf]; omega
              · go_wp2
                go_region_with (go_at_call 39; refine (sApart_v HD.out _).mono ?_; rintro e w2 ⟨rfl, hb3⟩)
                all_goals
                  go_wp2
                  go_roundw
                  case rel => exact ⟨k + 1, a, c, best, by omega, by omega, by go_num, rfl, rfl, rfl, HS.out hb0 (by omega), bstep hb.drew hb3 (Nat.le_refl _)⟩
                  case measure => simp [intOf]; omega
          · obtain rfl : k = N := by omega
            have hR : NInv L (i + 1) (i + 2) best a c := by have h := hI; rw [← HN.out] at h; exact h.row
            have HR : Hid (NInv L (i + 1) (i + 2) best a c) := hR
            clear hR
            go_wp2
            refine ⟨⟨i + 1, a, c, best, by omega, by go_num, rfl, rfl, rfl, HR.out, hb⟩, by simp [intOf]; omega⟩
      · obtain rfl : i = N := by omega
        have hD : v = ⟨best, a, c⟩ := by have h := hI; rw [← HN.out] at h; rw [← HV.out]; exact h.done (by rw [HN.out]; exact h2)
        subst hD
        clear HV
        go_wp2
        exact bodyPost_ret (v := .tuple #[.int .i64 best, .int .i64 a, .int .i64 c]) (by simp [results, Try.results15, go_sem]) rfl ⟨rfl, hb⟩
  · have hv' : v = ⟨-1, 0, 0⟩ := by rw [← hv]; simp [neT, hpr, hs, h2]
    subst hv'
    clear hv
    have hNi : (L.length : Int) < 2 := by omega
    go_enter Try.func15, Try.ntmps15
    go_wp2_with (go_at_call 38; refine (l5Spots_v hs _ _ _ hL hn).mono ?_; rintro e w1 ⟨rfl, hb2⟩)
    exact bodyPost_ret (v := .tuple #[.int .i64 (-1), .int .i64 0, .int .i64 0]) (by simp [results, Try.results15, go_sem]) rfl ⟨rfl, hb2⟩

set_option maxHeartbeats 1000000 in
theorem havePair_v (p : Option Addr) (cap : Nat) (L : List T2) (w : World) (hL : Sl w p L) (hn : L.length ≤ 1048576) {v : Bool} (hv : hpr L = v) :
    Calls Try.prog 31 #[.slice p L.length cap] w fun e w' => e = .returned (.bool v) ∧ Below w.heap.size w w' := by
  subst hv
  by_cases h2 : 2 ≤ L.length
  · have hNi : (2 : Int) ≤ L.length := by omega
    have e : hpr L = okS L := by simp [hpr, h2]
    rw [e]
    generalize hs : okS L = s
    clear e
    go_enter Try.func31, Try.ntmps31
    go_wp2_with (go_at_call 37; refine (areRight_v hs _ _ _ hL hn).mono ?_; rintro e w1 ⟨rfl, hb2⟩)
    go_ret
    exact ⟨rfl, hb2⟩
  · have hNi : ¬ (2 : Int) ≤ L.length := by omega
    have e : hpr L = false := by simp [hpr, h2]
    rw [e]
    clear e
    go_enter Try.func31, Try.ntmps31
    go_wp2
    go_ret
    exact ⟨rfl, Below.refl _ _⟩

set_option maxRecDepth 100000 in
set_option maxHeartbeats 4000000 in
theorem iNearest_any (p : Option Addr) (cap : Nat) (L : List T2) (w : World) (hL : Sl w p L) (hcap : L.length ≤ cap) (hn : L.length ≤ 1048576) {v : P3} (hv : neT L = v) :
    Calls Try.prog 10 #[.slice p L.length cap] w fun e w' => e = .returned (.tuple #[.int .i64 v.a, .int .i64 v.i, .int .i64 v.j]) ∧ Below w.heap.size w w' := by
  cases hs : hpr L
  · have hv' : v = ⟨-1, 0, 0⟩ := by rw [← hv]; simp [neT, hs]
    subst hv'
    clear hv
    go_enter Try.func10, Try.ntmps10
    go_wp2_with (go_at_call 31; refine (havePair_v _ _ _ _ hL hn hs).mono ?_; rintro e w1 ⟨rfl, hb2⟩)
    exact bodyPost_ret (v := .tuple #[.int .i64 (-1), .int .i64 0, .int .i64 0]) (by simp [results, Try.results10, go_sem]) rfl ⟨rfl, hb2⟩
  · have hv' : (srtP L).getD 0 zp = v := by rw [← hv]; simp [neT, hs]
    obtain ⟨ho, h2⟩ := (Bool.and_eq_true _ _).mp hs
    have h40 := okS_len ho
    have h2' : 2 ≤ L.length := of_decide_eq_true h2
    have HV : Hid ((srtP L).getD 0 zp = v) := hv'
    have HP : Hid (0 < (srtP L).length ∧ (srtP L).length ≤ 900000) := by
      refine ⟨srt_pos h2', ?_⟩
      rw [(srt_perm L).length_eq]
      have := prs_len L L.length h40
      omega
    clear hv hv' h2 h2'
    have HQ : Hid (∀ b g cap' M W, M.Perm (prs L L.length) → isHeap M → Hp W b g cap' M → Calls Try.prog 33 #[.pointer (some ⟨b, 0, none⟩)] W fun e w' => e = .returned (.agg #[.int .i64 v.a, .int .i64 v.i, .int .i64 v.j]) ∧ ∃ M', Hp w' b g cap' M' ∧ Tn b g W g w') := by
      intro b g cap' M W hM hh hH
      have hMs := hM.trans (srt_perm L).symm
      have hl : 0 < M.length := by rw [hMs.length_eq]; exact HP.out.1
      have e := top_eq hMs (srt_pair L) hh hl
      rw [HV.out] at e
      have := next_any b g cap' M W hH hh hl (by rw [hMs.length_eq]; exact HP.out.2)
      rw [e] at this
      refine this.mono ?_
      rintro e w' ⟨h1, M', _, _, h3, h4⟩
      exact ⟨h1, M', h3, h4⟩
    go_enter Try.func10, Try.ntmps10
    go_wp2_with (first
      | (go_at_call 31; refine (havePair_v _ _ _ _ hL hn hs).mono ?_; rintro e w1 ⟨rfl, hb1⟩)
      | (go_at_call 32; refine (pairsOf_any p cap L _ (hL.step hb1) hcap h40).mono ?_; rintro e w2 ⟨b, g, cap', M, rfl, hP, hM, hH, hbb, hbg, hb2⟩)
      | (go_at_call 33; refine (HQ.out b g cap' M _ hP hM hH).mono ?_; rintro e w3 ⟨rfl, M', hH3, hT3⟩; have hb3 : Below w.heap.size w w3 := (bstep hb1 hb2 (Nat.le_refl _)).trans (hT3.below (Nat.le_trans hb1.size hbb) (Nat.le_trans hb1.size hbg) (Nat.le_trans hb1.size hb2.size))))
    go_region_with fail
    all_goals
      go_wp2
      exact bodyPost_ret (v := .tuple #[.int .i64 v.a, .int .i64 v.i, .int .i64 v.j]) (by simp [results, Try.results10, go_sem]) rfl ⟨rfl, (hb3.alloc hb3.size _).drew⟩
end Go.Proofs.Ytocfdmlkicndoaa
