/-
  The law of layers, walked.
-/
import Derived.Test.YtgpgmndjkcpaoaaA7S
import Derived.Test.YtgpgmndjkcpaoaaT3
import Derived.Test.YtgpgmndjkcpaoaaD7
import Derived.Test.YtgpgmndjkcpaoaaM8
import Derived.Test.YtgpgmndjkcpaoaaW5H
import Derived.Deep.Cut
namespace Go.Proofs.Ytgpgmndjkcpaoaa
open Go.RowKit Go.Joins
attribute [local go_sem] Oper.semAt_some

set_option maxHeartbeats 1000000 in
theorem likeInts_same (p q : Option Addr) (cap cap' : Nat) (L : List Int) (w : World) (hp : Sl1 w p L) (hq : Sl1 w q L) (_hn : L.length ≤ 10000000) :
    Calls Try.prog 16 #[.slice p L.length cap, .slice q L.length cap'] w fun e w' => e = .returned (.bool true) ∧ Below w.heap.size w w' := by
  go_enter Try.func16, Try.ntmps16
  go_wp2
  go_loopw [5] (fun i wr => ∃ k : Nat, k ≤ L.length ∧ i = .int .i64 k ∧ Below w.heap.size w wr) (fun i _ => L.length - (intOf i).toNat)
  case atStart => exact ⟨0, by omega, rfl, Below.refl _ _⟩
  case round =>
    obtain ⟨k, hk, rfl, hb⟩ := hrel
    by_cases hlt : k < L.length
    · have hki : (k : Int) < L.length := by omega
      obtain ⟨g, off, rfl, hC⟩ := (hp.step hb).at hlt
      obtain ⟨g2, off2, rfl, hC2⟩ := (hq.step hb).at hlt
      have c0 := hC.2 k L[k] (List.getElem?_eq_getElem hlt)
      have d0 := hC2.2 k L[k] (List.getElem?_eq_getElem hlt)
      go_wp2
      go_region_with fail
      all_goals
        go_wp2
        go_roundw
        case rel => exact ⟨k + 1, by omega, by go_num, hb.drew⟩
        case measure => simp [intOf]; omega
    · obtain rfl : k = L.length := by omega
      go_wp2
      go_ret
      exact ⟨rfl, hb⟩
set_option maxHeartbeats 1000000 in
theorem likeLists_same (p q : Option Addr) (cap cap' : Nat) (gs hs : List Nat) (M : List (Int × Int)) (w : World) (hp : Rd2 w p gs M) (hq : Rd2 w q hs M) (hn : M.length ≤ 1000) :
    Calls Try.prog 19 #[.slice p M.length cap, .slice q M.length cap'] w fun e w' => e = .returned (.bool true) ∧ Below w.heap.size w w' := by
  obtain ⟨N, hN⟩ : ∃ N, M.length = N := ⟨_, rfl⟩
  have HN : Hid (M.length = N) := hN
  rw [hN] at hn ⊢
  clear hN
  go_enter Try.func19, Try.ntmps19
  go_wp2
  go_loopw [5] (fun i wr => ∃ k : Nat, k ≤ N ∧ i = .int .i64 k ∧ Below w.heap.size w wr) (fun i _ => N - (intOf i).toNat)
  case atStart => exact ⟨0, by omega, rfl, Below.refl _ _⟩
  case round =>
    obtain ⟨k, hk, rfl, hb⟩ := hrel
    by_cases hlt : k < N
    · have hki : (k : Int) < N := by omega
      have hkM : k < M.length := by rw [HN.out]; exact hlt
      have hkg : k < gs.length := by rw [hp.2.1]; exact hkM
      have hkh : k < hs.length := by rw [hq.2.1]; exact hkM
      have P := hp.step hb
      have Q := hq.step hb
      have i1 := P.2.2 k gs[k] M[k] (List.getElem?_eq_getElem hkg) (List.getElem?_eq_getElem hkM)
      have i2 := Q.2.2 k hs[k] M[k] (List.getElem?_eq_getElem hkh) (List.getElem?_eq_getElem hkM)
      rcases P.1 with h0 | ⟨g1, o1, rfl, hg1, hc1⟩
      · rw [h0] at hkg; simp at hkg
      rcases Q.1 with h0 | ⟨g2, o2, rfl, hg2, hc2⟩
      · rw [h0] at hkh; simp at hkh
      have d1 := hc1 k _ (List.getElem?_eq_getElem hkg)
      have d2 := hc2 k _ (List.getElem?_eq_getElem hkh)
      generalize gs[k] = ga at d1 i1
      generalize hs[k] = gb at d2 i2
      generalize M[k] = c at i1 i2
      unfold sv at d1 d2
      have I : Hid (∀ w', Below wr.heap.size wr w' → Cs1 w' ga 0 [c.1, c.2] ∧ Cs1 w' gb 0 [c.1, c.2]) := fun w' h => ⟨i1.step h, i2.step h⟩
      clear i1 i2 P Q hc1 hc2
      have hbd := (Below.refl wr.heap.size wr).drew
      go_wp2
      go_region_with ((go_at_call 16; refine (likeInts_same (some ⟨ga, 0, none⟩) (some ⟨gb, 0, none⟩) 2 2 [c.1, c.2] _ (.inr ⟨ga, 0, rfl, (I.out _ hbd).1⟩) (.inr ⟨gb, 0, rfl, (I.out _ hbd).2⟩) (by simp)).mono ?_; rintro e w1 ⟨rfl, hb2⟩))
      all_goals
        go_wp2
        go_roundw
        case rel => exact ⟨k + 1, by omega, by go_num, bstep hb.drew hb2 (Nat.le_refl _)⟩
        case measure => simp [intOf]; omega
    · obtain rfl : k = N := by omega
      go_wp2
      go_ret
      exact ⟨rfl, hb⟩
theorem rdC {w W : World} {p : Option Addr} {n cap : Nat} {gs : List Nat} {M : List (Int × Int)} (h : Sg w W (prR (.slice p n cap) gs M)) (hl : gs.length = M.length) : Rd2 W p gs M := Sg.rd2 (A := []) (B := []) (by simpa using h) hl
theorem tcI_len (L : List T4) (i k : Nat) : (tcI L i k).length ≤ k := by
  unfold tcI
  rw [List.length_map]
  exact Nat.le_trans (List.length_filter_le _ _) (by simp)
theorem tcO_len (L : List T4) : ∀ i, (tcO L i).length ≤ i * L.length
  | 0 => by simp [tcO]
  | i + 1 => by
    rw [tcO_step, List.length_append]
    have h1 := tcO_len L i
    have h2 := tcI_len L i L.length
    rw [Nat.add_mul]; omega
theorem tcL_len (L : List T4) : (pI (tcL L)).length ≤ 144 := by
  unfold pI tcL
  rw [List.length_map]
  cases hs : okL L
  · simp
  · rw [if_pos rfl]
    have h1 := tcO_len L L.length
    have h2 := okL_len hs
    have h3 := Nat.mul_le_mul h2 h2
    omega
theorem inL_take {L : List T4} {x y : Int} {k : Nat} (hk : k < L.length) : inL (L.take (k + 1)) x y = inL (L.take k) x y + if holdsB (L.getD k zr4).x (L.getD k zr4).y (L.getD k zr4).w (L.getD k zr4).h x y then 1 else 0 := by
  unfold inL
  rw [List.take_succ_eq_append_getElem hk, List.countP_append, List.countP_singleton]
  simp [List.getD, hk]
theorem arL_take {L : List T4} {k : Nat} (hk : k < L.length) : arL (L.take (k + 1)) = arL (L.take k) + areaI (L.getD k zr4).x (L.getD k zr4).y (L.getD k zr4).w (L.getD k zr4).h := by
  unfold arL sumM
  rw [List.take_succ_eq_append_getElem hk, List.map_append, sumI_app]
  simp [sumI, List.getD, hk]
theorem area_nn (x y a b : Int) : 0 ≤ areaI x y a b ∧ areaI x y a b ≤ 65536 := by
  unfold areaI
  cases h : okB x y a b
  · simp
  · have := okB_t.mp h
    simp only [if_true]
    exact mul_bd (by omega) (by omega) (by omega) (by omega)
theorem arL_bd (L : List T4) : 0 ≤ arL L ∧ arL L ≤ 65536 * (L.length : Int) := by
  unfold arL
  induction L with
  | nil => simp [sumM_nil]
  | cons a t ih =>
    rw [sumM_cons]
    have := area_nn a.x a.y a.w a.h
    simp only [List.length_cons]
    omega
theorem iHolds_v {x1 y1 a1 b1 s2 t2 : Int} {v : Bool} (hv : holdsB x1 y1 a1 b1 s2 t2 = v) (w : World) :
    Calls Try.prog 23 #[.agg #[.int .i64 x1, .int .i64 y1, .int .i64 a1, .int .i64 b1], .agg #[.int .i64 s2, .int .i64 t2]] w fun e w' => e = .returned (.bool v) ∧ Below w.heap.size w w' := by subst hv; exact iHolds_any x1 y1 a1 b1 s2 t2 w
theorem iArea_v {x1 y1 a1 b1 v : Int} (hv : areaI x1 y1 a1 b1 = v) (w : World) :
    Calls Try.prog 21 #[.agg #[.int .i64 x1, .int .i64 y1, .int .i64 a1, .int .i64 b1]] w fun e w' => e = .returned (.int .i64 v) ∧ Below w.heap.size w w' := by subst hv; exact iArea_any x1 y1 a1 b1 w

set_option maxRecDepth 100000 in
set_option maxHeartbeats 16000000 in
theorem layers_small (a0 : Option Addr) (len cap : Nat) (zs : List Int) (w : World) (hl : len ≤ 4096) (hr : Rd w w.heap.size a0 len zs) :
    Calls Try.prog 3 #[.slice a0 len cap] w fun e w' => e = .returned (.bool true) ∧ Below w.heap.size w w' := by
  have hl' : decide (4096 < (len : Int)) = false := by simp; omega
  have HRD : Hid (∀ W, Below w.heap.size w W → Rd W W.heap.size a0 len zs) := fun W h => hr.up h h.size
  clear hr
  go_enter Try.func3, Try.ntmps3
  go_upto_region 4 with (first
    | (go_at_call 9; refine (big_any _ _ _ _).mono ?_; rintro e w1 ⟨rfl, rfl⟩)
    | (go_at_call 10; refine (drawTogether_any a0 len cap zs _ hl (HRD.out _ (Below.refl _ _))).mono ?_; rintro e w1 ⟨q, capq, L, rfl, hOL, hB, hL13⟩))
  have hLs := Ow4.sl hOL
  obtain ⟨tg, htg⟩ : ∃ z, tgL L = z := ⟨_, rfl⟩
  obtain ⟨D, hD⟩ : ∃ z, dcL L = z := ⟨_, rfl⟩
  obtain ⟨K, hK⟩ : ∃ z, dpL L = z := ⟨_, rfl⟩
  obtain ⟨v, hv⟩ : ∃ z, pI (tcL L) = z := ⟨_, rfl⟩
  have hvl : v.length ≤ 1000 := by rw [← hv]; have := tcL_len L; omega
  have hLn : L.length ≤ 1048576 := by omega
  have hDl : D.length ≤ 13 := by
    rw [← hD]; unfold dcL
    cases hs : okL L
    · simp
    · rw [if_pos rfl, drop_len]; exact hL13
  have HT : Hid (tgL L = tg ∧ dcL L = D ∧ dpL L = K ∧ pI (tcL L) = v) := ⟨htg, hD, hK, hv⟩
  clear htg hD hK hv hOL
  go_upto_region 8 with (first
    | (go_at_call 11; refine (iTogether_any _ _ L _ hLs hLn HT.out.1).mono ?_; rintro e w2 ⟨rfl, hb2⟩; replace hB := bstep hB hb2 (Nat.le_refl _); replace hLs := hLs.step hb2)
    | (go_at_call 12; refine (iDepths_any _ _ L _ hLs hLn HT.out.2.1).mono ?_; rintro e w2 ⟨pd, capd, rfl, hO2, hb2⟩; replace hB := bstep hB hb2 (Nat.le_refl _); replace hLs := hLs.step hb2; have hDs := Ow1.sl hO2)
    | (go_at_call 13; refine (iDeepest_any _ _ L _ hLs hLn HT.out.2.2.1).mono ?_; rintro e w2 ⟨rfl, hb2⟩; replace hB := bstep hB hb2 (Nat.le_refl _); replace hLs := hLs.step hb2; replace hDs := hDs.step hb2)
    | (go_at_call 14; refine (iTouching_any _ _ L _ hLs hLn HT.out.2.2.2).mono ?_; rintro e w2 ⟨pt, capt, gt, rfl, hlt, hSt⟩; replace hB := bstep hB hSt.bel (Nat.le_refl _); replace hLs := hLs.step hSt.bel; replace hDs := hDs.step hSt.bel; have hTs := rdC hSt hlt))
  clear hO2 hSt
  go_upto_if 52 with (first
    | (go_at_call 15; refine (sTogether_any _ _ L _ hLs hLn HT.out.1).mono ?_; rintro e w2 ⟨rfl, hb2⟩; replace hB := bstep hB hb2 (Nat.le_refl _); replace hLs := hLs.step hb2; replace hDs := hDs.step hb2; replace hTs := hTs.step hb2)
    | (go_at_call 17; refine (sDepths_any _ _ L _ hLs hLn HT.out.2.1).mono ?_; rintro e w2 ⟨pe, cape, rfl, hO3, hb2⟩; replace hB := bstep hB hb2 (Nat.le_refl _); replace hLs := hLs.step hb2; replace hDs := hDs.step hb2; replace hTs := hTs.step hb2)
    | (go_at_call 16; refine (likeInts_same _ _ _ _ D _ hDs (Ow1.sl hO3) (by omega)).mono ?_; rintro e w2 ⟨rfl, hb2⟩; replace hB := bstep hB hb2 (Nat.le_refl _); replace hLs := hLs.step hb2; replace hDs := hDs.step hb2; replace hTs := hTs.step hb2)
    | (go_at_call 18; refine (sDeepest_any _ _ L _ hLs hLn HT.out.2.2.1).mono ?_; rintro e w2 ⟨rfl, hb2⟩; replace hB := bstep hB hb2 (Nat.le_refl _); replace hLs := hLs.step hb2; replace hDs := hDs.step hb2; replace hTs := hTs.step hb2)
    | (go_at_call 20; refine (sTouching_any _ _ L _ hLs hLn HT.out.2.2.2).mono ?_; rintro e w2 ⟨pf, capf, gf, rfl, hlf, hSf⟩; replace hB := bstep hB hSf.bel (Nat.le_refl _); replace hLs := hLs.step hSf.bel; replace hDs := hDs.step hSf.bel; replace hTs := hTs.step hSf.bel)
    | (go_at_call 19; refine (likeLists_same _ _ _ _ gt gf v _ hTs (rdC hSf hlf) hvl).mono ?_; rintro e w2 ⟨rfl, hb2⟩; replace hB := bstep hB hb2 (Nat.le_refl _); replace hLs := hLs.step hb2; replace hDs := hDs.step hb2))
  clear hO3 hSf hTs
  generalize hwx : w2 = W8 at hB hLs hDs ⊢
  clear hwx
  cases hs : okL L
  · have e1 : tg = -1 := by rw [← HT.out.1]; simp [tgL, hs]
    have e2 : D = [] := by rw [← HT.out.2.1]; simp [dcL, hs]
    have e3 : K = -1 := by rw [← HT.out.2.2.1]; simp [dpL, hs]
    subst e1 e2 e3
    go_wp2
    go_ret
    exact ⟨rfl, hB⟩
  · have hDe : (dpsL L).drop 1 = D := by rw [← HT.out.2.1]; simp [dcL, hs]
    have hKe : dpK D L.length = K := by rw [← HT.out.2.2.1, ← hDe]; simp [dpL, hs]
    have hSe : sumI D = tg := by rw [← HT.out.1, ← hDe]; simp [tgL, hs]
    have h12 := okL_len hs
    have hbd : Bd 600 D := by rw [← hDe]; exact (dps_bd hs).drop 1
    have hDn : D.length = L.length := by rw [← hDe]; exact drop_len
    have hAl : alK D L.length = arL L := by rw [← hDe]; exact all_is hs
    have hIn : ∀ x y, (inL L x y : Int) ≤ K := fun x y => by rw [← hKe, ← hDe]; exact in_deep hs x y
    have hKp : (0 < K) ↔ 0 < L.length := by rw [← hKe, ← hDe]; exact deep_pos hs
    have hPo : ∀ j, j < L.length → 0 < D.getD j 0 → (j : Int) + 1 ≤ K := fun j hj hp => by rw [← hKe]; exact dpK_ge D L.length j hj hp
    have hKb := dpK_nn D L.length
    rw [hKe] at hKb
    have htg0 := (sumI_bd hbd).1
    rw [hSe] at htg0
    have hAb := arL_bd L
    obtain ⟨N, hN⟩ : ∃ N, L.length = N := ⟨_, rfl⟩
    rw [hN] at h12 hDn hAl hKp hPo hKb hAb
    rw [hN, hDn]
    have HN : Hid (L.length = N ∧ D.length = N) := ⟨hN, hDn⟩
    have HSE : Hid (sumI D = tg) := hSe
    have HAL : Hid (alK D N = arL L) := hAl
    have HIN : Hid (∀ x y, (inL L x y : Int) ≤ K) := hIn
    have HPO : Hid (∀ j, j < N → 0 < D.getD j 0 → (j : Int) + 1 ≤ K) := hPo
    have HBD : Hid (Bd 600 D) := hbd
    have HSB : Hid (∀ k, 0 ≤ sumI (D.take k) ∧ sumI (D.take k) ≤ 65536 * 600 * 12) := fun k => by
      have h1 := sum_part hbd k
      rw [hDn] at h1
      have : (65536 : Int) * (600 : Nat) * (N : Int) ≤ 65536 * 600 * 12 := Int.mul_le_mul_of_nonneg_left (by omega) (by omega)
      exact ⟨h1.1, Int.le_trans h1.2 this⟩
    have HAB : Hid (∀ k, k ≤ N → 0 ≤ alK D k ∧ alK D k ≤ 65536 * 600 * 12 * 12) := fun k hk => by
      have h1 := alK_bd hbd k (by omega) (by omega)
      have : (65536 : Int) * (600 : Nat) * 12 * (k : Int) ≤ 65536 * 600 * 12 * 12 := Int.mul_le_mul_of_nonneg_left (by omega) (by omega)
      exact ⟨h1.1, Int.le_trans h1.2 this⟩
    clear hDe hKe hSe hs hbd hDn hAl hIn hPo HT hN hDl hLn hL13
    have htg1 : ¬ tg < 0 := by omega
    go_wp2
    go_loop [8, 9, 10] (fun sv av iv => ∃ k : Nat, k ≤ N ∧ iv = .int .i64 k ∧ sv = .int .i64 (sumI (D.take k)) ∧ av = .int .i64 (alK D k)) (fun _ _ iv => N - (intOf iv).toNat)
    case atStart => exact ⟨0, by omega, rfl, rfl, rfl⟩
    case round =>
      obtain ⟨k, hk, rfl, rfl, rfl⟩ := hrel
      by_cases hlt : k < N
      · have hki : (k : Int) < N := by omega
        have hkD : k < D.length := by rw [HN.out.2]; exact hlt
        obtain ⟨gd, od, rfl, hCd⟩ := hDs.at hkD
        have x0 := hCd.2 k _ (getI_some hkD)
        have hst := sumI_take hkD
        have h1 := HSB.out k
        have h2 := HBD.out _ (getD_mem hkD)
        have h3 := HAB.out k hk
        have hal : alK D (k + 1) = alK D k + D.getD k 0 * ((k : Int) + 1) := rfl
        have hp := HPO.out k hlt
        generalize D.getD k 0 = y at x0 hst h2 hal hp
        have HST : Hid (sumI (D.take (k + 1)) = sumI (D.take k) + y) := hst
        generalize sumI (D.take k) = z at h1 HST
        have p1 : 0 ≤ y * ((k : Int) + 1) := Int.mul_nonneg h2.1 (by omega)
        have p2 : y * ((k : Int) + 1) ≤ 65536 * 600 * 13 := Int.mul_le_mul h2.2 (by omega) (by omega) (by omega)
        obtain ⟨m, hm⟩ : ∃ m, y * ((k : Int) + 1) = m := ⟨_, rfl⟩
        rw [hm] at p1 p2 hal
        have HALK : Hid (alK D (k + 1) = alK D k + m) := hal
        generalize alK D k = zz at h3 HALK
        clear hst hal
        by_cases hy : 0 < y
        · have hpK := hp hy
          clear hp
          go_wp2
          go_round
          case rel => exact ⟨k + 1, by omega, by go_num, by rw [HST.out], by rw [HALK.out]⟩
          case measure => simp [intOf]; omega
        · clear hp
          by_cases hkK : (k : Int) + 1 ≤ K
          · go_wp2
            go_round
            case rel => exact ⟨k + 1, by omega, by go_num, by rw [HST.out], by rw [HALK.out]⟩
            case measure => simp [intOf]; omega
          · go_wp2
            go_round
            case rel => exact ⟨k + 1, by omega, by go_num, by rw [HST.out], by rw [HALK.out]⟩
            case measure => simp [intOf]; omega
      · obtain rfl : k = N := by omega
        have he : D.take k = D := by rw [← HN.out.2, List.take_length]
        rw [he, HSE.out, HAL.out]
        clear he
        go_wp2
        go_loopw [11, 12] (fun av iv wr => ∃ i : Nat, i ≤ k ∧ iv = .int .i64 i ∧ av = .int .i64 (arL (L.take i)) ∧ Below W8.heap.size W8 wr) (fun _ iv _ => k - (intOf iv).toNat)
        case atStart => exact ⟨0, by omega, rfl, rfl, Below.refl _ _⟩
        case round =>
          obtain ⟨i, hi, rfl, rfl, hb⟩ := hrel
          by_cases hlti : i < k
          · have hii : (i : Int) < k := by omega
            have hiL : i < L.length := by rw [HN.out.1]; exact hlti
            obtain ⟨gl, ol, e2, hCl⟩ := (hLs.step hb).at hiL
            obtain ⟨rfl, rfl⟩ : gl = q ∧ ol = 0 := by injection e2 with e2; injection e2 with e2 e3; exact ⟨e2.symm, e3.symm⟩
            obtain ⟨c0, c1, c2, c3⟩ := hCl.2 i _ (get4 hiL)
            have hat := arL_take hiL
            have hab := arL_bd (L.take i)
            rw [List.length_take] at hab
            generalize L.getD i zr4 = r at c0 c1 c2 c3 hat
            have hrb := area_nn r.x r.y r.w r.h
            obtain ⟨m, hm⟩ : ∃ m, areaI r.x r.y r.w r.h = m := ⟨_, rfl⟩
            rw [hm] at hat hrb
            have HM : Hid (areaI r.x r.y r.w r.h = m) := hm
            have HAT : Hid (arL (L.take (i + 1)) = arL (L.take i) + m) := hat
            generalize arL (L.take i) = z at hab HAT
            clear hm hat hCl e2
            simp only [Nat.zero_add] at c0 c1 c2 c3
            go_wp2_with (go_at_call 21; refine (iArea_v HM.out _).mono ?_; rintro e w3 ⟨rfl, hb3⟩)
            go_roundw
            case rel => exact ⟨i + 1, by omega, by go_num, by rw [HAT.out], bstep hb hb3 (Nat.le_refl _)⟩
            case measure => simp [intOf]; omega
          · obtain rfl : i = k := by omega
            have he : L.take i = L := by rw [← HN.out.1, List.take_length]
            rw [he]
            clear he
            go_wp2
            go_loopw [13] (fun sv wr => ∃ j : Nat, j ≤ 10 ∧ sv = .int .i64 j ∧ Below W8.heap.size W8 wr) (fun sv _ => 10 - (intOf sv).toNat)
            case atStart => exact ⟨0, by omega, rfl, hb⟩
            case round =>
              clear hb
              rename World => wo
              obtain ⟨j, hj, rfl, hb⟩ := hrel
              by_cases hltj : j < 10
              · have hji : (j : Int) < 10 := by omega
                have hBj := bstep hB hb (Nat.le_refl _)
                go_upto_region 30 with (go_at_call 22; refine (spot_any a0 len cap zs _ _ _ hl (HRD.out _ hBj) (by omega) (by omega)).mono ?_; rintro e w3 ⟨sx, sy, rfl, hsx0, hsx1, hsy0, hsy1, hb3⟩)
                have hb4 := bstep hb hb3 (Nat.le_refl _)
                have hst := ((St.nil w3).push [.int .i64 sx, .int .i64 sy] 37)
                go_wp2
                go_loopw [15, 16] (fun nv iv wr => ∃ (n m : Nat), n ≤ i ∧ m ≤ n ∧ iv = .int .i64 n ∧ nv = .int .i64 m ∧ Hid (inL (L.take n) sx sy = m) ∧ St w3 wr [(w3.heap.size, [.int .i64 sx, .int .i64 sy])]) (fun _ iv _ => i - (intOf iv).toNat)
                case atStart => exact ⟨0, 0, by omega, by omega, rfl, rfl, by simp [Hid, inL], hst⟩
                case round =>
                  clear hst
                  obtain ⟨n, m, hn, hmn, rfl, rfl, hin, hst⟩ := hrel
                  by_cases hltn : n < i
                  · have hni : (n : Int) < i := by omega
                    have hnL : n < L.length := by rw [HN.out.1]; exact hltn
                    obtain ⟨gl, ol, e2, hCl⟩ := ((hLs.step hb4).step hst.bel).at hnL
                    obtain ⟨rfl, rfl⟩ : gl = q ∧ ol = 0 := by injection e2 with e2; injection e2 with e2 e3; exact ⟨e2.symm, e3.symm⟩
                    obtain ⟨c0, c1, c2, c3⟩ := hCl.2 n _ (get4 hnL)
                    have hit := inL_take (x := sx) (y := sy) hnL
                    rw [hin.out] at hit
                    generalize L.getD n zr4 = r at c0 c1 c2 c3 hit
                    have HIT : Hid (inL (L.take (n + 1)) sx sy = m + if holdsB r.x r.y r.w r.h sx sy then 1 else 0) := hit
                    clear hit hin hCl e2
                    simp only [Nat.zero_add] at c0 c1 c2 c3
                    have hk1 := hst.has
                    simp [Has, HasAt] at hk1
                    cases hv : holdsB r.x r.y r.w r.h sx sy
                    · go_wp2
                      go_region_with ((go_at_call 23; refine (iHolds_v hv _).mono ?_; rintro e w4 ⟨rfl, hb5⟩))
                      all_goals
                        go_wp2
                        go_roundw
                        case rel => exact ⟨n + 1, m, by omega, by omega, by go_num, rfl, by show _ = _; rw [HIT.out, hv]; rfl, hst.dr.step hb5⟩
                        case measure => simp [intOf]; omega
                    · go_wp2
                      go_region_with ((go_at_call 23; refine (iHolds_v hv _).mono ?_; rintro e w4 ⟨rfl, hb5⟩))
                      all_goals
                        go_wp2
                        go_roundw
                        case rel => exact ⟨n + 1, m + 1, by omega, by omega, by go_num, by go_num, by show _ = _; rw [HIT.out, hv]; rfl, hst.dr.step hb5⟩
                        case measure => simp [intOf]; omega
                  · obtain rfl : n = i := by omega
                    have hmK : ¬ K < (m : Int) := by
                      have h1 := HIN.out sx sy
                      have h2 := hin.out
                      rw [show L.take n = L by rw [← HN.out.1, List.take_length]] at h2
                      rw [h2] at h1; omega
                    go_wp2
                    refine ⟨⟨j + 1, by omega, by go_num, bstep hb4 hst.bel (Nat.le_refl _)⟩, by simp [intOf]; omega⟩
              · obtain rfl : j = 10 := by omega
                by_cases h0 : i = 0
                · subst h0
                  have hK0 : ¬ 0 < K := fun h => by have := hKp.1 h; omega
                  go_wp2
                  go_ret
                  exact ⟨rfl, bstep hB hb (Nat.le_refl _)⟩
                · have hK0 : 0 < K := hKp.2 (by omega)
                  have hi0 : (0 : Int) < i := by omega
                  have hi00 : 0 < i := by omega
                  go_wp2
                  go_ret
                  exact ⟨rfl, bstep hB hb (Nat.le_refl _)⟩
end Go.Proofs.Ytgpgmndjkcpaoaa
