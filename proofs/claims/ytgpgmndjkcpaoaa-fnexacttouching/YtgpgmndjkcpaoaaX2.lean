/-
  The law of Touching, walked.
-/
import Derived.Test.YtgpgmndjkcpaoaaT3
import Derived.Test.YtgpgmndjkcpaoaaB1
import Derived.Deep.Cut
namespace Go.Proofs.Ytgpgmndjkcpaoaa
open Go.RowKit Go.Joins

theorem tcI_len (L : List T4) (i k : Nat) : (tcI L i k).length ≤ k := by
  unfold tcI
  rw [List.length_map]
  exact Nat.le_trans (List.length_filter_le _ _) (by simp)
theorem tcO_len (L : List T4) : ∀ i, (tcO L i).length ≤ i * L.length
  | 0 => by simp [tcO]
  | i + 1 => by
    rw [tcO_step, List.length_append]
    have h1 := tcO_len L i
    have h2 := tcI_len L i L.length
    rw [Nat.add_mul]; omega
theorem tcL_len (L : List T4) : (pI (tcL L)).length ≤ 144 := by
  unfold pI tcL
  rw [List.length_map]
  cases hs : okL L
  · simp
  · rw [if_pos rfl]
    have h1 := tcO_len L L.length
    have h2 := okL_len hs
    have h3 := Nat.mul_le_mul h2 h2
    omega
theorem rdA {w W : World} {p : Option Addr} {n cap : Nat} {gs : List Nat} {M : List (Int × Int)} {R : List Rw} (h : Sg w W (prR (.slice p n cap) gs M ++ R)) (hl : gs.length = M.length) : Rd2 W p gs M := Sg.rd2 (A := []) (B := R) h hl
theorem rdC {w W : World} {p : Option Addr} {n cap : Nat} {gs : List Nat} {M : List (Int × Int)} (h : Sg w W (prR (.slice p n cap) gs M)) (hl : gs.length = M.length) : Rd2 W p gs M := Sg.rd2 (A := []) (B := []) (by simpa using h) hl
theorem rdB {w W : World} {p : Option Addr} {v : Value} {n cap : Nat} {gs gs2 : List Nat} {M M2 : List (Int × Int)} {r : Rw} (h : Sg w W (prR v gs2 M2 ++ r :: prR (.slice p n cap) gs M)) (hl : gs.length = M.length) : Rd2 W p gs M := Sg.rd2 (A := prR v gs2 M2 ++ [r]) (B := []) (by simpa using h) hl
theorem mk4_own' {W : World} {base : Nat} {v : Value} {n : Nat} (h : Ow4 W base v (mk4 1 n)) : (Rw.mk v 35 4 n (flat4 (mk4 1 n))).own W base := by unfold Ow4 at h; rw [mk4_len] at h; exact h
set_option maxRecDepth 100000 in
set_option maxHeartbeats 4000000 in
theorem exactTouching (p : Option Addr) (cap : Nat) (L : List T4) (w : World) (hL : Sl4 w p L) (hm : L.length ≤ maxLen) :
    Calls Try.prog 7 #[.slice p L.length cap] w fun e w' => e = .returned (.bool true) ∧ Below w.heap.size w w' := by
  by_cases hn : L.length ≤ 1048576
  · have hni : (L.length : Int) ≤ 1048576 := by omega
    obtain ⟨v, hv⟩ : ∃ v, pI (tcL L) = v := ⟨_, rfl⟩
    have hM : v.length ≤ 1000 := by rw [← hv]; have := tcL_len L; omega
    have HV : Hid (pI (tcL L) = v) := hv
    clear hv
    have hMi : (0 : Int) ≤ 1 + 2 * v.length := by omega
    have hMj : ¬ (1 + 2 * (v.length : Int)) < 0 := by omega
    have hLi : (0 : Int) ≤ 1 + 4 * L.length := by omega
    have hx0 := Sg.nil w
    go_enter Try.func7, Try.ntmps7
    go_upto_region 6 with (first
      | (go_at_call 31; refine (szRectS_ok _ _ _ _ _ hni (by omega)).mono ?_; rintro e w1 ⟨rfl, hw⟩; have hw' := hw.symm; clear hw; subst hw')
      | (go_at_call 32; refine (toRectS_any p cap L _ (hL.step hx0.bel) hn).mono ?_; rintro e w1 ⟨p1, cap1, rfl, hO, hb2⟩; replace hx0 := hx0.step hb2)
      | (go_at_call 20; refine (sTouching_any _ _ _ _ (Ow4.sl hO) hn HV.out).mono ?_; rintro e w1 ⟨p2, cap2, gs1, rfl, hl1, hS1⟩; replace hx0 := hx0.addL hS1))
    rw [List.append_nil] at hx0
    go_upto_region 10 with (first
      | (go_at_call 32; refine (toRectS_any p cap L _ (hL.step hx0.bel) hn).mono ?_; rintro e w1 ⟨p3, cap3, rfl, hO3, hb2⟩; have hx := hx0.add (r := r4 _ L) hO3 hb2)
      | (go_at_call 14; refine (iTouching_any _ _ _ _ (Ow4.sl (rw_4 hx.o0)) hn HV.out).mono ?_; rintro e w1 ⟨p4, cap4, gs2, rfl, hl2, hS2⟩; replace hx := hx.addL hS2)
      | (go_at_call 34; refine (eqSS_same _ _ _ _ gs2 gs1 v _ (rdA hx hl2) (rdB hx hl1) hM).mono ?_; rintro e w1 ⟨rfl, hb2⟩; replace hx := hx.step hb2))
    go_upto_region 12 with (first
      | (go_at_call 32; refine (toRectS_any p cap L _ (hL.step hx.bel) hn).mono ?_; rintro e w1 ⟨p5, cap5, rfl, hO5, hb2⟩; replace hx := hx.step hb2)
      | (go_at_call 33; refine (eqRectS_same _ _ _ _ L _ (Ow4.sl (rw_4 (hx.own (r4 (.slice p3 L.length cap3) L) (by simp)))) (Ow4.sl hO5) (by omega)).mono ?_; rintro e w1 ⟨rfl, hb2⟩; replace hx := hx.step hb2))
    go_upto_region 16 with (first
      | (go_at_call 35; refine (markRectS_any _ _ _ L _ (rw_4 (hx.own (r4 (.slice p3 L.length cap3) L) (by simp))) (by omega)).mono ?_; rintro e w1 ⟨rfl, hO2, hg2⟩; replace hx := hx.put (r' := ⟨.slice p3 L.length cap3, 35, 4, L.length, flat4 (mk4 1 L.length)⟩) rfl (mk4_own' hO2) hg2)
      | (go_at_call 34; refine (eqSS_same _ _ _ _ gs2 gs1 v _ (rdA hx hl2) (rdB hx hl1) hM).mono ?_; rintro e w1 ⟨rfl, hb2⟩; replace hx := hx.step hb2))
    have hx2 : Sg w w1 ([] ++ prR (.slice p4 v.length cap4) gs2 v ++ (⟨.slice p3 L.length cap3, 35, 4, L.length, flat4 (mk4 1 L.length)⟩ :: prR (.slice p2 v.length cap2) gs1 v)) := by simpa using hx
    go_upto_region 18 with (go_at_call 36; refine (markSS_any p4 v.length cap4 gs2 v [] _ w _ hx2 hl2 rfl hM).mono ?_; rintro e w1 ⟨rfl, hx3⟩)
    rw [List.nil_append] at hx3
    have P1 := rdB (r := ⟨.slice p3 L.length cap3, 35, 4, L.length, flat4 (mk4 1 L.length)⟩) hx3 hl1
    have P2 := rdA hx3 (by rw [mkP_len]; exact hl2)
    have hB := hx3.bel
    clear hx hx2 hx3 hx0
    go_upto_region 24 with (first
      | (go_at_call 37; refine (heldSS_any _ v.length _ gs2 _ P2 hM).mono ?_; rintro e w1 ⟨rfl, rfl⟩))
    go_wp2_with (first
      | (go_at_call 32; refine (toRectS_any p cap L _ (hL.step hB) hn).mono ?_; rintro e w1 ⟨p6, cap6, rfl, hO6, hb2⟩; replace hB := bstep hB hb2 (Nat.le_refl _); replace P1 := P1.step hb2; replace P2 := P2.step hb2)
      | (go_at_call 14; refine (iTouching_any _ _ _ _ (Ow4.sl hO6) hn HV.out).mono ?_; rintro e w1 ⟨p7, cap7, gs7, rfl, hl7, hS7⟩; replace hB := bstep hB hS7.bel (Nat.le_refl _); replace P1 := P1.step hS7.bel; replace P2 := P2.step hS7.bel; have P7 := rdC hS7 hl7)
      | (go_at_call 34; refine (eqSS_same _ _ _ _ gs7 gs1 v _ P7 P1 hM).mono ?_; rintro e w1 ⟨rfl, hb2⟩; replace hB := bstep hB hb2 (Nat.le_refl _); replace P2 := P2.step hb2)
      | (go_at_call 37; refine (heldSS_any _ v.length _ gs2 _ P2 hM).mono ?_; rintro e w1 ⟨rfl, rfl⟩))
    go_ret
    exact ⟨rfl, hB⟩
  · have hni : (1048576 : Int) < L.length := by omega
    go_enter Try.func7, Try.ntmps7
    go_wp2_with (go_at_call 31; refine (szRectS_no _ _ _ _ _ hni (by omega) hm).mono ?_; rintro e w1 ⟨rfl, rfl⟩)
    go_ret
    exact ⟨rfl, Below.refl _ _⟩
end Go.Proofs.Ytgpgmndjkcpaoaa
