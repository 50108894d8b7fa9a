/-
  The laws of Together, Deepest and Depths, walked.
-/
import Derived.Test.YtgpgmndjkcpaoaaA7S
import Derived.Test.YtgpgmndjkcpaoaaB1
import Derived.Deep.Cut
namespace Go.Proofs.Ytgpgmndjkcpaoaa
open Go.RowKit Go.Joins

set_option maxRecDepth 100000 in
set_option maxHeartbeats 4000000 in
theorem exactTogether (p : Option Addr) (cap : Nat) (L : List T4) (w : World) (hL : Sl4 w p L) (hm : L.length ≤ maxLen) :
    Calls Try.prog 5 #[.slice p L.length cap] w fun e w' => e = .returned (.bool true) ∧ Below w.heap.size w w' := by
  by_cases hn : L.length ≤ 1048576
  · have hni : (L.length : Int) ≤ 1048576 := by omega
    obtain ⟨v, hv⟩ : ∃ v, tgL L = v := ⟨_, rfl⟩
    have HV : Hid (tgL L = v) := hv
    clear hv
    have hx := Sg.nil w
    go_enter Try.func5, Try.ntmps5
    go_upto_region 6 with (first
      | (go_at_call 31; refine (szRectS_ok _ _ _ _ _ hni (by omega)).mono ?_; rintro e w1 ⟨rfl, rfl⟩)
      | (go_at_call 32; refine (toRectS_any p cap L _ (hL.step hx.bel) hn).mono ?_; rintro e w1 ⟨p1, cap1, rfl, hO, hb2⟩; replace hx := hx.add (r := r4 _ L) hO hb2)
      | (go_at_call 15; refine (sTogether_any _ _ _ _ (Ow4.sl (rw_4 hx.o0)) hn HV.out).mono ?_; rintro e w1 ⟨rfl, hb2⟩; replace hx := (hx.step hb2).d0))
    go_upto_region 10 with (first
      | (go_at_call 32; refine (toRectS_any p cap L _ (hL.step hx.bel) hn).mono ?_; rintro e w1 ⟨p3, cap3, rfl, hO, hb2⟩; replace hx := hx.add (r := r4 _ L) hO hb2)
      | (go_at_call 11; refine (iTogether_any _ _ _ _ (Ow4.sl (rw_4 hx.o0)) hn HV.out).mono ?_; rintro e w1 ⟨rfl, hb2⟩; replace hx := hx.step hb2))
    go_wp2_with (first
      | (go_at_call 32; refine (toRectS_any p cap L _ (hL.step hx.bel) hn).mono ?_; rintro e w1 ⟨p5, cap5, rfl, hO, hb2⟩; replace hx := hx.add (r := r4 _ L) hO hb2)
      | (go_at_call 33; refine (eqRectS_same _ _ _ _ L _ (Ow4.sl (rw_4 hx.o1)) (Ow4.sl (rw_4 hx.o0)) (by omega)).mono ?_; rintro e w1 ⟨rfl, hb2⟩; replace hx := hx.step hb2))
    go_ret
    exact ⟨rfl, hx.bel⟩
  · have hni : (1048576 : Int) < L.length := by omega
    go_enter Try.func5, Try.ntmps5
    go_wp2_with (go_at_call 31; refine (szRectS_no _ _ _ _ _ hni (by omega) hm).mono ?_; rintro e w1 ⟨rfl, rfl⟩)
    go_ret
    exact ⟨rfl, Below.refl _ _⟩

set_option maxRecDepth 100000 in
set_option maxHeartbeats 4000000 in
theorem exactDeepest (p : Option Addr) (cap : Nat) (L : List T4) (w : World) (hL : Sl4 w p L) (hm : L.length ≤ maxLen) :
    Calls Try.prog 6 #[.slice p L.length cap] w fun e w' => e = .returned (.bool true) ∧ Below w.heap.size w w' := by
  by_cases hn : L.length ≤ 1048576
  · have hni : (L.length : Int) ≤ 1048576 := by omega
    obtain ⟨v, hv⟩ : ∃ v, dpL L = v := ⟨_, rfl⟩
    have HV : Hid (dpL L = v) := hv
    clear hv
    have hx := Sg.nil w
    go_enter Try.func6, Try.ntmps6
    go_upto_region 6 with (first
      | (go_at_call 31; refine (szRectS_ok _ _ _ _ _ hni (by omega)).mono ?_; rintro e w1 ⟨rfl, rfl⟩)
      | (go_at_call 32; refine (toRectS_any p cap L _ (hL.step hx.bel) hn).mono ?_; rintro e w1 ⟨p1, cap1, rfl, hO, hb2⟩; replace hx := hx.add (r := r4 _ L) hO hb2)
      | (go_at_call 18; refine (sDeepest_any _ _ _ _ (Ow4.sl (rw_4 hx.o0)) hn HV.out).mono ?_; rintro e w1 ⟨rfl, hb2⟩; replace hx := (hx.step hb2).d0))
    go_upto_region 10 with (first
      | (go_at_call 32; refine (toRectS_any p cap L _ (hL.step hx.bel) hn).mono ?_; rintro e w1 ⟨p3, cap3, rfl, hO, hb2⟩; replace hx := hx.add (r := r4 _ L) hO hb2)
      | (go_at_call 13; refine (iDeepest_any _ _ _ _ (Ow4.sl (rw_4 hx.o0)) hn HV.out).mono ?_; rintro e w1 ⟨rfl, hb2⟩; replace hx := hx.step hb2))
    go_wp2_with (first
      | (go_at_call 32; refine (toRectS_any p cap L _ (hL.step hx.bel) hn).mono ?_; rintro e w1 ⟨p5, cap5, rfl, hO, hb2⟩; replace hx := hx.add (r := r4 _ L) hO hb2)
      | (go_at_call 33; refine (eqRectS_same _ _ _ _ L _ (Ow4.sl (rw_4 hx.o1)) (Ow4.sl (rw_4 hx.o0)) (by omega)).mono ?_; rintro e w1 ⟨rfl, hb2⟩; replace hx := hx.step hb2))
    go_ret
    exact ⟨rfl, hx.bel⟩
  · have hni : (1048576 : Int) < L.length := by omega
    go_enter Try.func6, Try.ntmps6
    go_wp2_with (go_at_call 31; refine (szRectS_no _ _ _ _ _ hni (by omega) hm).mono ?_; rintro e w1 ⟨rfl, rfl⟩)
    go_ret
    exact ⟨rfl, Below.refl _ _⟩

theorem dcL_len (L : List T4) : (dcL L).length ≤ 12 := by
  unfold dcL
  cases hs : okL L
  · simp
  · rw [if_pos rfl, drop_len]; exact okL_len hs
theorem markInt64S_x (p : Option Addr) (cap base : Nat) (L : List Int) (w : World) (hL : Ow1 w base (.slice p L.length cap) L) (hn : L.length ≤ 10000000) :
    Calls Try.prog 39 #[.slice p L.length cap, .int .i64 1] w fun e w' => e = .returned (.int .i64 (1 + L.length)) ∧ Ow1 w' base (.slice p L.length cap) (mk1 1 L.length) ∧ w.grownBy w' (Value.slice p L.length cap).ownBlock := markInt64S_any p cap base 1 L w hL hn (by decide) (by decide)
theorem mk4_own {W : World} {base : Nat} {v : Value} {n : Nat} (h : Ow4 W base v (mk4 1 n)) : (Rw.mk v 35 4 n (flat4 (mk4 1 n))).own W base := by unfold Ow4 at h; rw [mk4_len] at h; exact h
set_option maxRecDepth 100000 in
set_option maxHeartbeats 4000000 in
theorem exactDepths (p : Option Addr) (cap : Nat) (L : List T4) (w : World) (hL : Sl4 w p L) (hm : L.length ≤ maxLen) :
    Calls Try.prog 8 #[.slice p L.length cap] w fun e w' => e = .returned (.bool true) ∧ Below w.heap.size w w' := by
  by_cases hn : L.length ≤ 1048576
  · have hni : (L.length : Int) ≤ 1048576 := by omega
    obtain ⟨v, hv⟩ : ∃ v, dcL L = v := ⟨_, rfl⟩
    have hM : v.length ≤ 40 := by rw [← hv]; have := dcL_len L; omega
    have HV : Hid (dcL L = v) := hv
    clear hv
    have hMi : (0 : Int) ≤ 1 + v.length := by omega
    have hLi : (0 : Int) ≤ 1 + 4 * L.length := by omega
    have hx := Sg.nil w
    go_enter Try.func8, Try.ntmps8
    go_upto_region 6 with (first
      | (go_at_call 31; refine (szRectS_ok _ _ _ _ _ hni (by omega)).mono ?_; rintro e w1 ⟨rfl, rfl⟩)
      | (go_at_call 32; refine (toRectS_any p cap L _ (hL.step hx.bel) hn).mono ?_; rintro e w1 ⟨p1, cap1, rfl, hO, hb2⟩; replace hx := hx.add (r := r4 _ L) hO hb2)
      | (go_at_call 17; refine (sDepths_any _ _ _ _ (Ow4.sl (rw_4 hx.o0)) hn HV.out).mono ?_; rintro e w1 ⟨p2, cap2, rfl, hO, hb2⟩; replace hx := (hx.add (r := r1 _ v) hO hb2).d1))
    go_upto_region 10 with (first
      | (go_at_call 32; refine (toRectS_any p cap L _ (hL.step hx.bel) hn).mono ?_; rintro e w1 ⟨p3, cap3, rfl, hO, hb2⟩; replace hx := hx.add (r := r4 _ L) hO hb2)
      | (go_at_call 12; refine (iDepths_any _ _ _ _ (Ow4.sl (rw_4 hx.o0)) hn HV.out).mono ?_; rintro e w1 ⟨p4, cap4, rfl, hO, hb2⟩; replace hx := hx.add (r := r1 _ v) hO hb2)
      | (go_at_call 38; refine (eqInt64S_same _ _ _ _ v _ (Ow1.sl (rw_i hx.o0)) (Ow1.sl (rw_i hx.o2)) (by omega)).mono ?_; rintro e w1 ⟨rfl, hb2⟩; replace hx := hx.step hb2))
    go_upto_region 12 with (first
      | (go_at_call 32; refine (toRectS_any p cap L _ (hL.step hx.bel) hn).mono ?_; rintro e w1 ⟨p5, cap5, rfl, hO, hb2⟩; replace hx := hx.add (r := r4 _ L) hO hb2)
      | (go_at_call 33; refine (eqRectS_same _ _ _ _ L _ (Ow4.sl (rw_4 hx.o2)) (Ow4.sl (rw_4 hx.o0)) (by omega)).mono ?_; rintro e w1 ⟨rfl, hb2⟩; replace hx := (hx.step hb2).d0))
    go_upto_region 16 with (first
      | (go_at_call 35; refine (markRectS_any _ _ _ L _ (rw_4 hx.o1) (by omega)).mono ?_; rintro e w1 ⟨rfl, hO2, hg2⟩; replace hx := hx.put (A := [_]) (r' := ⟨(r4 _ L).v, 35, 4, L.length, flat4 (mk4 1 L.length)⟩) rfl (mk4_own hO2) hg2; simp only [List.cons_append, List.nil_append] at hx)
      | (go_at_call 38; refine (eqInt64S_same _ _ _ _ v _ (Ow1.sl (rw_i hx.o0)) (Ow1.sl (rw_i hx.o2)) (by omega)).mono ?_; rintro e w1 ⟨rfl, hb2⟩; replace hx := hx.step hb2))
    go_upto_region 24 with (first
      | (go_at_call 39; refine (markInt64S_x _ _ _ v _ (rw_i hx.o0) (by omega)).mono ?_; rintro e w1 ⟨rfl, hO2, hg2⟩; replace hx := hx.put (A := []) (r' := r1 _ (mk1 1 v.length)) rfl hO2 hg2; simp only [List.nil_append] at hx)
      | (go_at_call 40; refine (heldInt64S_any _ _ 1 v.length _ (Ow1.sl (rw_i hx.o0)) (by omega) (by decide) (by decide)).mono ?_; rintro e w1 ⟨rfl, rfl⟩))
    go_wp2_with (first
      | (go_at_call 32; refine (toRectS_any p cap L _ (hL.step hx.bel) hn).mono ?_; rintro e w1 ⟨p6, cap6, rfl, hO, hb2⟩; replace hx := hx.add (r := r4 _ L) hO hb2)
      | (go_at_call 12; refine (iDepths_any _ _ _ _ (Ow4.sl (rw_4 hx.o0)) hn HV.out).mono ?_; rintro e w1 ⟨p7, cap7, rfl, hO, hb2⟩; replace hx := (hx.add (r := r1 _ v) hO hb2).d1)
      | (go_at_call 38; refine (eqInt64S_same _ _ _ _ v _ (Ow1.sl (rw_i hx.o0)) (Ow1.sl (rw_i hx.o3)) (by omega)).mono ?_; rintro e w1 ⟨rfl, hb2⟩; replace hx := hx.step hb2)
      | (go_at_call 40; refine (heldInt64S_any _ _ 1 v.length _ (Ow1.sl (rw_i hx.o1)) (by omega) (by decide) (by decide)).mono ?_; rintro e w1 ⟨rfl, rfl⟩))
    go_ret
    exact ⟨rfl, hx.bel⟩
  · have hni : (1048576 : Int) < L.length := by omega
    go_enter Try.func8, Try.ntmps8
    go_wp2_with (go_at_call 31; refine (szRectS_no _ _ _ _ _ hni (by omega) hm).mono ?_; rintro e w1 ⟨rfl, rfl⟩)
    go_ret
    exact ⟨rfl, Below.refl _ _⟩
end Go.Proofs.Ytgpgmndjkcpaoaa
