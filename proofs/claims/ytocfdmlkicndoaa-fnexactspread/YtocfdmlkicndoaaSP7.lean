/-
  The law of Spread, walked.
-/
import Derived.Test.YtocfdmlkicndoaaSP4
import Derived.Test.YtocfdmlkicndoaaSP5
import Derived.Test.YtocfdmlkicndoaaSP6
namespace Go.Proofs.Ytocfdmlkicndoaa
open Go.RowKit Go.Joins
attribute [local go_sem ↓] Go.wp_at_zero Go.wp_at_succ

theorem spL_len (L : List T2) : (spL L).length ≤ 40 := by
  unfold spL
  cases hs : hpr L
  · simp
  · rw [if_pos rfl, sprK_len]; exact okS_len ((Bool.and_eq_true _ _).mp hs).1
theorem markSpotS_x (p : Option Addr) (cap base : Nat) (L : List T2) (w : World) (hL : Ow w base (.slice p L.length cap) L) (hn : L.length ≤ 10000000) :
    Calls Try.prog 26 #[.slice p L.length cap, .int .i64 1] w fun e w' => e = .returned (.int .i64 (1 + 2 * L.length)) ∧ Ow w' base (.slice p L.length cap) (mk 1 L.length) ∧ w.grownBy w' (Value.slice p L.length cap).ownBlock := markSpotS_any p cap base 1 L w hL hn (by decide) (by decide)
theorem markInt64S_x (p : Option Addr) (cap base : Nat) (L : List Int) (w : World) (hL : Ow1 w base (.slice p L.length cap) L) (hn : L.length ≤ 10000000) :
    Calls Try.prog 27 #[.slice p L.length cap, .int .i64 1] w fun e w' => e = .returned (.int .i64 (1 + L.length)) ∧ Ow1 w' base (.slice p L.length cap) (mk1 1 L.length) ∧ w.grownBy w' (Value.slice p L.length cap).ownBlock := markInt64S_any p cap base 1 L w hL hn (by decide) (by decide)

theorem mk_own {W : World} {base : Nat} {v : Value} {n : Nat} (h : Ow W base v (mk 1 n)) : (Rw.mk v 37 2 n (flat (mk 1 n))).own W base := by unfold Ow at h; rw [mk_len] at h; exact h
set_option maxRecDepth 100000 in
set_option maxHeartbeats 4000000 in
theorem exactSpread (p : Option Addr) (cap : Nat) (L : List T2) (w : World) (hL : Sl w p L) (hm : L.length ≤ maxLen) :
    Calls Try.prog 7 #[.slice p L.length cap] w fun e w' => e = .returned (.bool true) ∧ Below w.heap.size w w' := by
  by_cases hn : L.length ≤ 1048576
  · have hni : (L.length : Int) ≤ 1048576 := by omega
    obtain ⟨v, hv⟩ : ∃ v, spL L = v := ⟨_, rfl⟩
    have hM : v.length ≤ 40 := by rw [← hv]; exact spL_len L
    have HV : Hid (spL L = v) := hv
    clear hv
    have hMi : (0 : Int) ≤ 1 + v.length := by omega
    have hLi : (0 : Int) ≤ 1 + 2 * L.length := by omega
    have hx := Sg.nil w
    go_enter Try.func7, Try.ntmps7
    go_upto_region 6 with (first
      | (go_at_call 22; refine (szSpotS_ok _ _ _ _ _ hni (by omega)).mono ?_; rintro e w1 ⟨rfl, rfl⟩)
      | (go_at_call 23; refine (toSpotS_any p cap L _ (hL.step hx.bel) hn).mono ?_; rintro e w1 ⟨p1, cap1, rfl, hO, hb2⟩; replace hx := hx.add (r := rS _ L) hO hb2)
      | (go_at_call 18; refine (sSpread_any _ _ _ _ (Ow.sl (rw_s hx.o0)) hn HV.out).mono ?_; rintro e w1 ⟨p2, cap2, rfl, hO, hb2⟩; replace hx := (hx.add (r := r1 _ v) hO hb2).d1))
    go_upto_region 10 with (first
      | (go_at_call 23; refine (toSpotS_any p cap L _ (hL.step hx.bel) hn).mono ?_; rintro e w1 ⟨p3, cap3, rfl, hO, hb2⟩; replace hx := hx.add (r := rS _ L) hO hb2)
      | (go_at_call 12; refine (iSpread_any _ _ _ _ (Ow.sl (rw_s hx.o0)) (Ow.cap (rw_s hx.o0)) hn HV.out).mono ?_; rintro e w1 ⟨p4, cap4, rfl, hO, hb2⟩; replace hx := hx.add (r := r1 _ v) hO hb2)
      | (go_at_call 25; refine (eqInt64S_same _ _ _ _ v _ (Ow1.sl (rw_i hx.o0)) (Ow1.sl (rw_i hx.o2)) (by omega)).mono ?_; rintro e w1 ⟨rfl, hb2⟩; replace hx := hx.step hb2))
    go_upto_region 12 with (first
      | (go_at_call 23; refine (toSpotS_any p cap L _ (hL.step hx.bel) hn).mono ?_; rintro e w1 ⟨p5, cap5, rfl, hO, hb2⟩; replace hx := hx.add (r := rS _ L) hO hb2)
      | (go_at_call 24; refine (eqSpotS_same _ _ _ _ L _ (Ow.sl (rw_s hx.o2)) (Ow.sl (rw_s hx.o0)) (by omega)).mono ?_; rintro e w1 ⟨rfl, hb2⟩; replace hx := (hx.step hb2).d0))
    go_upto_region 16 with (first
      | (go_at_call 26; refine (markSpotS_x _ _ _ L _ (rw_s hx.o1) (by omega)).mono ?_; rintro e w1 ⟨rfl, hO2, hg2⟩; replace hx := hx.put (A := [_]) (r' := ⟨(rS _ L).v, 37, 2, L.length, flat (mk 1 L.length)⟩) rfl (mk_own hO2) hg2; simp only [List.cons_append, List.nil_append] at hx)
      | (go_at_call 25; refine (eqInt64S_same _ _ _ _ v _ (Ow1.sl (rw_i hx.o0)) (Ow1.sl (rw_i hx.o2)) (by omega)).mono ?_; rintro e w1 ⟨rfl, hb2⟩; replace hx := hx.step hb2))
    go_upto_region 24 with (first
      | (go_at_call 27; refine (markInt64S_x _ _ _ v _ (rw_i hx.o0) (by omega)).mono ?_; rintro e w1 ⟨rfl, hO2, hg2⟩; replace hx := hx.put (A := []) (r' := r1 _ (mk1 1 v.length)) rfl hO2 hg2; simp only [List.nil_append] at hx)
      | (go_at_call 28; refine (heldInt64S_any _ _ 1 v.length _ (Ow1.sl (rw_i hx.o0)) (by omega) (by decide) (by decide)).mono ?_; rintro e w1 ⟨rfl, rfl⟩))
    go_wp2_with (first
      | (go_at_call 23; refine (toSpotS_any p cap L _ (hL.step hx.bel) hn).mono ?_; rintro e w1 ⟨p6, cap6, rfl, hO, hb2⟩; replace hx := hx.add (r := rS _ L) hO hb2)
      | (go_at_call 12; refine (iSpread_any _ _ _ _ (Ow.sl (rw_s hx.o0)) (Ow.cap (rw_s hx.o0)) hn HV.out).mono ?_; rintro e w1 ⟨p7, cap7, rfl, hO, hb2⟩; replace hx := (hx.add (r := r1 _ v) hO hb2).d1)
      | (go_at_call 25; refine (eqInt64S_same _ _ _ _ v _ (Ow1.sl (rw_i hx.o0)) (Ow1.sl (rw_i hx.o3)) (by omega)).mono ?_; rintro e w1 ⟨rfl, hb2⟩; replace hx := hx.step hb2)
      | (go_at_call 28; refine (heldInt64S_any _ _ 1 v.length _ (Ow1.sl (rw_i hx.o1)) (by omega) (by decide) (by decide)).mono ?_; rintro e w1 ⟨rfl, rfl⟩))
    go_ret
    exact ⟨rfl, hx.bel⟩
  · have hni : (1048576 : Int) < L.length := by omega
    go_enter Try.func7, Try.ntmps7
    go_wp2_with (go_at_call 22; refine (szSpotS_no _ _ _ _ _ hni (by omega) hm).mono ?_; rintro e w1 ⟨rfl, rfl⟩)
    go_ret
    exact ⟨rfl, Below.refl _ _⟩
end Go.Proofs.Ytocfdmlkicndoaa
