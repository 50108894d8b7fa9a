/-
  The law of Within, walked: the program counts as many Spots as the spec reckons out of area and edges, and the list that was handed in reads as before.
-/
import Derived.Test.YtipdfajojcpolaaV3
namespace Go.Proofs.Ytipdfajojcpolaa
open Go.RowKit Go.Joins
attribute [local go_sem ↓] Go.wp_at_zero Go.wp_at_succ

set_option maxHeartbeats 1000000 in
theorem iWithin_any (p : Option Addr) (cap : Nat) (L : List T2) (w : World) (hL : Sl w p L) (hn : L.length ≤ 1048576) :
    Calls Try.prog 13 #[.slice p L.length cap] w fun e w' => e = .returned (.int .i64 (witI L)) ∧ Below w.heap.size w w' := by
  cases hv : shB L
  · have e : witI L = -1 := by simp [witI, hv]
    rw [e]
    go_enter Try.func13, Try.ntmps13
    go_wp2_with fail
    go_step3
    go_wp2_with (go_at_call 18; refine (iShapeOk_v hv _ _ _ hL hn).mono ?_; rintro e w1 ⟨rfl, hb⟩)
    try rw [Exit.noGoto_ret]
    go_ret
    exact ⟨rfl, hb⟩
  · have hr := sh_rt hv
    obtain ⟨l3, l12⟩ := rt_len hr
    obtain ⟨X0, Y0, wN, hN, hbx⟩ := bx_ex hr
    obtain ⟨g, off, rfl, hC⟩ := hL.at (k := 0) (by omega)
    rw [wit_bx hv hbx]
    exact iWithin_ok hv hbx rfl g off cap w hL hC l12 (by omega) (rt_all hr) (fun i hi => nth_ok hr hi)
theorem iWithin_v {L : List T2} {v : Int} (hv : witI L = v) (p : Option Addr) (cap : Nat) (w : World) (hL : Sl w p L) (hn : L.length ≤ 1048576) :
    Calls Try.prog 13 #[.slice p L.length cap] w fun e w' => e = .returned (.int .i64 v) ∧ Below w.heap.size w w' := by subst hv; exact iWithin_any p cap L w hL hn
theorem sWithin_v {L : List T2} {v : Int} (hv : witI L = v) (p : Option Addr) (cap : Nat) (w : World) (hL : Sl w p L) (hn : L.length ≤ 1048576) :
    Calls Try.prog 17 #[.slice p L.length cap] w fun e w' => e = .returned (.int .i64 v) ∧ Below w.heap.size w w' := by subst hv; exact sWithin_any p cap L w hL hn

set_option maxHeartbeats 2000000 in
theorem exactWithin (p : Option Addr) (cap : Nat) (L : List T2) (w : World) (hL : Sl w p L) (hm : L.length ≤ maxLen) :
    Calls Try.prog 7 #[.slice p L.length cap] w fun e w' => e = .returned (.bool true) ∧ Below w.heap.size w w' := by
  by_cases hn : L.length ≤ 1048576
  · have hni : (L.length : Int) ≤ 1048576 := by omega
    have hx := Sx.nil w
    generalize hv : witI L = v
    go_enter Try.func7, Try.ntmps7
    go_wp2_with (first
      | (go_at_call 22; refine (szSpotS_ok _ _ _ _ _ hni (by omega)).mono ?_; rintro e w1 ⟨rfl, rfl⟩)
      | (go_at_call 23; refine (toSpotS_any p cap L _ (hL.step hx.bel) hn).mono ?_; rintro e w1 ⟨p1, cap1, rfl, hO, hb2⟩; replace hx := hx.add hO hb2)
      | (go_at_call 17; refine (sWithin_v hv _ _ _ (Ow.sl (hx.own _ (List.mem_cons_self ..))) hn).mono ?_; rintro e w1 ⟨rfl, hb2⟩; replace hx := hx.step hb2)
      | (go_at_call 13; refine (iWithin_v hv _ _ _ (Ow.sl (hx.own _ (List.mem_cons_self ..))) hn).mono ?_; rintro e w1 ⟨rfl, hb2⟩; replace hx := hx.step hb2)
      | (go_at_call 24; refine (eqSpotS_same _ _ _ _ L _ (Ow.sl (hx.own _ (List.mem_cons_of_mem _ (List.mem_cons_self ..)))) (Ow.sl (hx.own _ (List.mem_cons_self ..))) (by omega)).mono ?_; rintro e w1 ⟨rfl, hb2⟩; replace hx := hx.step hb2))
    all_goals (go_ret; exact ⟨rfl, hx.bel⟩)
  · have hni : (1048576 : Int) < L.length := by omega
    go_enter Try.func7, Try.ntmps7
    go_wp2_with (go_at_call 22; refine (szSpotS_no _ _ _ _ _ hni (by omega) hm).mono ?_; rintro e w1 ⟨rfl, rfl⟩)
    go_ret
    exact ⟨rfl, Below.refl _ _⟩
end Go.Proofs.Ytipdfajojcpolaa
