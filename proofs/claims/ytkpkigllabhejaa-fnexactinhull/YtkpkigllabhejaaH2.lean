/-
  The law of Hull, walked: the program's list is the spec's, it is new memory, the list that was handed in reads as before, and a second call answers as the first.
-/
import Derived.Test.YtkpkigllabhejaaH1
import Derived.Test.YtkpkigllabhejaaP1
namespace Go.Proofs.Ytkpkigllabhejaa
open Go.RowKit Go.Joins
attribute [local go_sem ↓] Go.wp_at_zero Go.wp_at_succ

theorem hul_len (L : List T2) : (hulT L).length ≤ 40 := by
  cases h : okS L
  · rw [hul_nil.mpr (.inl h)]; omega
  · exact okS_len (hul_ok h)
theorem markSpotS_x (p : Option Addr) (cap base : Nat) (L : List T2) (w : World) (hL : Ow w base (.slice p L.length cap) L) (hn : L.length ≤ 10000000) :
    Calls Try.prog 16 #[.slice p L.length cap, .int .i64 1] w fun e w' => e = .returned (.int .i64 (1 + 2 * L.length)) ∧ Ow w' base (.slice p L.length cap) (mk 1 L.length) ∧ w.grownBy w' (Value.slice p L.length cap).ownBlock := markSpotS_any p cap base 1 L w hL hn (by decide) (by decide)
theorem sHull_v {L M : List T2} (hM : hulT L = M) (p : Option Addr) (cap : Nat) (hn : L.length ≤ 1048576) (w : World) (hL : Sl w p L) :
    Calls Try.prog 11 #[.slice p L.length cap] w fun e w' => ∃ q cap', e = .returned (.slice q M.length cap') ∧ Ow w' w.heap.size (.slice q M.length cap') M ∧ Below w.heap.size w w' := by
  subst hM
  exact (sHull_any p cap L hn w hL).mono fun _ _ ⟨q, c, h⟩ => ⟨_, c, h⟩
theorem iHull_v {L M : List T2} (hM : hulT L = M) (p : Option Addr) (cap : Nat) (hn : L.length ≤ 1048576) (w : World) (hL : Sl w p L) :
    Calls Try.prog 14 #[.slice p L.length cap] w fun e w' => ∃ q cap', e = .returned (.slice q M.length cap') ∧ Ow w' w.heap.size (.slice q M.length cap') M ∧ Below w.heap.size w w' := by
  subst hM
  exact iHull_any p cap L hn w hL

set_option maxRecDepth 100000 in
set_option maxHeartbeats 4000000 in
theorem exactHull (p : Option Addr) (cap : Nat) (L : List T2) (w : World) (hL : Sl w p L) (hm : L.length ≤ maxLen) :
    Calls Try.prog 4 #[.slice p L.length cap] w fun e w' => e = .returned (.bool true) ∧ Below w.heap.size w w' := by
  by_cases hn : L.length ≤ 1048576
  · have hni : (L.length : Int) ≤ 1048576 := by omega
    generalize hJ : hulT L = M
    have hM : M.length ≤ 40 := by rw [← hJ]; exact hul_len L
    have hMi : (0 : Int) ≤ 1 + 2 * M.length := by omega
    have hLi : (0 : Int) ≤ 1 + 2 * L.length := by omega
    have hx := Sx.nil w
    go_enter Try.func4, Try.ntmps4
    go_upto_region 6 with (first
      | (go_at_call 12; refine (szSpotS_ok _ _ _ _ _ hni (by omega)).mono ?_; rintro e w1 ⟨rfl, rfl⟩)
      | (go_at_call 13; refine (toSpotS_any p cap L _ (hL.step hx.bel) hn).mono ?_; rintro e w1 ⟨p1, cap1, rfl, hO, hb2⟩; replace hx := hx.add hO hb2)
      | (go_at_call 11; refine (sHull_v hJ _ _ hn _ (Ow.sl hx.o0)).mono ?_; rintro e w1 ⟨p2, cap2, rfl, hO, hb2⟩; replace hx := (hx.add hO hb2).d1))
    go_upto_region 10 with (first
      | (go_at_call 13; refine (toSpotS_any p cap L _ (hL.step hx.bel) hn).mono ?_; rintro e w1 ⟨p3, cap3, rfl, hO, hb2⟩; replace hx := hx.add hO hb2)
      | (go_at_call 14; refine (iHull_v hJ _ _ hn _ (Ow.sl hx.o0)).mono ?_; rintro e w1 ⟨p4, cap4, rfl, hO, hb2⟩; replace hx := hx.add hO hb2)
      | (go_at_call 15; refine (eqSpotS_same _ _ _ _ M _ (Ow.sl hx.o0) (Ow.sl hx.o2) (by omega)).mono ?_; rintro e w1 ⟨rfl, hb2⟩; replace hx := hx.step hb2))
    go_upto_region 12 with (first
      | (go_at_call 13; refine (toSpotS_any p cap L _ (hL.step hx.bel) hn).mono ?_; rintro e w1 ⟨p5, cap5, rfl, hO, hb2⟩; replace hx := hx.add hO hb2)
      | (go_at_call 15; refine (eqSpotS_same _ _ _ _ L _ (Ow.sl hx.o2) (Ow.sl hx.o0) (by omega)).mono ?_; rintro e w1 ⟨rfl, hb2⟩; replace hx := (hx.step hb2).d0))
    go_upto_region 16 with (first
      | (go_at_call 16; refine (markSpotS_x _ _ _ L _ hx.o1 (by omega)).mono ?_; rintro e w1 ⟨rfl, hO2, hg2⟩; replace hx := hx.put (A := [_]) hO2 hg2; simp only [List.cons_append, List.nil_append] at hx)
      | (go_at_call 15; refine (eqSpotS_same _ _ _ _ M _ (Ow.sl hx.o0) (Ow.sl hx.o2) (by omega)).mono ?_; rintro e w1 ⟨rfl, hb2⟩; replace hx := hx.step hb2))
    go_upto_region 24 with (first
      | (go_at_call 16; refine (markSpotS_x _ _ _ M _ hx.o0 (by omega)).mono ?_; rintro e w1 ⟨rfl, hO2, hg2⟩; replace hx := hx.put (A := []) hO2 hg2; simp only [List.nil_append] at hx)
      | (go_at_call 17; refine (heldSpotS_any _ _ 1 M.length _ (Ow.sl hx.o0) (by omega) (by decide) (by decide)).mono ?_; rintro e w1 ⟨rfl, rfl⟩))
    go_wp2_with (first
      | (go_at_call 13; refine (toSpotS_any p cap L _ (hL.step hx.bel) hn).mono ?_; rintro e w1 ⟨p6, cap6, rfl, hO, hb2⟩; replace hx := hx.add hO hb2)
      | (go_at_call 14; refine (iHull_v hJ _ _ hn _ (Ow.sl hx.o0)).mono ?_; rintro e w1 ⟨p7, cap7, rfl, hO, hb2⟩; replace hx := (hx.add hO hb2).d1)
      | (go_at_call 15; refine (eqSpotS_same _ _ _ _ M _ (Ow.sl hx.o0) (Ow.sl hx.o3) (by omega)).mono ?_; rintro e w1 ⟨rfl, hb2⟩; replace hx := hx.step hb2)
      | (go_at_call 17; refine (heldSpotS_any _ _ 1 M.length _ (Ow.sl hx.o1) (by omega) (by decide) (by decide)).mono ?_; rintro e w1 ⟨rfl, rfl⟩))
    go_ret
    exact ⟨rfl, hx.bel⟩
  · have hni : (1048576 : Int) < L.length := by omega
    go_enter Try.func4, Try.ntmps4
    go_wp2_with (go_at_call 12; refine (szSpotS_no _ _ _ _ _ hni (by omega) hm).mono ?_; rintro e w1 ⟨rfl, rfl⟩)
    go_ret
    exact ⟨rfl, Below.refl _ _⟩
end Go.Proofs.Ytkpkigllabhejaa
