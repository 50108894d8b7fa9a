/-
  The law of InHull, walked: the program answers as the spec does, and the list that was handed in reads as before.
-/
import Derived.Test.YtkpkigllabhejaaQ3
namespace Go.Proofs.Ytkpkigllabhejaa
open Go.RowKit Go.Joins
attribute [local go_sem ↓] Go.wp_at_zero Go.wp_at_succ

theorem sIn_v {L : List T2} {x y : Int} {v : Bool} (hv : inB L ⟨x, y⟩ = v) (p : Option Addr) (cap : Nat) (w : World) (hL : Sl w p L) (hn : L.length ≤ 1048576) :
    Calls Try.prog 18 #[.slice p L.length cap, .agg #[.int .i64 x, .int .i64 y]] w fun e w' => e = .returned (.bool v) ∧ Below w.heap.size w w' := by subst hv; exact sIn_any L ⟨x, y⟩ p cap w hL hn
theorem iIn_v {L : List T2} {x y : Int} {v : Bool} (hv : inB L ⟨x, y⟩ = v) (p : Option Addr) (cap : Nat) (w : World) (hL : Sl w p L) (hn : L.length ≤ 1048576) :
    Calls Try.prog 20 #[.slice p L.length cap, .agg #[.int .i64 x, .int .i64 y]] w fun e w' => e = .returned (.bool v) ∧ Below w.heap.size w w' := by subst hv; exact iIn_any L ⟨x, y⟩ p cap w hL hn
theorem hasN {W : World} {b : Nat} {x y : Int} (h : Has W [(b, [.int .i64 x, .int .i64 y])]) : W.cell? ⟨b, 0, none⟩ = some (.int .i64 x) ∧ W.cell? ⟨b, 1, none⟩ = some (.int .i64 y) := by simp [Has, HasAt] at h; simp [h]

set_option maxRecDepth 100000 in
set_option maxHeartbeats 4000000 in
theorem exactInHull (p : Option Addr) (cap : Nat) (L : List T2) (x y : Int) (w : World) (hL : Sl w p L) (hm : L.length ≤ maxLen) :
    Calls Try.prog 5 #[.slice p L.length cap, .agg #[.int .i64 x, .int .i64 y]] w fun e w' => e = .returned (.bool true) ∧ Below w.heap.size w w' := by
  have hst := ((St.nil w).push [.int .i64 x, .int .i64 y] 36)
  by_cases hn : L.length ≤ 1048576
  · have hni : (L.length : Int) ≤ 1048576 := by omega
    have hS : ∀ w', St w w' [(w.heap.size, [.int .i64 x, .int .i64 y])] → (w'.cell? ⟨w.heap.size, 0, none⟩ = some (.int .i64 x) ∧ w'.cell? ⟨w.heap.size, 1, none⟩ = some (.int .i64 y)) := fun w' h => hasN h.has
    have hcc := hS _ hst
    cases hv : inB L ⟨x, y⟩
    all_goals
      go_enter Try.func5, Try.ntmps5
      go_upto_region 5 with (go_at_call 12; refine (szSpotS_ok _ _ _ _ _ hni (by omega)).mono ?_; rintro e w1 ⟨rfl, rfl⟩)
      go_region_held3 (fun w' => St w w' [(w.heap.size, [.int .i64 x, .int .i64 y])] ∧ (w'.cell? ⟨w.heap.size, 0, none⟩ = some (.int .i64 x) ∧ w'.cell? ⟨w.heap.size, 1, none⟩ = some (.int .i64 y))) (first | exact ‹St _ _ _ ∧ _› | exact keepS hS ((‹St _ _ _ ∧ _›).1.step hb4) | exact keepS hS ((‹St _ _ _ ∧ _›).1.step hb3) | exact keepS hS ((‹St _ _ _ ∧ _›).1.step hb2) | exact keepS hS hst.dr | fail)
        (first
          | (go_at_call 13; refine (toSpotS_any p cap L _ (hL.step (‹St _ _ _ ∧ _›).1.bel) hn).mono ?_; rintro e w2 ⟨p1, cap1, rfl, hO, hb2⟩)
          | (go_at_call 13; refine (toSpotS_any p cap L _ (hL.step hst.dr.bel) hn).mono ?_; rintro e w2 ⟨p1, cap1, rfl, hO, hb2⟩)
          | (go_at_call 19; refine (toSpot_any _ _ _).mono ?_; rintro e w3 ⟨rfl, hb3⟩)
          | (go_at_call 18; refine (sIn_v hv _ _ _ ((Ow.sl hO).step hb3) hn).mono ?_; rintro e w4 ⟨rfl, hb4⟩)
          | (go_at_call 18; refine (sIn_v hv _ _ _ (Ow.sl hO) hn).mono ?_; rintro e w4 ⟨rfl, hb4⟩))
    all_goals
      clear hst hcc
      obtain ⟨hst, hcc⟩ := ‹St _ _ _ ∧ _›
      clear hO hb2 hb3 hb4
      go_upto_region 7 with (go_at_call 13; refine (toSpotS_any p cap L _ (hL.step hst.bel) hn).mono ?_; rintro e w5 ⟨p5, cap5, rfl, hO5, hb5⟩; have hs5 := Ow.sl hO5; replace hst := hst.step hb5; clear hcc; have hcc := hS _ hst)
      go_upto_region 10 with (first
        | (go_at_call 19; refine (toSpot_any _ _ _).mono ?_; rintro e w6 ⟨rfl, hb6⟩; replace hs5 := hs5.step hb6; replace hst := hst.step hb6)
        | (go_at_call 20; refine (iIn_v hv _ _ _ hs5 hn).mono ?_; rintro e w7 ⟨rfl, hb7⟩; replace hs5 := hs5.step hb7; replace hst := hst.step hb7))
      go_wp2_with (first
        | (go_at_call 13; refine (toSpotS_any p cap L _ (hL.step hst.bel) hn).mono ?_; rintro e w8 ⟨p8, cap8, rfl, hO8, hb8⟩; have hs8 := Ow.sl hO8; replace hs5 := hs5.step hb8; replace hst := hst.step hb8)
        | (go_at_call 15; refine (eqSpotS_same _ _ _ _ L _ hs5 hs8 (by omega)).mono ?_; rintro e w9 ⟨rfl, hb9⟩; replace hst := hst.step hb9))
      go_ret
      exact ⟨rfl, hst.bel⟩
  · have hni : (1048576 : Int) < L.length := by omega
    go_enter Try.func5, Try.ntmps5
    go_wp2_with (go_at_call 12; refine (szSpotS_no _ _ _ _ _ hni (by omega) hm).mono ?_; rintro e w1 ⟨rfl, rfl⟩)
    go_ret
    exact ⟨rfl, hst.bel⟩
end Go.Proofs.Ytkpkigllabhejaa
