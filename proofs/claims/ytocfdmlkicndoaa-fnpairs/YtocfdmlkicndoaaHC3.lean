/-
  The law of Nearest, walked.
-/
import Derived.Test.YtocfdmlkicndoaaHC2
namespace Go.Proofs.Ytocfdmlkicndoaa
open Go.RowKit Go.Joins
attribute [local go_sem ↓] Go.wp_at_zero Go.wp_at_succ

theorem Ow.cap {W : World} {base : Nat} {p : Option Addr} {n cap : Nat} {L : List T2} (h : Ow W base (.slice p n cap) L) : L.length ≤ cap := by
  rcases h.2 with ⟨h1, h0⟩ | ⟨g, cap', cur, e, _, _, hc, _⟩
  · omega
  · injection e with e1 e2 e3; omega
set_option maxHeartbeats 1000000 in
theorem exactNearest (p : Option Addr) (cap : Nat) (L : List T2) (w : World) (hL : Sl w p L) (hm : L.length ≤ maxLen) :
    Calls Try.prog 4 #[.slice p L.length cap] w fun e w' => e = .returned (.bool true) ∧ Below w.heap.size w w' := by
  by_cases hn : L.length ≤ 1048576
  · have hni : (L.length : Int) ≤ 1048576 := by omega
    have hx := Sx.nil w
    obtain ⟨v, hv⟩ : ∃ v, neT L = v := ⟨_, rfl⟩
    have HV : Hid (neT L = v) := hv
    clear hv
    go_enter Try.func4, Try.ntmps4
    go_wp2_with (first
      | (go_at_call 22; refine (szSpotS_ok _ _ _ _ _ hni (by omega)).mono ?_; rintro e w1 ⟨rfl, rfl⟩)
      | (go_at_call 23; refine (toSpotS_any p cap L _ (hL.step hx.bel) hn).mono ?_; rintro e w1 ⟨p1, cap1, rfl, hO, hb2⟩; replace hx := hx.add hO hb2)
      | (go_at_call 15; refine (sNearest_any _ _ _ _ (Ow.sl (hx.own _ (List.mem_cons_self ..))) hn HV.out).mono ?_; rintro e w1 ⟨rfl, hb2⟩; replace hx := hx.step hb2)
      | (go_at_call 10; refine (iNearest_any _ _ _ _ (Ow.sl (hx.own _ (List.mem_cons_self ..))) (Ow.cap (hx.own _ (List.mem_cons_self ..))) hn HV.out).mono ?_; rintro e w1 ⟨rfl, hb2⟩; replace hx := hx.step hb2)
      | (go_at_call 24; refine (eqSpotS_same _ _ _ _ L _ (Ow.sl (hx.own _ (List.mem_cons_of_mem _ (List.mem_cons_self ..)))) (Ow.sl (hx.own _ (List.mem_cons_self ..))) (by omega)).mono ?_; rintro e w1 ⟨rfl, hb2⟩; replace hx := hx.step hb2))
    all_goals (go_ret; exact ⟨rfl, hx.bel⟩)
  · have hni : (1048576 : Int) < L.length := by omega
    go_enter Try.func4, Try.ntmps4
    go_wp2_with (go_at_call 22; refine (szSpotS_no _ _ _ _ _ hni (by omega) hm).mono ?_; rintro e w1 ⟨rfl, rfl⟩)
    go_ret
    exact ⟨rfl, Below.refl _ _⟩
end Go.Proofs.Ytocfdmlkicndoaa
