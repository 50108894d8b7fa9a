/-
  The law of RecordsOk, walked.
-/
import Derived.Test.YtjjnmeahcjpinaaL3
namespace Go.Proofs.Ytjjnmeahcjpinaa
open Go.Shelf Go.RowKit Go.Joins
attribute [local go_sem] Oper.semAt_some

/-- What a law's first lines know of a list that is not too big. -/
theorem rsz_len {L : List Rc} {n : Nat} (hn : L.length = n) (h : rsz L ≤ 1048576) : n ≤ 1048576 := by unfold rsz at h; omega
set_option maxHeartbeats 1000000 in
theorem exactOk (p : Option Addr) (cap : Nat) (L : List Rc) (n : Nat) (hn : L.length = n) (hm : n ≤ maxLen) (hms : ∀ r ∈ L, r.s.size ≤ maxLen) (w : World) (hL : SlG kL w p L) :
    Calls Try.prog 4 #[.slice p n cap] w fun e w' => e = .returned (.bool true) ∧ Below w.heap.size w w' := by
  by_cases hz : rsz L ≤ 1048576
  · have hn1 := rsz_len hn hz
    obtain ⟨v, hv⟩ : ∃ v, (1048576 : Int) - (rsz L : Int) = v := ⟨_, rfl⟩
    have hv0 : ¬ v < 0 := by omega
    obtain ⟨b, hb⟩ : ∃ b, recsB L = b := ⟨_, rfl⟩
    have HZ : Hid (∀ W, Below w.heap.size w W → Calls Try.prog 30 #[.slice p n cap, .int .i64 1048576] W fun e w' => e = .returned (.int .i64 v) ∧ Below W.heap.size W w') := fun W h => szRecS_any p cap L n hn 1048576 W (hL.step h) (by omega) (by omega) hm hms (by rw [if_neg (by omega)]; exact hv)
    have HT := Lib.hid (fun W (h : Below w.heap.size w W) => toRecS_any p cap L n hn W (hL.step h) hn1)
    have HS : Hid (∀ W g, SlG kR W (some ⟨g, 0, none⟩) L → Calls Try.prog 23 #[.slice (some ⟨g, 0, none⟩) n n] W fun e w' => e = .returned (.bool b) ∧ Below W.heap.size W w') := fun W g h => sOk_v hb (some ⟨g, 0, none⟩) n n hn W h (by omega)
    have HI : Hid (∀ W g, SlG kR W (some ⟨g, 0, none⟩) L → Calls Try.prog 22 #[.slice (some ⟨g, 0, none⟩) n n] W fun e w' => e = .returned (.bool b) ∧ Below W.heap.size W w') := fun W g h => iOk_v hb (some ⟨g, 0, none⟩) n n hn W h (by omega)
    have HE : Hid (∀ W g g2, SlG kR W (some ⟨g, 0, none⟩) L → SlG kR W (some ⟨g2, 0, none⟩) L → Calls Try.prog 32 #[.slice (some ⟨g, 0, none⟩) n n, .slice (some ⟨g2, 0, none⟩) n n] W fun e w' => e = .returned (.bool true) ∧ Below W.heap.size W w') := fun W g g2 h h2 => eqRecS_same _ _ n n L n hn W h h2 (by omega)
    clear hn hL hv hz hb hms
    have hx := Sg.nil w
    go_enter Try.func4, Try.ntmps4
    go_upto_region 5 with (go_at_call 30; refine (HZ.out _ hx.bel).mono ?_; rintro e w1 ⟨rfl, hb1⟩; replace hx := hx.step hb1)
    go_upto_region 6 with (first
      | (go_at_call 31; refine (HT.out _ hx.bel).mono ?_; rintro e w2 ⟨g2, rfl, h2⟩; replace hx := hx.addL h2)
      | (go_at_call 23; refine (HS.out _ g2 (OwG.sl (hx.mem (K := kR) (v := .slice (some ⟨g2, 0, none⟩) n n) (L := L) (by simp)))).mono ?_; rintro e w3 ⟨rfl, hb3⟩; replace hx := hx.step hb3))
    go_upto_region 8 with (first
      | (go_at_call 31; refine (HT.out _ hx.bel).mono ?_; rintro e w4 ⟨g4, rfl, h4⟩; replace hx := hx.addL h4)
      | (go_at_call 22; refine (HI.out _ g4 (OwG.sl (hx.mem (K := kR) (v := .slice (some ⟨g4, 0, none⟩) n n) (L := L) (by simp)))).mono ?_; rintro e w5 ⟨rfl, hb5⟩; replace hx := hx.step hb5))
    go_wp2_with (first
      | (go_at_call 31; refine (HT.out _ hx.bel).mono ?_; rintro e w6 ⟨g6, rfl, h6⟩; replace hx := hx.addL h6)
      | (go_at_call 32; refine (HE.out _ _ _ (OwG.sl (hx.mem (K := kR) (v := .slice (some ⟨g4, 0, none⟩) n n) (L := L) (by simp))) (OwG.sl (hx.mem (K := kR) (v := .slice (some ⟨g6, 0, none⟩) n n) (L := L) (by simp)))).mono ?_; rintro e w7 ⟨rfl, hb7⟩; replace hx := hx.step hb7))
    go_ret
    exact ⟨rfl, hx.bel⟩
  · have HZ : Hid (Calls Try.prog 30 #[.slice p n cap, .int .i64 1048576] w fun e w' => e = .returned (.int .i64 (-1)) ∧ Below w.heap.size w w') := szRecS_any p cap L n hn 1048576 w hL (by omega) (by omega) hm hms (by rw [if_pos (by omega)])
    clear hn hL hz hms
    go_enter Try.func4, Try.ntmps4
    go_wp2_with (go_at_call 30; refine HZ.out.mono ?_; rintro e w1 ⟨rfl, hb1⟩)
    go_ret
    exact ⟨rfl, hb1⟩
end Go.Proofs.Ytjjnmeahcjpinaa
