/-
  The law of Same, walked.
-/
import Derived.Test.YtjjnmeahcjpinaaB9
import Derived.Test.YtjjnmeahcjpinaaW1
namespace Go.Proofs.Ytjjnmeahcjpinaa
open Go.Shelf Go.RowKit Go.Joins
attribute [local go_sem] Oper.semAt_some

set_option maxRecDepth 100000 in
set_option maxHeartbeats 2000000 in
theorem exactSame (p : Option Addr) (cap : Nat) (A : List Rc) (n : Nat) (hn : A.length = n) (hm : n ≤ maxLen) (hms : ∀ r ∈ A, r.s.size ≤ maxLen) (q : Option Addr) (cap' : Nat) (B : List Rc) (m : Nat) (hn2 : B.length = m) (hm2 : m ≤ maxLen) (hms2 : ∀ r ∈ B, r.s.size ≤ maxLen) (w : World) (hA : SlG kL w p A) (hB : SlG kL w q B) :
    Calls Try.prog 9 #[.slice p n cap, .slice q m cap'] w fun e w' => e = .returned (.bool true) ∧ Below w.heap.size w w' := by
  by_cases hz : rsz A ≤ 1048576
  · have hn1 := rsz_len hn hz
    obtain ⟨v, hv⟩ : ∃ v, (1048576 : Int) - (rsz A : Int) = v := ⟨_, rfl⟩
    have hv0 : ¬ v < 0 := by omega
    have HZ : Hid (∀ W, Below w.heap.size w W → Calls Try.prog 30 #[.slice p n cap, .int .i64 1048576] W fun e w' => e = .returned (.int .i64 v) ∧ Below W.heap.size W w') := fun W h => szRecS_any p cap A n hn 1048576 W (hA.step h) (by omega) (by omega) hm hms (by rw [if_neg (by omega)]; exact hv)
    by_cases hz2 : (rsz B : Int) ≤ v
    · have hm1 := rsz_len hn2 (show rsz B ≤ 1048576 by omega)
      obtain ⟨v2, hv2⟩ : ∃ v2, v - (rsz B : Int) = v2 := ⟨_, rfl⟩
      have hv20 : ¬ v2 < 0 := by omega
      have HZ2 : Hid (∀ W, Below w.heap.size w W → Calls Try.prog 30 #[.slice q m cap', .int .i64 v] W fun e w' => e = .returned (.int .i64 v2) ∧ Below W.heap.size W w') := fun W h => szRecS_any q cap' B m hn2 v W (hB.step h) (by omega) (by omega) hm2 hms2 (by rw [if_neg (by omega)]; exact hv2)
      obtain ⟨b, hb⟩ : ∃ b : Bool, (recsB A = true ∧ A = B) ↔ b = true := by
        by_cases h : recsB A = true ∧ A = B
        · exact ⟨true, fun _ => rfl, fun _ => h⟩
        · exact ⟨false, fun h2 => absurd h2 h, fun h2 => by cases h2⟩
      have HTA : Hid (∀ W, Below w.heap.size w W → Calls Try.prog 31 #[.slice p n cap] W fun e w' => ∃ g, e = .returned (.slice (some ⟨g, 0, none⟩) n n) ∧ Sg W w' [rG kR (.slice (some ⟨g, 0, none⟩) n n) A]) := fun W h => toRecS_any p cap A n hn W (hA.step h) hn1
      have HTB : Hid (∀ W, Below w.heap.size w W → Calls Try.prog 31 #[.slice q m cap'] W fun e w' => ∃ g, e = .returned (.slice (some ⟨g, 0, none⟩) m m) ∧ Sg W w' [rG kR (.slice (some ⟨g, 0, none⟩) m m) B]) := fun W h => toRecS_any q cap' B m hn2 W (hB.step h) hm1
      have HS : Hid (∀ W g g2, SlG kR W (some ⟨g, 0, none⟩) A → SlG kR W (some ⟨g2, 0, none⟩) B → Calls Try.prog 28 #[.slice (some ⟨g, 0, none⟩) n n, .slice (some ⟨g2, 0, none⟩) m m] W fun e w' => e = .returned (.bool b) ∧ Below W.heap.size W w') := fun W g g2 h h2 => sSame_any _ _ n m A B n m hn hn2 W h h2 (by omega) (by omega) hb
      have HI : Hid (∀ W g g2, SlG kR W (some ⟨g, 0, none⟩) A → SlG kR W (some ⟨g2, 0, none⟩) B → Calls Try.prog 27 #[.slice (some ⟨g, 0, none⟩) n n, .slice (some ⟨g2, 0, none⟩) m m] W fun e w' => e = .returned (.bool b) ∧ Below W.heap.size W w') := fun W g g2 h h2 => iSame_any _ _ n m A B n m hn hn2 W h h2 (by omega) (by omega) hb
      have HEA : Hid (∀ W g g2, SlG kR W (some ⟨g, 0, none⟩) A → SlG kR W (some ⟨g2, 0, none⟩) A → Calls Try.prog 32 #[.slice (some ⟨g, 0, none⟩) n n, .slice (some ⟨g2, 0, none⟩) n n] W fun e w' => e = .returned (.bool true) ∧ Below W.heap.size W w') := fun W g g2 h h2 => eqRecS_same _ _ n n A n hn W h h2 (by omega)
      have HEB : Hid (∀ W g g2, SlG kR W (some ⟨g, 0, none⟩) B → SlG kR W (some ⟨g2, 0, none⟩) B → Calls Try.prog 32 #[.slice (some ⟨g, 0, none⟩) m m, .slice (some ⟨g2, 0, none⟩) m m] W fun e w' => e = .returned (.bool true) ∧ Below W.heap.size W w') := fun W g g2 h h2 => eqRecS_same _ _ m m B m hn2 W h h2 (by omega)
      clear hn hn2 hA hB hv hv2 hz hz2 hb hms hms2
      have hx := Sg.nil w
      have f1 : True := trivial
      go_enter Try.func9, Try.ntmps9
      go_upto_region 5 with (go_at_call 30; refine (HZ.out _ hx.bel).mono ?_; rintro e w1 ⟨rfl, hb1⟩; replace hx := hx.step hb1)
      go_upto_region 8 with (go_at_call 30; refine (HZ2.out _ hx.bel).mono ?_; rintro e w1 ⟨rfl, hb1⟩; replace hx := hx.step hb1)
      go_upto_region 9 with (first
        | (go_at_call 31; clear f1; refine (HTA.out _ hx.bel).mono ?_; rintro e w2 ⟨g2, rfl, h2⟩; replace hx := hx.addL h2)
        | (go_at_call 31; refine (HTB.out _ hx.bel).mono ?_; rintro e w3 ⟨g3, rfl, h3⟩; replace hx := hx.addL h3)
        | (go_at_call 28; refine (HS.out _ g2 g3 (OwG.sl (hx.mem (K := kR) (v := .slice (some ⟨g2, 0, none⟩) n n) (L := A) (by simp))) (OwG.sl (hx.mem (K := kR) (v := .slice (some ⟨g3, 0, none⟩) m m) (L := B) (by simp)))).mono ?_; rintro e w4 ⟨rfl, hb4⟩; replace hx := hx.step hb4))
      go_upto_region 10 with (go_at_call 31; refine (HTA.out _ hx.bel).mono ?_; rintro e w5 ⟨g5, rfl, h5⟩; replace hx := hx.addL h5)
      go_upto_region 12 with (first
        | (go_at_call 31; refine (HTB.out _ hx.bel).mono ?_; rintro e w6 ⟨g6, rfl, h6⟩; replace hx := hx.addL h6)
        | (go_at_call 27; refine (HI.out _ g5 g6 (OwG.sl (hx.mem (K := kR) (v := .slice (some ⟨g5, 0, none⟩) n n) (L := A) (by simp))) (OwG.sl (hx.mem (K := kR) (v := .slice (some ⟨g6, 0, none⟩) m m) (L := B) (by simp)))).mono ?_; rintro e w7 ⟨rfl, hb7⟩; replace hx := hx.step hb7))
      go_upto_region 16 with (first
        | (go_at_call 31; refine (HTA.out _ hx.bel).mono ?_; rintro e w8 ⟨g8, rfl, h8⟩; replace hx := hx.addL h8)
        | (go_at_call 32; refine (HEA.out _ g5 g8 (OwG.sl (hx.mem (K := kR) (v := .slice (some ⟨g5, 0, none⟩) n n) (L := A) (by simp))) (OwG.sl (hx.mem (K := kR) (v := .slice (some ⟨g8, 0, none⟩) n n) (L := A) (by simp)))).mono ?_; rintro e w9 ⟨rfl, hb9⟩; replace hx := hx.step hb9))
      go_wp2_with (first
        | (go_at_call 31; refine (HTB.out _ hx.bel).mono ?_; rintro e w10 ⟨g10, rfl, h10⟩; replace hx := hx.addL h10)
        | (go_at_call 32; refine (HEB.out _ g6 g10 (OwG.sl (hx.mem (K := kR) (v := .slice (some ⟨g6, 0, none⟩) m m) (L := B) (by simp))) (OwG.sl (hx.mem (K := kR) (v := .slice (some ⟨g10, 0, none⟩) m m) (L := B) (by simp)))).mono ?_; rintro e w11 ⟨rfl, hb11⟩; replace hx := hx.step hb11))
      go_ret
      exact ⟨rfl, hx.bel⟩
    · have HZ2 : Hid (∀ W, Below w.heap.size w W → Calls Try.prog 30 #[.slice q m cap', .int .i64 v] W fun e w' => e = .returned (.int .i64 (-1)) ∧ Below W.heap.size W w') := fun W h => szRecS_any q cap' B m hn2 v W (hB.step h) (by omega) (by omega) hm2 hms2 (by rw [if_pos (by omega)])
      clear hn hn2 hA hB hv hz hz2 hms hms2
      have hx := Sg.nil w
      go_enter Try.func9, Try.ntmps9
      go_upto_region 5 with (go_at_call 30; refine (HZ.out _ hx.bel).mono ?_; rintro e w1 ⟨rfl, hb1⟩; replace hx := hx.step hb1)
      go_wp2_with (go_at_call 30; refine (HZ2.out _ hx.bel).mono ?_; rintro e w1 ⟨rfl, hb1⟩; replace hx := hx.step hb1)
      go_ret
      exact ⟨rfl, hx.bel⟩
  · have HZ : Hid (Calls Try.prog 30 #[.slice p n cap, .int .i64 1048576] w fun e w' => e = .returned (.int .i64 (-1)) ∧ Below w.heap.size w w') := szRecS_any p cap A n hn 1048576 w hA (by omega) (by omega) hm hms (by rw [if_pos (by omega)])
    clear hn hn2 hA hB hz hms hms2
    go_enter Try.func9, Try.ntmps9
    go_wp2_with (go_at_call 30; refine HZ.out.mono ?_; rintro e w1 ⟨rfl, hb1⟩)
    go_ret
    exact ⟨rfl, hb1⟩
end Go.Proofs.Ytjjnmeahcjpinaa
