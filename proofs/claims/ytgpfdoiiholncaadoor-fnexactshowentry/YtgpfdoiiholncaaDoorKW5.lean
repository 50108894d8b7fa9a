/-
  The law of ShowEntry, walked.
-/
import Derived.Test.YtgpfdoiiholncaaDoorKW3
import Derived.Test.YtgpfdoiiholncaaDoorKW4
import Derived.Test.YtgpfdoiiholncaaDoorKE2
namespace Go.Proofs.YtgpfdoiiholncaaDoor.K.I
open Go.Shelf Go.RowKit Go.Joins
attribute [local go_sem] Oper.semAt_some

set_option maxRecDepth 100000 in
set_option maxHeartbeats 4000000 in
theorem exactShowEntry (k t s : Int) (p : Option Addr) (n c : Nat) (L : List Rc) (hn : L.length = n) (hm : n ≤ maxLen) (hms : ∀ r ∈ L, r.s.size ≤ maxLen) (w : World) (hL : SlG kL w p L) (hT : TB w) :
    Calls Tryd.prog 3 #[entV k t s p n c] w fun e w' => e = .returned (.bool true) ∧ Below w.heap.size w w' := by
  have h0 := sg_bel (below_alloc1 w (.cells #[.int .i64 k, .int .i64 t, .int .i64 s, .slice p n c] 24))
  have hx := Sg.nil (w.alloc (.cells #[.int .i64 k, .int .i64 t, .int .i64 s, .slice p n c] 24))
  obtain ⟨b0, b1, b2, b3⟩ := bx4 hx.bel
  by_cases hz : rsz L ≤ 1048576
  · have hn1 := rsz_len4 hn hz
    obtain ⟨v, hv⟩ : ∃ v, (1048576 : Int) - (rsz L : Int) = v := ⟨_, rfl⟩
    have hv0 : ¬ v < 0 := by omega
    have HZ : Hid (∀ W, Below w.heap.size w W → Calls Tryd.prog 4 #[entV k t s p n c, .int .i64 1048576] W fun e w' => e = .returned (.int .i64 v) ∧ Below W.heap.size W w') := fun W h => szEnt_any k t s p n c L hn 1048576 W (hL.step h) (by omega) (by omega) hm hms (by rw [if_neg (by omega)]; exact hv)
    have HT := Lib.hid (fun W (h : Below w.heap.size w W) => toEnt_any k t s p n c L hn hn1 W (hL.step h))
    have HEB : Hid (∀ W g g2, SlG kR W (some ⟨g, 0, none⟩) L → SlG kR W (some ⟨g2, 0, none⟩) L → Calls Tryd.prog 8 #[entV k t s (some ⟨g, 0, none⟩) n n, entV k t s (some ⟨g2, 0, none⟩) n n] W fun e w' => e = .returned (.bool true) ∧ Below W.heap.size W w') := fun W g g2 h h2 => eqEnt_same k t s _ _ n n n L hn hn1 W h h2
    obtain ⟨T, hbb⟩ : ∃ T, shS k t s L = T := ⟨_, rfl⟩
    have HS : Hid (∀ W g, SlG kR W (some ⟨g, 0, none⟩) L → Calls Tryd.prog 5 #[entV k t s (some ⟨g, 0, none⟩) n n] W fun e w' => e = .returned (.string T) ∧ Below W.heap.size W w') := fun W g h => sShow_any k t s _ n n L hn (by omega) W h hbb
    have HI : Hid (∀ W g, Below w.heap.size w W → SlG kR W (some ⟨g, 0, none⟩) L → Calls Tryd.prog 7 #[entV k t s (some ⟨g, 0, none⟩) n n] W fun e w' => e = .returned (.string T) ∧ Below W.heap.size W w') := fun W g hw h => iShow_any k t s _ n n L hn (by omega) W h (hT.step hw) hbb
    clear hn hL hv hz hms hbb
    go_enter Tryd.func3, Tryd.ntmps3
    go_upto_region 5 with (go_at_call 4; refine (HZ.out _ (h0.addL hx).bel).mono ?_; rintro e w1 ⟨rfl, hb1⟩; replace hx := hx.step hb1; clear b0 b1 b2 b3; obtain ⟨b0, b1, b2, b3⟩ := bx4 hx.bel)
    go_upto_region 6 with (first
      | (go_at_call 6; refine (HT.out _ (h0.addL hx).bel).mono ?_; rintro e w2 ⟨g1, rfl, hg1⟩; replace hx := hx.addL hg1; clear b0 b1 b2 b3; obtain ⟨b0, b1, b2, b3⟩ := bx4 hx.bel)
      | (go_at_call 5; refine (HS.out _ g1 (OwG.sl (hx.mem (K := kR) (v := .slice (some ⟨g1, 0, none⟩) n n) (L := L) (by simp)))).mono ?_; rintro e w3 ⟨rfl, hb3⟩; replace hx := hx.step hb3; clear b0 b1 b2 b3; obtain ⟨b0, b1, b2, b3⟩ := bx4 hx.bel))
    go_upto_region 7 with (go_at_call 6; refine (HT.out _ (h0.addL hx).bel).mono ?_; rintro e w4 ⟨g2, rfl, hg2⟩; replace hx := hx.addL hg2; clear b0 b1 b2 b3; obtain ⟨b0, b1, b2, b3⟩ := bx4 hx.bel)
    have hx2 := hx.lit kE [⟨k, t, s, ⟨some ⟨g2, 0, none⟩, n, n⟩⟩] 1 rfl (by decide) #[.int .i64 k, .int .i64 t, .int .i64 s, .slice (some ⟨g2, 0, none⟩) n n] rfl
    clear hx
    obtain ⟨x0, x1, x2, x3, xf, xg⟩ := ent4 hx2 (K := kE) (g := w4.heap.size) (n := 1) (q := ⟨k, t, s, ⟨some ⟨g2, 0, none⟩, n, n⟩⟩) (by simp) rfl
    simp only at x0 x1 x2 x3
    clear b0 b1 b2 b3
    obtain ⟨b0, b1, b2, b3⟩ := bx4 hx2.bel
    have hx := hx2
    clear hx2
    go_upto_region 8 with (go_at_call 7; refine (HI.out _ g2 (h0.addL hx).bel (OwG.sl (hx.mem (K := kR) (v := .slice (some ⟨g2, 0, none⟩) n n) (L := L) (by simp)))).mono ?_; rintro e w5 ⟨rfl, hb5⟩; replace hx := hx.step hb5; clear b0 b1 b2 b3; obtain ⟨b0, b1, b2, b3⟩ := bx4 hx.bel; clear x0 x1 x2 x3; obtain ⟨x0, x1, x2, x3, _, _⟩ := ent4 hx (K := kE) (g := w4.heap.size) (n := 1) (q := ⟨k, t, s, ⟨some ⟨g2, 0, none⟩, n, n⟩⟩) (by simp) rfl; simp only at x0 x1 x2 x3)
    go_upto_region 10 with (fail)
    clear x0 x1 x2 x3 b0 b1 b2 b3 xf xg
    generalize w4.heap.size = b4 at *
    have HK2 : Hid (∀ w' rs, Sg (w.alloc (.cells #[.int .i64 k, .int .i64 t, .int .i64 s, .slice p n c] 24)) w' rs → rG kE (.slice (some ⟨b4, 0, none⟩) 1 1) [⟨k, t, s, ⟨some ⟨g2, 0, none⟩, n, n⟩⟩] ∈ rs → (w'.cell? ⟨b4, 0, none⟩ = some (.int .i64 k) ∧ w'.cell? ⟨b4, 1, none⟩ = some (.int .i64 t) ∧ w'.cell? ⟨b4, 2, none⟩ = some (.int .i64 s) ∧ w'.cell? ⟨b4, 3, none⟩ = some (.slice (some ⟨g2, 0, none⟩) n n) ∧ w'.cell? ⟨w.heap.size, 0, none⟩ = some (.int .i64 k) ∧ w'.cell? ⟨w.heap.size, 1, none⟩ = some (.int .i64 t) ∧ w'.cell? ⟨w.heap.size, 2, none⟩ = some (.int .i64 s) ∧ w'.cell? ⟨w.heap.size, 3, none⟩ = some (.slice p n c))) := fun w' rs h m1 => by
      obtain ⟨y0, y1, y2, y3, _, _⟩ := ent4 h (K := kE) (g := b4) (n := 1) (q := ⟨k, t, s, ⟨some ⟨g2, 0, none⟩, n, n⟩⟩) m1 rfl
      exact ⟨y0, y1, y2, y3, bx4 h.bel⟩
    go_region_held3 (fun w' => w'.cell? ⟨b4, 0, none⟩ = some (.int .i64 k) ∧ w'.cell? ⟨b4, 1, none⟩ = some (.int .i64 t) ∧ w'.cell? ⟨b4, 2, none⟩ = some (.int .i64 s) ∧ w'.cell? ⟨b4, 3, none⟩ = some (.slice (some ⟨g2, 0, none⟩) n n) ∧ w'.cell? ⟨w.heap.size, 0, none⟩ = some (.int .i64 k) ∧ w'.cell? ⟨w.heap.size, 1, none⟩ = some (.int .i64 t) ∧ w'.cell? ⟨w.heap.size, 2, none⟩ = some (.int .i64 s) ∧ w'.cell? ⟨w.heap.size, 3, none⟩ = some (.slice p n c))
      (first
        | assumption
        | with_reducible exact HK2.out _ _ hx (by simp)
        | with_reducible exact HK2.out _ _ hx.dr (by simp))
      (first
        | (go_at_call 6; refine (HT.out _ (by first | with_reducible exact (h0.addL hx).bel | with_reducible exact (h0.addL hx.dr).bel)).mono ?_; rintro e w7 ⟨g3, rfl, hg3⟩; (first | with_reducible (replace hx := hx.addL hg3) | with_reducible (replace hx := hx.dr.addL hg3)); clear hg3)
        | (go_at_call 8; refine (HEB.out _ g2 g3 (OwG.sl (hx.mem (K := kR) (v := .slice (some ⟨g2, 0, none⟩) n n) (L := L) (by simp))) (OwG.sl (hx.mem (K := kR) (v := .slice (some ⟨g3, 0, none⟩) n n) (L := L) (by simp)))).mono ?_; rintro e w8 ⟨rfl, hb8⟩; replace hx := hx.step hb8; clear hb8))
    rename_i hHeld
    obtain ⟨x0, x1, x2, x3, b0, b1, b2, b3⟩ := hHeld
    go_wp2
    go_ret
    exact ⟨rfl, (h0.addL hx).bel⟩
  · have HZ : Hid (∀ W, Below w.heap.size w W → Calls Tryd.prog 4 #[entV k t s p n c, .int .i64 1048576] W fun e w' => e = .returned (.int .i64 (-1)) ∧ Below W.heap.size W w') := fun W h => szEnt_any k t s p n c L hn 1048576 W (hL.step h) (by omega) (by omega) hm hms (by rw [if_pos (by omega)])
    clear hn hL hz hms
    go_enter Tryd.func3, Tryd.ntmps3
    go_wp2_with (go_at_call 4; refine (HZ.out _ h0.bel).mono ?_; rintro e w1 ⟨rfl, hb1⟩)
    go_ret
    exact ⟨rfl, (h0.step hb1).bel⟩
end Go.Proofs.YtgpfdoiiholncaaDoor.K.I
