/-
  The laws of BatchOk and Ids, walked.
-/
import Derived.Test.YtbkiogedipmioaaID2
namespace Go.Proofs.Ytbkiogedipmioaa.I
open Go.Shelf Go.RowKit Go.Joins
attribute [local go_sem] Oper.semAt_some

set_option maxRecDepth 100000 in
set_option maxHeartbeats 4000000 in
theorem exactBatchOk (t s : Int) (p : Option Addr) (n c : Nat) (L : List Rc) (hn : L.length = n) (hm : n ≤ maxLen) (hms : ∀ r ∈ L, r.s.size ≤ maxLen) (w : World) (hL : SlG kL w p L) :
    Calls Try.prog 3 #[batV t s p n c] w fun e w' => e = .returned (.bool true) ∧ Below w.heap.size w w' := by
  have h0 := sg_bel (below_alloc1 w (.cells #[.int .i64 t, .int .i64 s, .slice p n c] 24))
  have hx := Sg.nil (w.alloc (.cells #[.int .i64 t, .int .i64 s, .slice p n c] 24))
  obtain ⟨b0, b1, b2⟩ := bx3 hx.bel
  by_cases hz : rsz L ≤ 1048576
  · have hn1 := rsz_len hn hz
    obtain ⟨v, hv⟩ : ∃ v, (1048576 : Int) - (rsz L : Int) = v := ⟨_, rfl⟩
    have hv0 : ¬ v < 0 := by omega
    have HZ : Hid (∀ W, Below w.heap.size w W → Calls Try.prog 6 #[batV t s p n c, .int .i64 1048576] W fun e w' => e = .returned (.int .i64 v) ∧ Below W.heap.size W w') := fun W h => szBat_any t s p n c L hn 1048576 W (hL.step h) (by omega) (by omega) hm hms (by rw [if_neg (by omega)]; exact hv)
    have HT := Lib.hid (fun W (h : Below w.heap.size w W) => toBat_any t s p n c L hn hn1 W (hL.step h))
    have HEB : Hid (∀ W g g2, SlG kR W (some ⟨g, 0, none⟩) L → SlG kR W (some ⟨g2, 0, none⟩) L → Calls Try.prog 10 #[batV t s (some ⟨g, 0, none⟩) n n, batV t s (some ⟨g2, 0, none⟩) n n] W fun e w' => e = .returned (.bool true) ∧ Below W.heap.size W w') := fun W g g2 h h2 => eqBat_same t s _ _ n n n L hn hn1 W h h2
    obtain ⟨b, hbb⟩ : ∃ b, batB t s L = b := ⟨_, rfl⟩
    have HS : Hid (∀ W g, SlG kR W (some ⟨g, 0, none⟩) L → Calls Try.prog 7 #[batV t s (some ⟨g, 0, none⟩) n n] W fun e w' => e = .returned (.bool b) ∧ Below W.heap.size W w') := fun W g h => sBat_v hbb _ n n hn W h (by omega)
    have HI : Hid (∀ W g, SlG kR W (some ⟨g, 0, none⟩) L → Calls Try.prog 9 #[batV t s (some ⟨g, 0, none⟩) n n] W fun e w' => e = .returned (.bool b) ∧ Below W.heap.size W w') := fun W g h => iBat_v hbb _ n n hn W h (by omega)
    clear hn hL hv hz hms hbb
    go_enter Try.func3, Try.ntmps3
    go_upto_region 5 with (go_at_call 6; refine (HZ.out _ (h0.addL hx).bel).mono ?_; rintro e w1 ⟨rfl, hb1⟩; replace hx := hx.step hb1; clear b0 b1 b2; obtain ⟨b0, b1, b2⟩ := bx3 hx.bel)
    go_upto_region 6 with (first
      | (go_at_call 8; refine (HT.out _ (h0.addL hx).bel).mono ?_; rintro e w2 ⟨g1, rfl, hg1⟩; replace hx := hx.addL hg1; clear b0 b1 b2; obtain ⟨b0, b1, b2⟩ := bx3 hx.bel)
      | (go_at_call 7; refine (HS.out _ g1 (OwG.sl (hx.mem (K := kR) (v := .slice (some ⟨g1, 0, none⟩) n n) (L := L) (by simp)))).mono ?_; rintro e w3 ⟨rfl, hb3⟩; replace hx := hx.step hb3; clear b0 b1 b2; obtain ⟨b0, b1, b2⟩ := bx3 hx.bel))
    go_upto_region 7 with (go_at_call 8; refine (HT.out _ (h0.addL hx).bel).mono ?_; rintro e w4 ⟨g2, rfl, hg2⟩; replace hx := hx.addL hg2; clear b0 b1 b2; obtain ⟨b0, b1, b2⟩ := bx3 hx.bel)
    have hx2 := hx.lit kB [⟨t, s, ⟨some ⟨g2, 0, none⟩, n, n⟩⟩] 1 rfl (by decide) #[.int .i64 t, .int .i64 s, .slice (some ⟨g2, 0, none⟩) n n] rfl
    clear hx
    obtain ⟨x0, x1, x2, xf, xg⟩ := bat3 hx2 (K := kB) (g := w4.heap.size) (n := 1) (q := ⟨t, s, ⟨some ⟨g2, 0, none⟩, n, n⟩⟩) (by simp) rfl
    simp only at x0 x1 x2
    clear b0 b1 b2
    obtain ⟨b0, b1, b2⟩ := bx3 hx2.bel
    have hx := hx2
    clear hx2
    go_upto_region 8 with (go_at_call 9; refine (HI.out _ g2 (OwG.sl (hx.mem (K := kR) (v := .slice (some ⟨g2, 0, none⟩) n n) (L := L) (by simp)))).mono ?_; rintro e w5 ⟨rfl, hb5⟩; replace hx := hx.step hb5; clear b0 b1 b2; obtain ⟨b0, b1, b2⟩ := bx3 hx.bel; clear x0 x1 x2; obtain ⟨x0, x1, x2, _, _⟩ := bat3 hx (K := kB) (g := w4.heap.size) (n := 1) (q := ⟨t, s, ⟨some ⟨g2, 0, none⟩, n, n⟩⟩) (by simp) rfl; simp only at x0 x1 x2)
    cases b
    all_goals
      go_upto_region 10 with (fail)
      clear x0 x1 x2 b0 b1 b2 xf xg
      generalize w4.heap.size = b4 at *
      have HK2 : Hid (∀ w' rs, Sg (w.alloc (.cells #[.int .i64 t, .int .i64 s, .slice p n c] 24)) w' rs → rG kB (.slice (some ⟨b4, 0, none⟩) 1 1) [⟨t, s, ⟨some ⟨g2, 0, none⟩, n, n⟩⟩] ∈ rs → (w'.cell? ⟨b4, 0, none⟩ = some (.int .i64 t) ∧ w'.cell? ⟨b4, 1, none⟩ = some (.int .i64 s) ∧ w'.cell? ⟨b4, 2, none⟩ = some (.slice (some ⟨g2, 0, none⟩) n n) ∧ w'.cell? ⟨w.heap.size, 0, none⟩ = some (.int .i64 t) ∧ w'.cell? ⟨w.heap.size, 1, none⟩ = some (.int .i64 s) ∧ w'.cell? ⟨w.heap.size, 2, none⟩ = some (.slice p n c))) := fun w' rs h m1 => by
        obtain ⟨y0, y1, y2, _, _⟩ := bat3 h (K := kB) (g := b4) (n := 1) (q := ⟨t, s, ⟨some ⟨g2, 0, none⟩, n, n⟩⟩) m1 rfl
        exact ⟨y0, y1, y2, bx3 h.bel⟩
      go_region_held3 (fun w' => w'.cell? ⟨b4, 0, none⟩ = some (.int .i64 t) ∧ w'.cell? ⟨b4, 1, none⟩ = some (.int .i64 s) ∧ w'.cell? ⟨b4, 2, none⟩ = some (.slice (some ⟨g2, 0, none⟩) n n) ∧ w'.cell? ⟨w.heap.size, 0, none⟩ = some (.int .i64 t) ∧ w'.cell? ⟨w.heap.size, 1, none⟩ = some (.int .i64 s) ∧ w'.cell? ⟨w.heap.size, 2, none⟩ = some (.slice p n c))
        (first
          | assumption
          | with_reducible exact HK2.out _ _ hx (by simp)
          | with_reducible exact HK2.out _ _ hx.dr (by simp))
        (first
          | (go_at_call 8; refine (HT.out _ (by first | with_reducible exact (h0.addL hx).bel | with_reducible exact (h0.addL hx.dr).bel)).mono ?_; rintro e w7 ⟨g3, rfl, hg3⟩; (first | with_reducible (replace hx := hx.addL hg3) | with_reducible (replace hx := hx.dr.addL hg3)); clear hg3)
          | (go_at_call 10; refine (HEB.out _ g2 g3 (OwG.sl (hx.mem (K := kR) (v := .slice (some ⟨g2, 0, none⟩) n n) (L := L) (by simp))) (OwG.sl (hx.mem (K := kR) (v := .slice (some ⟨g3, 0, none⟩) n n) (L := L) (by simp)))).mono ?_; rintro e w8 ⟨rfl, hb8⟩; replace hx := hx.step hb8; clear hb8))
      rename_i hHeld
      obtain ⟨x0, x1, x2, b0, b1, b2⟩ := hHeld
      go_wp2
      go_ret
      exact ⟨rfl, (h0.addL hx).bel⟩
  · have HZ : Hid (∀ W, Below w.heap.size w W → Calls Try.prog 6 #[batV t s p n c, .int .i64 1048576] W fun e w' => e = .returned (.int .i64 (-1)) ∧ Below W.heap.size W w') := fun W h => szBat_any t s p n c L hn 1048576 W (hL.step h) (by omega) (by omega) hm hms (by rw [if_pos (by omega)])
    clear hn hL hz hms
    go_enter Try.func3, Try.ntmps3
    go_wp2_with (go_at_call 6; refine (HZ.out _ h0.bel).mono ?_; rintro e w1 ⟨rfl, hb1⟩)
    go_ret
    exact ⟨rfl, (h0.step hb1).bel⟩
set_option maxRecDepth 100000 in
set_option maxHeartbeats 4000000 in
theorem exactIds (t s : Int) (p : Option Addr) (n c : Nat) (L : List Rc) (hn : L.length = n) (hm : n ≤ maxLen) (hms : ∀ r ∈ L, r.s.size ≤ maxLen) (w : World) (hL : SlG kL w p L) :
    Calls Try.prog 5 #[batV t s p n c] w fun e w' => e = .returned (.bool true) ∧ Below w.heap.size w w' := by
  have h0 := sg_bel (below_alloc1 w (.cells #[.int .i64 t, .int .i64 s, .slice p n c] 24))
  have hx := Sg.nil (w.alloc (.cells #[.int .i64 t, .int .i64 s, .slice p n c] 24))
  obtain ⟨b0, b1, b2⟩ := bx3 hx.bel
  by_cases hz : rsz L ≤ 1048576
  · have hn1 := rsz_len hn hz
    obtain ⟨v, hv⟩ : ∃ v, (1048576 : Int) - (rsz L : Int) = v := ⟨_, rfl⟩
    have hv0 : ¬ v < 0 := by omega
    have HZ : Hid (∀ W, Below w.heap.size w W → Calls Try.prog 6 #[batV t s p n c, .int .i64 1048576] W fun e w' => e = .returned (.int .i64 v) ∧ Below W.heap.size W w') := fun W h => szBat_any t s p n c L hn 1048576 W (hL.step h) (by omega) (by omega) hm hms (by rw [if_neg (by omega)]; exact hv)
    have HT := Lib.hid (fun W (h : Below w.heap.size w W) => toBat_any t s p n c L hn hn1 W (hL.step h))
    have HEB : Hid (∀ W g g2, SlG kR W (some ⟨g, 0, none⟩) L → SlG kR W (some ⟨g2, 0, none⟩) L → Calls Try.prog 10 #[batV t s (some ⟨g, 0, none⟩) n n, batV t s (some ⟨g2, 0, none⟩) n n] W fun e w' => e = .returned (.bool true) ∧ Below W.heap.size W w') := fun W g g2 h h2 => eqBat_same t s _ _ n n n L hn hn1 W h h2
    obtain ⟨I, hI⟩ : ∃ I, idsL t s L = I := ⟨_, rfl⟩
    have hml := idsL_len t s L
    rw [hI] at hml
    obtain ⟨m, hmm⟩ : ∃ m, I.length = m := ⟨_, rfl⟩
    rw [hmm] at hml
    have HS : Hid (∀ W g, SlG kR W (some ⟨g, 0, none⟩) L → Calls Try.prog 21 #[batV t s (some ⟨g, 0, none⟩) n n] W fun e w' => ∃ q c, e = .returned (.slice q m c) ∧ Sg W w' [rG kI (.slice q m c) I]) := fun W g h => by
      refine (sIds_any _ n n hn W h (by omega) hI).mono ?_
      rintro e w' ⟨q, m', c, h0, h1, h2⟩
      rw [hmm] at h0; subst h0
      exact ⟨q, c, h1, h2⟩
    have HI : Hid (∀ W g, SlG kR W (some ⟨g, 0, none⟩) L → Calls Try.prog 22 #[batV t s (some ⟨g, 0, none⟩) n n] W fun e w' => ∃ q c, e = .returned (.slice q m c) ∧ Sg W w' [rG kI (.slice q m c) I]) := fun W g h => by
      refine (iIds_any _ n n hn W h (by omega) hI).mono ?_
      rintro e w' ⟨q, m', c, h0, h1, h2⟩
      rw [hmm] at h0; subst h0
      exact ⟨q, c, h1, h2⟩
    have HE : Hid (∀ W q q2 c c2, SlG kI W q I → SlG kI W q2 I → Calls Try.prog 23 #[.slice q m c, .slice q2 m c2] W fun e w' => e = .returned (.bool true) ∧ Below W.heap.size W w') := fun W q q2 c c2 h h2 => eqInt64S_same _ _ c c2 I m hmm W h h2 (by omega)
    have k1 : ¬ (1 : Int) + 5 * (n : Int) < 0 := by omega
    have k2 : ¬ (1 : Int) + (m : Int) < 0 := by omega
    clear hn hL hv hz hms hI hmm
    go_enter Try.func5, Try.ntmps5
    go_upto_region 5 with (go_at_call 6; refine (HZ.out _ (h0.addL hx).bel).mono ?_; rintro e w1 ⟨rfl, hb1⟩; replace hx := hx.step hb1; clear b0 b1 b2; obtain ⟨b0, b1, b2⟩ := bx3 hx.bel)
    go_upto_region 6 with (first
      | (go_at_call 8; refine (HT.out _ (h0.addL hx).bel).mono ?_; rintro e w2 ⟨g1, rfl, hg1⟩; replace hx := hx.addL hg1; clear b0 b1 b2; obtain ⟨b0, b1, b2⟩ := bx3 hx.bel)
      | (go_at_call 21; refine (HS.out _ g1 (OwG.sl (hx.mem (K := kR) (v := .slice (some ⟨g1, 0, none⟩) n n) (L := L) (by simp)))).mono ?_; rintro e w3 ⟨qw, cw, rfl, h3⟩; replace hx := hx.addL h3; clear b0 b1 b2; obtain ⟨b0, b1, b2⟩ := bx3 hx.bel))
    go_upto_region 7 with (go_at_call 8; refine (HT.out _ (h0.addL hx).bel).mono ?_; rintro e w4 ⟨g2, rfl, hg2⟩; replace hx := hx.addL hg2; clear b0 b1 b2; obtain ⟨b0, b1, b2⟩ := bx3 hx.bel)
    have hx2 := hx.lit kB [⟨t, s, ⟨some ⟨g2, 0, none⟩, n, n⟩⟩] 1 rfl (by decide) #[.int .i64 t, .int .i64 s, .slice (some ⟨g2, 0, none⟩) n n] rfl
    clear hx
    obtain ⟨x0, x1, x2, xf, xg⟩ := bat3 hx2 (K := kB) (g := w4.heap.size) (n := 1) (q := ⟨t, s, ⟨some ⟨g2, 0, none⟩, n, n⟩⟩) (by simp) rfl
    simp only at x0 x1 x2
    clear b0 b1 b2
    obtain ⟨b0, b1, b2⟩ := bx3 hx2.bel
    have hx := hx2
    clear hx2
    go_upto_region 8 with (go_at_call 22; refine (HI.out _ g2 (OwG.sl (hx.mem (K := kR) (v := .slice (some ⟨g2, 0, none⟩) n n) (L := L) (by simp)))).mono ?_; rintro e w5 ⟨qg, cg, rfl, h5⟩; replace hx := hx.addL h5; clear b0 b1 b2; obtain ⟨b0, b1, b2⟩ := bx3 hx.bel; clear x0 x1 x2; obtain ⟨x0, x1, x2, _, _⟩ := bat3 hx (K := kB) (g := w4.heap.size) (n := 1) (q := ⟨t, s, ⟨some ⟨g2, 0, none⟩, n, n⟩⟩) (by simp) rfl; simp only at x0 x1 x2)
    go_upto_region 10 with (go_at_call 23; refine (HE.out _ _ _ _ _ (OwG.sl (hx.mem (K := kI) (v := .slice qg m cg) (L := I) (by simp))) (OwG.sl (hx.mem (K := kI) (v := .slice qw m cw) (L := I) (by simp)))).mono ?_; rintro e w6 ⟨rfl, hb6⟩; replace hx := hx.step hb6; clear b0 b1 b2; obtain ⟨b0, b1, b2⟩ := bx3 hx.bel; clear x0 x1 x2; obtain ⟨x0, x1, x2, _, _⟩ := bat3 hx (K := kB) (g := w4.heap.size) (n := 1) (q := ⟨t, s, ⟨some ⟨g2, 0, none⟩, n, n⟩⟩) (by simp) rfl; simp only at x0 x1 x2)
    clear x0 x1 x2 b0 b1 b2 xf xg
    generalize w4.heap.size = b4 at *
    have HK2 : Hid (∀ w' rs, Sg (w.alloc (.cells #[.int .i64 t, .int .i64 s, .slice p n c] 24)) w' rs → rG kB (.slice (some ⟨b4, 0, none⟩) 1 1) [⟨t, s, ⟨some ⟨g2, 0, none⟩, n, n⟩⟩] ∈ rs → (w'.cell? ⟨b4, 0, none⟩ = some (.int .i64 t) ∧ w'.cell? ⟨b4, 1, none⟩ = some (.int .i64 s) ∧ w'.cell? ⟨b4, 2, none⟩ = some (.slice (some ⟨g2, 0, none⟩) n n) ∧ w'.cell? ⟨w.heap.size, 0, none⟩ = some (.int .i64 t) ∧ w'.cell? ⟨w.heap.size, 1, none⟩ = some (.int .i64 s) ∧ w'.cell? ⟨w.heap.size, 2, none⟩ = some (.slice p n c))) := fun w' rs h m1 => by
      obtain ⟨y0, y1, y2, _, _⟩ := bat3 h (K := kB) (g := b4) (n := 1) (q := ⟨t, s, ⟨some ⟨g2, 0, none⟩, n, n⟩⟩) m1 rfl
      exact ⟨y0, y1, y2, bx3 h.bel⟩
    go_region_held3 (fun w' => w'.cell? ⟨b4, 0, none⟩ = some (.int .i64 t) ∧ w'.cell? ⟨b4, 1, none⟩ = some (.int .i64 s) ∧ w'.cell? ⟨b4, 2, none⟩ = some (.slice (some ⟨g2, 0, none⟩) n n) ∧ w'.cell? ⟨w.heap.size, 0, none⟩ = some (.int .i64 t) ∧ w'.cell? ⟨w.heap.size, 1, none⟩ = some (.int .i64 s) ∧ w'.cell? ⟨w.heap.size, 2, none⟩ = some (.slice p n c))
      (first
        | assumption
        | with_reducible exact HK2.out _ _ hx (by simp)
        | with_reducible exact HK2.out _ _ hx.dr (by simp))
      (first
        | (go_at_call 8; refine (HT.out _ (by first | with_reducible exact (h0.addL hx).bel | with_reducible exact (h0.addL hx.dr).bel)).mono ?_; rintro e w7 ⟨g3, rfl, hg3⟩; (first | with_reducible (replace hx := hx.addL hg3) | with_reducible (replace hx := hx.dr.addL hg3)); clear hg3)
        | (go_at_call 10; refine (HEB.out _ g2 g3 (OwG.sl (hx.mem (K := kR) (v := .slice (some ⟨g2, 0, none⟩) n n) (L := L) (by simp))) (OwG.sl (hx.mem (K := kR) (v := .slice (some ⟨g3, 0, none⟩) n n) (L := L) (by simp)))).mono ?_; rintro e w8 ⟨rfl, hb8⟩; replace hx := hx.step hb8; clear hb8))
    rename_i hHeld
    obtain ⟨x0, x1, x2, b0, b1, b2⟩ := hHeld
    have hxm := hx.sub (rs' := [rG kI (.slice qg m cg) I, rG kB (.slice (some ⟨b4, 0, none⟩) 1 1) [⟨t, s, ⟨some ⟨g2, 0, none⟩, n, n⟩⟩]] ++ rG kR (.slice (some ⟨g2, 0, none⟩) n n) L :: [rG kI (.slice qw m cw) I]) (by simp)
    clear hx
    go_upto_region 14 with (go_at_call 18; refine (markBat_any t s _ n n 1 L _ _ _ _ hxm hn1 (by decide) (by decide)).mono ?_; rintro e w9 ⟨rfl, hx9⟩)
    have hx := hx9.sub (rs' := [rG kI (.slice qg m cg) I, rG kI (.slice qw m cw) I]) (by simp)
    clear hxm hx9 x0 x1 x2 b0 b1 b2
    obtain ⟨b0, b1, b2⟩ := bx3 hx.bel
    go_upto_region 16 with (go_at_call 23; refine (HE.out _ _ _ _ _ (OwG.sl (hx.mem (K := kI) (v := .slice qg m cg) (L := I) (by simp))) (OwG.sl (hx.mem (K := kI) (v := .slice qw m cw) (L := I) (by simp)))).mono ?_; rintro e w10 ⟨rfl, hb10⟩; replace hx := hx.step hb10; clear b0 b1 b2; obtain ⟨b0, b1, b2⟩ := bx3 hx.bel)
    have hxm : Sg (w.alloc (.cells #[.int .i64 t, .int .i64 s, .slice p n c] 24)) w10 ([] ++ rG kI (.slice qg m cg) I :: [rG kI (.slice qw m cw) I]) := hx
    clear hx
    go_upto_region 18 with (go_at_call 24; refine (markInt64S_any _ m cg 1 I _ _ _ _ hxm (by omega) (by decide) (by decide)).mono ?_; rintro e w11 ⟨rfl, hx11⟩)
    have hx : Sg (w.alloc (.cells #[.int .i64 t, .int .i64 s, .slice p n c] 24)) w11 [rG kI (.slice qg m cg) (mk1 1 m), rG kI (.slice qw m cw) I] := hx11
    clear hxm hx11 b0 b1 b2
    obtain ⟨b0, b1, b2⟩ := bx3 hx.bel
    go_upto_region 24 with (go_at_call 25; refine (heldInt64S_any _ cg 1 m _ (OwG.sl (hx.mem (K := kI) (v := .slice qg m cg) (L := mk1 1 m) (by simp))) (by omega) (by decide) (by decide)).mono ?_; rintro e w12 ⟨rfl, hw12⟩; subst hw12)
    go_upto_region 25 with (first
      | (go_at_call 8; refine (HT.out _ (h0.addL hx).bel).mono ?_; rintro e w13 ⟨g4, rfl, hg4⟩; replace hx := hx.addL hg4; clear b0 b1 b2; obtain ⟨b0, b1, b2⟩ := bx3 hx.bel)
      | (go_at_call 22; refine (HI.out _ g4 (OwG.sl (hx.mem (K := kR) (v := .slice (some ⟨g4, 0, none⟩) n n) (L := L) (by simp)))).mono ?_; rintro e w14 ⟨qh, ch, rfl, h14⟩; replace hx := hx.addL h14; clear b0 b1 b2; obtain ⟨b0, b1, b2⟩ := bx3 hx.bel))
    go_upto_region 27 with (go_at_call 23; refine (HE.out _ _ _ _ _ (OwG.sl (hx.mem (K := kI) (v := .slice qh m ch) (L := I) (by simp))) (OwG.sl (hx.mem (K := kI) (v := .slice qw m cw) (L := I) (by simp)))).mono ?_; rintro e w15 ⟨rfl, hb15⟩; replace hx := hx.step hb15; clear b0 b1 b2; obtain ⟨b0, b1, b2⟩ := bx3 hx.bel)
    go_wp2_with (go_at_call 25; refine (heldInt64S_any _ cg 1 m _ (OwG.sl (hx.mem (K := kI) (v := .slice qg m cg) (L := mk1 1 m) (by simp))) (by omega) (by decide) (by decide)).mono ?_; rintro e w16 ⟨rfl, hw16⟩; subst hw16)
    go_ret
    exact ⟨rfl, (h0.addL hx).bel⟩
  · have HZ : Hid (∀ W, Below w.heap.size w W → Calls Try.prog 6 #[batV t s p n c, .int .i64 1048576] W fun e w' => e = .returned (.int .i64 (-1)) ∧ Below W.heap.size W w') := fun W h => szBat_any t s p n c L hn 1048576 W (hL.step h) (by omega) (by omega) hm hms (by rw [if_pos (by omega)])
    clear hn hL hz hms
    go_enter Try.func5, Try.ntmps5
    go_wp2_with (go_at_call 6; refine (HZ.out _ h0.bel).mono ?_; rintro e w1 ⟨rfl, hb1⟩)
    go_ret
    exact ⟨rfl, (h0.step hb1).bel⟩
end Go.Proofs.Ytbkiogedipmioaa.I
