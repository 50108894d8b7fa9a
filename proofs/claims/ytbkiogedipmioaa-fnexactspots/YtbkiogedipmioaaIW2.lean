/-
  The law of Spots, walked.
-/
import Derived.Test.YtbkiogedipmioaaIW1
namespace Go.Proofs.Ytbkiogedipmioaa.I
open Go.Shelf Go.RowKit Go.Joins
attribute [local go_sem] Oper.semAt_some

theorem toRecS0 (p : Option Addr) (cap : Nat) (L : List Rc) (n : Nat) (hn : L.length = n) (w : World) (hL : SlG Ytbkiogedipmioaa.kL w p L) (hb : n ≤ 1048576) :
    Calls Try.prog 13 #[.slice p n cap] w fun e w' => ∃ g, e = .returned (.slice (some ⟨g, 0, none⟩) n n) ∧ Sg w w' [rG Ytbkiogedipmioaa.kR (.slice (some ⟨g, 0, none⟩) n n) L] := Ytbkiogedipmioaa.toRecS_any p cap L n hn w hL hb
theorem eqRecS0 (p q : Option Addr) (cap cap' : Nat) (L : List Rc) (n : Nat) (hn : L.length = n) (w : World) (hp : SlG Ytbkiogedipmioaa.kR w p L) (hq : SlG Ytbkiogedipmioaa.kR w q L) (hb : n ≤ 10000000) :
    Calls Try.prog 16 #[.slice p n cap, .slice q n cap'] w fun e w' => e = .returned (.bool true) ∧ Below w.heap.size w w' := Ytbkiogedipmioaa.eqRecS_same p q cap cap' L n hn w hp hq hb
theorem markRecS0 (p : Option Addr) (n c : Nat) (k0 : Int) (M : List Rc) (A Bs : List Rw) (w W : World) (hS : Sg w W (A ++ rG Ytbkiogedipmioaa.kR (.slice p n c) M :: Bs)) (hb : n ≤ 1048576) (hk0 : 1 ≤ k0) (hk1 : k0 ≤ 100000000) :
    Calls Try.prog 17 #[.slice p n c, .int .i64 k0] W fun e w' => e = .returned (.int .i64 (k0 + 5 * n)) ∧ Sg w w' (A ++ rG Ytbkiogedipmioaa.kR (.slice p n c) (mkRs k0 n) :: Bs) := Ytbkiogedipmioaa.markRecS_any p n c k0 M A Bs w W hS hb hk0 hk1
theorem szRecS0 (p : Option Addr) (cap : Nat) (L : List Rc) (n : Nat) (hn : L.length = n) (a : Int) (w : World) (hL : SlG Ytbkiogedipmioaa.kL w p L) (ha : 0 ≤ a) (ha2 : a ≤ 1048576) (hm : n ≤ maxLen) (hms : ∀ r ∈ L, r.s.size ≤ maxLen) {v : Int} (hv : (if a < rsz L then -1 else a - (rsz L : Int)) = v) :
    Calls Try.prog 11 #[.slice p n cap, .int .i64 a] w fun e w' => e = .returned (.int .i64 v) ∧ Below w.heap.size w w' := Ytbkiogedipmioaa.szRecS_any p cap L n hn a w hL ha ha2 hm hms hv
set_option maxRecDepth 100000 in
set_option maxHeartbeats 4000000 in
theorem exactSpots (p : Option Addr) (cap : Nat) (L : List Rc) (n : Nat) (hn : L.length = n) (hm : n ≤ maxLen) (hms : ∀ r ∈ L, r.s.size ≤ maxLen) (t s : Int) (bp : Option Addr) (bn bc : Nat) (M : List Rc) (hbn : M.length = bn) (hbm : bn ≤ maxLen) (hbs : ∀ r ∈ M, r.s.size ≤ maxLen) (w : World) (hL : SlG Ytbkiogedipmioaa.kL w p L) (hM : SlG kL w bp M) :
    Calls Try.prog 4 #[.slice p n cap, batV t s bp bn bc] w fun e w' => e = .returned (.bool true) ∧ Below w.heap.size w w' := by
  have h0 := sg_bel (below_alloc1 w (.cells #[.int .i64 t, .int .i64 s, .slice bp bn bc] 24))
  have hx := Sg.nil (w.alloc (.cells #[.int .i64 t, .int .i64 s, .slice bp bn bc] 24))
  obtain ⟨b0, b1, b2⟩ := bx3 hx.bel
  by_cases hz : rsz L ≤ 1048576
  · have hn1 := rsz_len hn hz
    obtain ⟨v, hv⟩ : ∃ v, (1048576 : Int) - (rsz L : Int) = v := ⟨_, rfl⟩
    have hv0 : ¬ v < 0 := by omega
    have HZ := Lib.hid (fun W (h : Below w.heap.size w W) => szRecS0 p cap L n hn 1048576 W (hL.step h) (by omega) (by omega) hm hms (v := v) (by rw [if_neg (by omega)]; exact hv))
    by_cases hz2 : (rsz M : Int) ≤ v
    · have hbn1 := rsz_len hbn (by omega)
      obtain ⟨v2, hv2⟩ : ∃ v2, v - (rsz M : Int) = v2 := ⟨_, rfl⟩
      have hv20 : ¬ v2 < 0 := by omega
      have HZ2 := Lib.hid (fun W (h : Below w.heap.size w W) => szBat_any t s bp bn bc M hbn v W (hM.step h) (by omega) (by omega) hbm hbs (v := v2) (by rw [if_neg (by omega)]; exact hv2))
      have HT := Lib.hid (fun W (h : Below w.heap.size w W) => toBat_any t s bp bn bc M hbn hbn1 W (hM.step h))
      have HR := Lib.hid (fun W (h : Below w.heap.size w W) => toRecS0 p cap L n hn W (hL.step h) hn1)
      obtain ⟨X, hX⟩ : ∃ X, spL L t s M = X := ⟨_, rfl⟩
      have hml := spL_len L t s M
      rw [hX] at hml
      obtain ⟨m, hmm⟩ : ∃ m, X.length = m := ⟨_, rfl⟩
      rw [hmm] at hml
      have HS : Hid (∀ W g g2, CsG Ytbkiogedipmioaa.kR W g 0 L → SlG kR W (some ⟨g2, 0, none⟩) M → Calls Try.prog 12 #[.slice (some ⟨g, 0, none⟩) n n, batV t s (some ⟨g2, 0, none⟩) bn bn] W fun e w' => ∃ q c, e = .returned (.slice q m c) ∧ Sg W w' [rG kS (.slice q m c) X]) := fun W g g2 h h2 => by
        refine (sSpots_any g 0 n L n hn (by omega) _ bn bn M hbn (by omega) W h h2 hX).mono ?_
        rintro e w' ⟨q, m', c, h0, h1, h2⟩
        rw [hmm] at h0; subst h0
        exact ⟨q, c, h1, h2⟩
      have HI : Hid (∀ W g g2, CsG Ytbkiogedipmioaa.kR W g 0 L → SlG kR W (some ⟨g2, 0, none⟩) M → Calls Try.prog 14 #[.slice (some ⟨g, 0, none⟩) n n, batV t s (some ⟨g2, 0, none⟩) bn bn] W fun e w' => ∃ q c, e = .returned (.slice q m c) ∧ Sg W w' [rG kS (.slice q m c) X]) := fun W g g2 h h2 => by
        refine (iSpots_any g 0 n L n hn (Nat.le_refl _) (by omega) _ bn bn M hbn (by omega) W h h2 hX).mono ?_
        rintro e w' ⟨q, m', c, h0, h1, h2⟩
        rw [hmm] at h0; subst h0
        exact ⟨q, c, h1, h2⟩
      have HE : Hid (∀ W q q2 c c2, SlG kS W q X → SlG kS W q2 X → Calls Try.prog 15 #[.slice q m c, .slice q2 m c2] W fun e w' => e = .returned (.bool true) ∧ Below W.heap.size W w') := fun W q q2 c c2 h h2 => eqSpotS_same _ _ c c2 X m hmm W h h2 (by omega)
      have HEL : Hid (∀ W g g2, SlG Ytbkiogedipmioaa.kR W (some ⟨g, 0, none⟩) L → SlG Ytbkiogedipmioaa.kR W (some ⟨g2, 0, none⟩) L → Calls Try.prog 16 #[.slice (some ⟨g, 0, none⟩) n n, .slice (some ⟨g2, 0, none⟩) n n] W fun e w' => e = .returned (.bool true) ∧ Below W.heap.size W w') := fun W g g2 h h2 => eqRecS0 _ _ n n L n hn W h h2 (by omega)
      have HEB : Hid (∀ W g g2, SlG kR W (some ⟨g, 0, none⟩) M → SlG kR W (some ⟨g2, 0, none⟩) M → Calls Try.prog 10 #[batV t s (some ⟨g, 0, none⟩) bn bn, batV t s (some ⟨g2, 0, none⟩) bn bn] W fun e w' => e = .returned (.bool true) ∧ Below W.heap.size W w') := fun W g g2 h h2 => eqBat_same t s _ _ bn bn bn M hbn hbn1 W h h2
      have k1 : ¬ (1 : Int) + 5 * (n : Int) + 5 * (bn : Int) < 0 := by omega
      have k2 : ¬ (1 : Int) + 2 * (m : Int) < 0 := by omega
      clear hn hL hv hz hz2 hms hbn hM hv2 hbs hX hmm
      go_enter Try.func4, Try.ntmps4
      go_upto_region 8 with (first
        | (go_at_call 11; refine (HZ.out _ (h0.addL hx).bel).mono ?_; rintro e w1 ⟨rfl, hb1⟩; replace hx := hx.step hb1; clear b0 b1 b2; obtain ⟨b0, b1, b2⟩ := bx3 hx.bel)
        | (go_at_call 6; refine (HZ2.out _ (h0.addL hx).bel).mono ?_; rintro e w2 ⟨rfl, hb2⟩; replace hx := hx.step hb2; clear b0 b1 b2; obtain ⟨b0, b1, b2⟩ := bx3 hx.bel))
      clear b0 b1 b2
      go_region_held3 (fun w' => w'.cell? ⟨w.heap.size, 0, none⟩ = some (.int .i64 t) ∧ w'.cell? ⟨w.heap.size, 1, none⟩ = some (.int .i64 s) ∧ w'.cell? ⟨w.heap.size, 2, none⟩ = some (.slice bp bn bc))
        (first
          | assumption
          | with_reducible exact bx3 hx.bel
          | with_reducible exact bx3 hx.dr.bel)
        (first
          | (go_at_call 13; refine (HR.out _ (by first | with_reducible exact (h0.addL hx).bel | with_reducible exact (h0.addL hx.dr).bel)).mono ?_; rintro e u1 ⟨g1, rfl, hg1⟩; (first | with_reducible (replace hx := hx.addL hg1) | with_reducible (replace hx := hx.dr.addL hg1)); clear hg1)
          | (go_at_call 8; refine (HT.out _ (by first | with_reducible exact (h0.addL hx).bel | with_reducible exact (h0.addL hx.dr).bel)).mono ?_; rintro e u2 ⟨g2, rfl, hg2⟩; (first | with_reducible (replace hx := hx.addL hg2) | with_reducible (replace hx := hx.dr.addL hg2)); clear hg2)
          | (go_at_call 12; refine (HS.out _ g1 g2 (OwG.cs (hx.mem (K := Ytbkiogedipmioaa.kR) (v := .slice (some ⟨g1, 0, none⟩) n n) (L := L) (by simp))) (OwG.sl (hx.mem (K := kR) (v := .slice (some ⟨g2, 0, none⟩) bn bn) (L := M) (by simp)))).mono ?_; rintro e u3 ⟨qw, cw, rfl, h3⟩; replace hx := hx.addL h3; clear h3))
      rename_i hHeld
      obtain ⟨b0, b1, b2⟩ := hHeld
      go_upto_region 10 with (go_at_call 13; refine (HR.out _ (h0.addL hx).bel).mono ?_; rintro e u4 ⟨g3, rfl, hg3⟩; replace hx := hx.addL hg3; clear b0 b1 b2; obtain ⟨b0, b1, b2⟩ := bx3 hx.bel)
      go_upto_region 11 with (go_at_call 8; refine (HT.out _ (h0.addL hx).bel).mono ?_; rintro e w4 ⟨g4, rfl, hg4⟩; replace hx := hx.addL hg4; clear b0 b1 b2; obtain ⟨b0, b1, b2⟩ := bx3 hx.bel)
      have hx2 := hx.lit kB [⟨t, s, ⟨some ⟨g4, 0, none⟩, bn, bn⟩⟩] 1 rfl (by decide) #[.int .i64 t, .int .i64 s, .slice (some ⟨g4, 0, none⟩) bn bn] rfl
      clear hx b0 b1 b2
      have hx := hx2
      clear hx2
      obtain ⟨x0, x1, x2, _, _⟩ := bat3 hx (K := kB) (g := w4.heap.size) (n := 1) (q := ⟨t, s, ⟨some ⟨g4, 0, none⟩, bn, bn⟩⟩) (by simp) rfl
      simp only at x0 x1 x2
      obtain ⟨b0, b1, b2⟩ := bx3 hx.bel
      go_upto_region 12 with (go_at_call 14; refine (HI.out _ g3 g4 (OwG.cs (hx.mem (K := Ytbkiogedipmioaa.kR) (v := .slice (some ⟨g3, 0, none⟩) n n) (L := L) (by simp))) (OwG.sl (hx.mem (K := kR) (v := .slice (some ⟨g4, 0, none⟩) bn bn) (L := M) (by simp)))).mono ?_; rintro e w5 ⟨qg, cg, rfl, h5⟩; replace hx := hx.addL h5; clear b0 b1 b2; obtain ⟨b0, b1, b2⟩ := bx3 hx.bel; clear x0 x1 x2; obtain ⟨x0, x1, x2, _, _⟩ := bat3 hx (K := kB) (g := w4.heap.size) (n := 1) (q := ⟨t, s, ⟨some ⟨g4, 0, none⟩, bn, bn⟩⟩) (by simp) rfl; simp only at x0 x1 x2)
      go_upto_region 14 with (go_at_call 15; refine (HE.out _ _ _ _ _ (OwG.sl (hx.mem (K := kS) (v := .slice qg m cg) (L := X) (by simp))) (OwG.sl (hx.mem (K := kS) (v := .slice qw m cw) (L := X) (by simp)))).mono ?_; rintro e w6 ⟨rfl, hb6⟩; replace hx := hx.step hb6; clear b0 b1 b2; obtain ⟨b0, b1, b2⟩ := bx3 hx.bel; clear x0 x1 x2; obtain ⟨x0, x1, x2, _, _⟩ := bat3 hx (K := kB) (g := w4.heap.size) (n := 1) (q := ⟨t, s, ⟨some ⟨g4, 0, none⟩, bn, bn⟩⟩) (by simp) rfl; simp only at x0 x1 x2)
      go_upto_region 16 with (first
        | (go_at_call 13; refine (HR.out _ (h0.addL hx).bel).mono ?_; rintro e w7 ⟨g7, rfl, h7⟩; replace hx := hx.addL h7; clear b0 b1 b2; obtain ⟨b0, b1, b2⟩ := bx3 hx.bel; clear x0 x1 x2; obtain ⟨x0, x1, x2, _, _⟩ := bat3 hx (K := kB) (g := w4.heap.size) (n := 1) (q := ⟨t, s, ⟨some ⟨g4, 0, none⟩, bn, bn⟩⟩) (by simp) rfl; simp only at x0 x1 x2)
        | (go_at_call 16; refine (HEL.out _ g3 g7 (OwG.sl (hx.mem (K := Ytbkiogedipmioaa.kR) (v := .slice (some ⟨g3, 0, none⟩) n n) (L := L) (by simp))) (OwG.sl (hx.mem (K := Ytbkiogedipmioaa.kR) (v := .slice (some ⟨g7, 0, none⟩) n n) (L := L) (by simp)))).mono ?_; rintro e w8 ⟨rfl, hb8⟩; replace hx := hx.step hb8; clear b0 b1 b2; obtain ⟨b0, b1, b2⟩ := bx3 hx.bel; clear x0 x1 x2; obtain ⟨x0, x1, x2, _, _⟩ := bat3 hx (K := kB) (g := w4.heap.size) (n := 1) (q := ⟨t, s, ⟨some ⟨g4, 0, none⟩, bn, bn⟩⟩) (by simp) rfl; simp only at x0 x1 x2))
      clear x0 x1 x2 b0 b1 b2
      generalize w4.heap.size = b4 at *
      have HK2 : Hid (∀ w' rs, Sg (w.alloc (.cells #[.int .i64 t, .int .i64 s, .slice bp bn bc] 24)) w' rs → rG kB (.slice (some ⟨b4, 0, none⟩) 1 1) [⟨t, s, ⟨some ⟨g4, 0, none⟩, bn, bn⟩⟩] ∈ rs → (w'.cell? ⟨b4, 0, none⟩ = some (.int .i64 t) ∧ w'.cell? ⟨b4, 1, none⟩ = some (.int .i64 s) ∧ w'.cell? ⟨b4, 2, none⟩ = some (.slice (some ⟨g4, 0, none⟩) bn bn) ∧ w'.cell? ⟨w.heap.size, 0, none⟩ = some (.int .i64 t) ∧ w'.cell? ⟨w.heap.size, 1, none⟩ = some (.int .i64 s) ∧ w'.cell? ⟨w.heap.size, 2, none⟩ = some (.slice bp bn bc))) := fun w' rs h m1 => by
        obtain ⟨y0, y1, y2, _, _⟩ := bat3 h (K := kB) (g := b4) (n := 1) (q := ⟨t, s, ⟨some ⟨g4, 0, none⟩, bn, bn⟩⟩) m1 rfl
        exact ⟨y0, y1, y2, bx3 h.bel⟩
      go_region_held3 (fun w' => w'.cell? ⟨b4, 0, none⟩ = some (.int .i64 t) ∧ w'.cell? ⟨b4, 1, none⟩ = some (.int .i64 s) ∧ w'.cell? ⟨b4, 2, none⟩ = some (.slice (some ⟨g4, 0, none⟩) bn bn) ∧ w'.cell? ⟨w.heap.size, 0, none⟩ = some (.int .i64 t) ∧ w'.cell? ⟨w.heap.size, 1, none⟩ = some (.int .i64 s) ∧ w'.cell? ⟨w.heap.size, 2, none⟩ = some (.slice bp bn bc))
        (first
          | assumption
          | with_reducible exact HK2.out _ _ hx (by simp)
          | with_reducible exact HK2.out _ _ hx.dr (by simp))
        (first
          | (go_at_call 8; refine (HT.out _ (by first | with_reducible exact (h0.addL hx).bel | with_reducible exact (h0.addL hx.dr).bel)).mono ?_; rintro e w9 ⟨g9, rfl, hg9⟩; (first | with_reducible (replace hx := hx.addL hg9) | with_reducible (replace hx := hx.dr.addL hg9)); clear hg9)
          | (go_at_call 10; refine (HEB.out _ g4 g9 (OwG.sl (hx.mem (K := kR) (v := .slice (some ⟨g4, 0, none⟩) bn bn) (L := M) (by simp))) (OwG.sl (hx.mem (K := kR) (v := .slice (some ⟨g9, 0, none⟩) bn bn) (L := M) (by simp)))).mono ?_; rintro e w10 ⟨rfl, hb10⟩; replace hx := hx.step hb10; clear hb10))
      rename_i hHeld
      clear hHeld
      have hxm := hx.sub (rs' := [rG kS (.slice qg m cg) X, rG kB (.slice (some ⟨b4, 0, none⟩) 1 1) [⟨t, s, ⟨some ⟨g4, 0, none⟩, bn, bn⟩⟩], rG kR (.slice (some ⟨g4, 0, none⟩) bn bn) M] ++ rG Ytbkiogedipmioaa.kR (.slice (some ⟨g3, 0, none⟩) n n) L :: [rG kS (.slice qw m cw) X]) (by simp)
      clear hx
      go_upto_region 20 with (go_at_call 17; refine (markRecS0 _ n n 1 L _ _ _ _ hxm hn1 (by decide) (by decide)).mono ?_; rintro e w11 ⟨rfl, hx11⟩)
      obtain ⟨x0, x1, x2, _, _⟩ := bat3 hx11 (K := kB) (g := b4) (n := 1) (q := ⟨t, s, ⟨some ⟨g4, 0, none⟩, bn, bn⟩⟩) (by simp) rfl
      simp only at x0 x1 x2
      have hxm2 := hx11.sub (rs' := [rG kS (.slice qg m cg) X] ++ rG kR (.slice (some ⟨g4, 0, none⟩) bn bn) M :: [rG kS (.slice qw m cw) X]) (by simp)
      clear hxm hx11
      go_upto_region 21 with (go_at_call 18; refine (markBat_any t s _ bn bn _ M _ _ _ _ hxm2 hbn1 (by omega) (by omega)).mono ?_; rintro e w12 ⟨rfl, hx12⟩)
      have hx := hx12.sub (rs' := [rG kS (.slice qg m cg) X, rG kS (.slice qw m cw) X]) (by simp)
      clear hxm2 hx12 x0 x1 x2
      go_upto_region 23 with (go_at_call 15; refine (HE.out _ _ _ _ _ (OwG.sl (hx.mem (K := kS) (v := .slice qg m cg) (L := X) (by simp))) (OwG.sl (hx.mem (K := kS) (v := .slice qw m cw) (L := X) (by simp)))).mono ?_; rintro e w13 ⟨rfl, hb13⟩; replace hx := hx.step hb13)
      have hxm : Sg (w.alloc (.cells #[.int .i64 t, .int .i64 s, .slice bp bn bc] 24)) w13 ([] ++ rG kS (.slice qg m cg) X :: [rG kS (.slice qw m cw) X]) := hx
      clear hx
      go_upto_region 25 with (go_at_call 19; refine (markSpotS_any _ m cg 1 X _ _ _ _ hxm (by omega) (by decide) (by decide)).mono ?_; rintro e w14 ⟨rfl, hx14⟩)
      have hx : Sg (w.alloc (.cells #[.int .i64 t, .int .i64 s, .slice bp bn bc] 24)) w14 [rG kS (.slice qg m cg) (mk2 1 m), rG kS (.slice qw m cw) X] := hx14
      clear hxm hx14
      go_upto_region 31 with (go_at_call 20; refine (heldSpotS_any _ cg 1 m _ (OwG.sl (hx.mem (K := kS) (v := .slice qg m cg) (L := mk2 1 m) (by simp))) (by omega) (by decide) (by decide)).mono ?_; rintro e w15 ⟨rfl, hw15⟩; subst hw15)
      obtain ⟨b0, b1, b2⟩ := bx3 hx.bel
      clear b0 b1 b2
      go_region_held3 (fun w' => w'.cell? ⟨w.heap.size, 0, none⟩ = some (.int .i64 t) ∧ w'.cell? ⟨w.heap.size, 1, none⟩ = some (.int .i64 s) ∧ w'.cell? ⟨w.heap.size, 2, none⟩ = some (.slice bp bn bc))
        (first
          | assumption
          | with_reducible exact bx3 hx.bel
          | with_reducible exact bx3 hx.dr.bel)
        (first
          | (go_at_call 13; refine (HR.out _ (by first | with_reducible exact (h0.addL hx).bel | with_reducible exact (h0.addL hx.dr).bel)).mono ?_; rintro e u5 ⟨g5, rfl, hg5⟩; (first | with_reducible (replace hx := hx.addL hg5) | with_reducible (replace hx := hx.dr.addL hg5)); clear hg5)
          | (go_at_call 8; refine (HT.out _ (by first | with_reducible exact (h0.addL hx).bel | with_reducible exact (h0.addL hx.dr).bel)).mono ?_; rintro e u6 ⟨g6, rfl, hg6⟩; (first | with_reducible (replace hx := hx.addL hg6) | with_reducible (replace hx := hx.dr.addL hg6)); clear hg6)
          | (go_at_call 14; refine (HI.out _ g5 g6 (OwG.cs (hx.mem (K := Ytbkiogedipmioaa.kR) (v := .slice (some ⟨g5, 0, none⟩) n n) (L := L) (by simp))) (OwG.sl (hx.mem (K := kR) (v := .slice (some ⟨g6, 0, none⟩) bn bn) (L := M) (by simp)))).mono ?_; rintro e w16 ⟨qh, ch, rfl, h16⟩; replace hx := hx.addL h16; clear h16))
      rename_i hHeld
      obtain ⟨b0, b1, b2⟩ := hHeld
      go_upto_region 34 with (go_at_call 15; refine (HE.out _ _ _ _ _ (OwG.sl (hx.mem (K := kS) (v := .slice qh m ch) (L := X) (by simp))) (OwG.sl (hx.mem (K := kS) (v := .slice qw m cw) (L := X) (by simp)))).mono ?_; rintro e w17 ⟨rfl, hb17⟩; replace hx := hx.step hb17)
      go_wp2_with (go_at_call 20; refine (heldSpotS_any _ cg 1 m _ (OwG.sl (hx.mem (K := kS) (v := .slice qg m cg) (L := mk2 1 m) (by simp))) (by omega) (by decide) (by decide)).mono ?_; rintro e w18 ⟨rfl, hw18⟩; subst hw18)
      go_ret
      exact ⟨rfl, (h0.addL hx).bel⟩
    · have HZ2 := Lib.hid (fun W (h : Below w.heap.size w W) => szBat_any t s bp bn bc M hbn v W (hM.step h) (by omega) (by omega) hbm hbs (v := -1) (by rw [if_pos (by omega)]))
      clear hn hL hv hz hz2 hms hbn hM hbs
      go_enter Try.func4, Try.ntmps4
      go_wp2_with (first
        | (go_at_call 11; refine (HZ.out _ (h0.addL hx).bel).mono ?_; rintro e w1 ⟨rfl, hb1⟩; replace hx := hx.step hb1; clear b0 b1 b2; obtain ⟨b0, b1, b2⟩ := bx3 hx.bel)
        | (go_at_call 6; refine (HZ2.out _ (h0.addL hx).bel).mono ?_; rintro e w2 ⟨rfl, hb2⟩; replace hx := hx.step hb2))
      go_ret
      exact ⟨rfl, (h0.addL hx).bel⟩
  · have HZ := Lib.hid (fun W (h : Below w.heap.size w W) => szRecS0 p cap L n hn 1048576 W (hL.step h) (by omega) (by omega) hm hms (v := -1) (by rw [if_pos (by omega)]))
    clear hn hL hz hms hbn hM hbs
    go_enter Try.func4, Try.ntmps4
    go_wp2_with (go_at_call 11; refine (HZ.out _ (h0.addL hx).bel).mono ?_; rintro e w1 ⟨rfl, hb1⟩; replace hx := hx.step hb1)
    go_ret
    exact ⟨rfl, (h0.addL hx).bel⟩
end Go.Proofs.Ytbkiogedipmioaa.I
