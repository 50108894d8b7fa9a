/-
  The law of InCells, walked.
-/
import Derived.Test.YtjjnmeahcjpinaaC1
import Derived.Test.YtjjnmeahcjpinaaL4
import Derived.Test.YtjjnmeahcjpinaaW1
namespace Go.Proofs.Ytjjnmeahcjpinaa
open Go.Shelf Go.RowKit Go.Joins
attribute [local go_sem] Oper.semAt_some

theorem inL_le (L : List Rc) (t : Int) (cs : List M.T3) : (inL L t cs).length ≤ 400 := by
  unfold inL; rw [List.length_map]; exact Nat.le_trans (List.length_filter_le ..) (ofL_le L t)
theorem toC_sg (p : Option Addr) (cap : Nat) (L : List M.T3) (n : Nat) (hn : L.length = n) (w : World) (hL : M.Sl w p L) (hb : n ≤ 1048576) :
    Calls Try.prog 38 #[.slice p n cap] w fun e w' => ∃ g, e = .returned (.slice (some ⟨g, 0, none⟩) n n) ∧ Sg w w' [rG kC (.slice (some ⟨g, 0, none⟩) n n) L] := by
  subst hn
  refine (M.toCellS_any p cap L w hL hb).mono ?_
  rintro e w' ⟨h1, h2, h3⟩
  refine ⟨_, h1, h3, fun r hr => ?_, List.pairwise_singleton _ _⟩
  obtain rfl := List.mem_singleton.mp hr
  exact h2
theorem markC_sg (g n c : Nat) (k0 : Int) (L : List M.T3) (hn : L.length = n) (A Bs : List Rw) (w W : World) (hS : Sg w W (A ++ rG kC (.slice (some ⟨g, 0, none⟩) n c) L :: Bs)) (hb : n ≤ 1048576) (hk0 : 0 ≤ k0) (hk1 : k0 ≤ 100000000) :
    Calls Try.prog 41 #[.slice (some ⟨g, 0, none⟩) n c, .int .i64 k0] W fun e w' => e = .returned (.int .i64 (k0 + 3 * n)) ∧ Sg w w' (A ++ rG kC (.slice (some ⟨g, 0, none⟩) n c) (M.mk k0 n) :: Bs) := by
  have ho := hS.mem (K := kC) (v := .slice (some ⟨g, 0, none⟩) n c) (L := L) (by simp)
  subst hn
  refine (M.markCellS_any (some ⟨g, 0, none⟩) c w.heap.size k0 L W ho (by omega) hk0 hk1).mono ?_
  rintro e w' ⟨h1, h2, h3⟩
  exact ⟨h1, hS.put (r' := rG kC (.slice (some ⟨g, 0, none⟩) L.length c) (M.mk k0 L.length)) rfl h2 h3⟩
set_option maxRecDepth 100000 in
set_option maxHeartbeats 4000000 in
theorem exactInCells (p : Option Addr) (cap : Nat) (L : List Rc) (n : Nat) (hn : L.length = n) (hm : n ≤ maxLen) (hms : ∀ r ∈ L, r.s.size ≤ maxLen) (t : Int) (cp : Option Addr) (cc : Nat) (cs : List M.T3) (cn : Nat) (hcn : cs.length = cn) (hcm : cn ≤ maxLen) (w : World) (hL : SlG kL w p L) (hcs : M.Sl w cp cs) :
    Calls Try.prog 8 #[.slice p n cap, .int .i64 t, .slice cp cn cc] w fun e w' => e = .returned (.bool true) ∧ Below w.heap.size w w' := by
  have hx := Sg.nil w
  by_cases hz : rsz L ≤ 1048576
  · have hn1 := rsz_len hn hz
    obtain ⟨v, hv⟩ : ∃ v, (1048576 : Int) - (rsz L : Int) = v := ⟨_, rfl⟩
    have hv0 : ¬ v < 0 := by omega
    have HZ : Hid (∀ W, Below w.heap.size w W → Calls Try.prog 30 #[.slice p n cap, .int .i64 1048576] W fun e w' => e = .returned (.int .i64 v) ∧ Below W.heap.size W w') := fun W h => szRecS_any p cap L n hn 1048576 W (hL.step h) (by omega) (by omega) hm hms (by rw [if_neg (by omega)]; exact hv)
    by_cases hz2 : (cn : Int) ≤ v
    · have hc1 : cn ≤ 1048576 := by omega
      have hv20 : ¬ v - (cn : Int) < 0 := by omega
      have HZ2 := Lib.hid (fun W => M.szCellS_ok cp cn cc v W hz2 (by omega))
      obtain ⟨I, hI⟩ : ∃ I, inL L t cs = I := ⟨_, rfl⟩
      have hml := inL_le L t cs
      rw [hI] at hml
      obtain ⟨m, hmm⟩ : ∃ m, I.length = m := ⟨_, rfl⟩
      rw [hmm] at hml
      have HT := Lib.hid (fun W (h : Below w.heap.size w W) => toRecS_any p cap L n hn W (hL.step h) hn1)
      have HTC := Lib.hid (fun W (h : Below w.heap.size w W) => toC_sg cp cc cs cn hcn W (hcs.step h) hc1)
      have HS : Hid (∀ W g g2, SlG kR W (some ⟨g, 0, none⟩) L → M.Sl W (some ⟨g2, 0, none⟩) cs → Calls Try.prog 26 #[.slice (some ⟨g, 0, none⟩) n n, .int .i64 t, .slice (some ⟨g2, 0, none⟩) cn cn] W fun e w' => ∃ q c, e = .returned (.slice q m c) ∧ Sg W w' [rG kI (.slice q m c) I]) := fun W g g2 h h2 => by
        refine (sIn_any (some ⟨g, 0, none⟩) n L n hn W h (by omega) t (some ⟨g2, 0, none⟩) cn cs cn hcn h2 hc1 hI).mono ?_
        rintro e w' ⟨q, m', c, h0, h1, h2⟩
        rw [hmm] at h0; subst h0
        exact ⟨q, c, h1, h2⟩
      have HI : Hid (∀ W g g2, SlG kR W (some ⟨g, 0, none⟩) L → M.Sl W (some ⟨g2, 0, none⟩) cs → Calls Try.prog 18 #[.slice (some ⟨g, 0, none⟩) n n, .int .i64 t, .slice (some ⟨g2, 0, none⟩) cn cn] W fun e w' => ∃ q c, e = .returned (.slice q m c) ∧ Sg W w' [rG kI (.slice q m c) I]) := fun W g g2 h h2 => by
        refine (iIn_any (some ⟨g, 0, none⟩) n L n hn W h (by omega) t (some ⟨g2, 0, none⟩) cn cs cn hcn h2 hc1 hI).mono ?_
        rintro e w' ⟨q, m', c, h0, h1, h2⟩
        rw [hmm] at h0; subst h0
        exact ⟨q, c, h1, h2⟩
      have HE : Hid (∀ W q q2 c c2, SlG kI W q I → SlG kI W q2 I → Calls Try.prog 39 #[.slice q m c, .slice q2 m c2] W fun e w' => e = .returned (.bool true) ∧ Below W.heap.size W w') := fun W q q2 c c2 h h2 => eqInt64S_same _ _ c c2 I m hmm W h h2 (by omega)
      have HEL : Hid (∀ W g g2, SlG kR W (some ⟨g, 0, none⟩) L → SlG kR W (some ⟨g2, 0, none⟩) L → Calls Try.prog 32 #[.slice (some ⟨g, 0, none⟩) n n, .slice (some ⟨g2, 0, none⟩) n n] W fun e w' => e = .returned (.bool true) ∧ Below W.heap.size W w') := fun W g g2 h h2 => eqRecS_same _ _ n n L n hn W h h2 (by omega)
      have HEC : Hid (∀ W g g2, M.Sl W (some ⟨g, 0, none⟩) cs → M.Sl W (some ⟨g2, 0, none⟩) cs → Calls Try.prog 40 #[.slice (some ⟨g, 0, none⟩) cn cn, .slice (some ⟨g2, 0, none⟩) cn cn] W fun e w' => e = .returned (.bool true) ∧ Below W.heap.size W w') := fun W g g2 h h2 => by
        subst hcn; exact M.eqCellS_same _ _ _ _ cs W h h2 (by omega)
      have HCN := Lib.hid hcn
      have k1 : ¬ (1 : Int) + 5 * (n : Int) < 0 := by omega
      have k3 : ¬ (1 : Int) + 5 * (n : Int) + 3 * (cn : Int) < 0 := by omega
      have k2 : ¬ (1 : Int) + (m : Int) < 0 := by omega
      clear hn hL hv hz hz2 hI hmm hms hcn hcs
      go_enter Try.func8, Try.ntmps8
      go_upto_region 5 with (go_at_call 30; refine (HZ.out _ hx.bel).mono ?_; rintro e w1 ⟨rfl, hb1⟩; replace hx := hx.step hb1)
      go_upto_region 9 with (first
        | (go_at_call 37; refine (HZ2.out _).mono ?_; rintro e w1 ⟨rfl, hw1⟩; subst hw1)
        | (go_at_call 31; refine (HT.out _ hx.bel).mono ?_; rintro e w2 ⟨g1, rfl, h2⟩; replace hx := hx.addL h2)
        | (go_at_call 38; refine (HTC.out _ hx.bel).mono ?_; rintro e w3 ⟨g2, rfl, h3⟩; replace hx := hx.addL h3)
        | (go_at_call 26; refine (HS.out _ g1 g2 (OwG.sl (hx.mem (K := kR) (v := .slice (some ⟨g1, 0, none⟩) n n) (L := L) (by simp))) (sl_of (OwG.sl (hx.mem (K := kC) (v := .slice (some ⟨g2, 0, none⟩) cn cn) (L := cs) (by simp))))).mono ?_; rintro e w4 ⟨qw, cw, rfl, h4⟩; replace hx := hx.addL h4))
      go_upto_region 12 with (first
        | (go_at_call 31; refine (HT.out _ hx.bel).mono ?_; rintro e w5 ⟨g5, rfl, h5⟩; replace hx := hx.addL h5)
        | (go_at_call 38; refine (HTC.out _ hx.bel).mono ?_; rintro e w6 ⟨g6, rfl, h6⟩; replace hx := hx.addL h6)
        | (go_at_call 18; refine (HI.out _ g5 g6 (OwG.sl (hx.mem (K := kR) (v := .slice (some ⟨g5, 0, none⟩) n n) (L := L) (by simp))) (sl_of (OwG.sl (hx.mem (K := kC) (v := .slice (some ⟨g6, 0, none⟩) cn cn) (L := cs) (by simp))))).mono ?_; rintro e w7 ⟨qg, cg, rfl, h7⟩; replace hx := hx.addL h7))
      go_upto_region 14 with (go_at_call 39; refine (HE.out _ _ _ _ _ (OwG.sl (hx.mem (K := kI) (v := .slice qg m cg) (L := I) (by simp))) (OwG.sl (hx.mem (K := kI) (v := .slice qw m cw) (L := I) (by simp)))).mono ?_; rintro e w8 ⟨rfl, hb8⟩; replace hx := hx.step hb8)
      go_upto_region 16 with (first
        | (go_at_call 31; refine (HT.out _ hx.bel).mono ?_; rintro e w9 ⟨g9, rfl, h9⟩; replace hx := hx.addL h9)
        | (go_at_call 32; refine (HEL.out _ g5 g9 (OwG.sl (hx.mem (K := kR) (v := .slice (some ⟨g5, 0, none⟩) n n) (L := L) (by simp))) (OwG.sl (hx.mem (K := kR) (v := .slice (some ⟨g9, 0, none⟩) n n) (L := L) (by simp)))).mono ?_; rintro e w10 ⟨rfl, hb10⟩; replace hx := hx.step hb10))
      go_upto_region 19 with (first
        | (go_at_call 38; refine (HTC.out _ hx.bel).mono ?_; rintro e w11 ⟨g11, rfl, h11⟩; replace hx := hx.addL h11)
        | (go_at_call 40; refine (HEC.out _ g6 g11 (sl_of (OwG.sl (hx.mem (K := kC) (v := .slice (some ⟨g6, 0, none⟩) cn cn) (L := cs) (by simp)))) (sl_of (OwG.sl (hx.mem (K := kC) (v := .slice (some ⟨g11, 0, none⟩) cn cn) (L := cs) (by simp))))).mono ?_; rintro e w12 ⟨rfl, hb12⟩; replace hx := hx.step hb12))
      have hxm : Sg w w12 ([rG kI (.slice qg m cg) I, rG kC (.slice (some ⟨g6, 0, none⟩) cn cn) cs] ++ rG kR (.slice (some ⟨g5, 0, none⟩) n n) L :: [rG kI (.slice qw m cw) I]) := hx.sub (by simp)
      clear hx
      go_upto_region 20 with (go_at_call 35; refine (markRecS_any _ n n 1 L _ _ w _ hxm hn1 (by decide) (by decide)).mono ?_; rintro e w13 ⟨rfl, hx13⟩)
      have hxm2 : Sg w w13 ([rG kI (.slice qg m cg) I] ++ rG kC (.slice (some ⟨g6, 0, none⟩) cn cn) cs :: [rG kI (.slice qw m cw) I]) := hx13.sub (by simp)
      clear hxm hx13
      go_upto_region 21 with (go_at_call 41; refine (markC_sg g6 cn cn _ cs HCN.out _ _ w _ hxm2 hc1 (by omega) (by omega)).mono ?_; rintro e w14 ⟨rfl, hx14⟩)
      have hx : Sg w w14 [rG kI (.slice qg m cg) I, rG kI (.slice qw m cw) I] := hx14.sub (by simp)
      clear hxm2 hx14
      go_upto_region 24 with (go_at_call 39; refine (HE.out _ _ _ _ _ (OwG.sl (hx.mem (K := kI) (v := .slice qg m cg) (L := I) (by simp))) (OwG.sl (hx.mem (K := kI) (v := .slice qw m cw) (L := I) (by simp)))).mono ?_; rintro e w15 ⟨rfl, hb15⟩; replace hx := hx.step hb15)
      have hxm : Sg w w15 ([] ++ rG kI (.slice qg m cg) I :: [rG kI (.slice qw m cw) I]) := hx
      clear hx
      go_upto_region 26 with (go_at_call 42; refine (markInt64S_any _ m cg 1 I _ _ w _ hxm (by omega) (by decide) (by decide)).mono ?_; rintro e w16 ⟨rfl, hx16⟩)
      have hx : Sg w w16 [rG kI (.slice qg m cg) (mk1 1 m), rG kI (.slice qw m cw) I] := hx16
      clear hxm hx16
      go_upto_region 31 with (go_at_call 43; refine (heldInt64S_any _ cg 1 m _ (OwG.sl (hx.mem (K := kI) (v := .slice qg m cg) (L := mk1 1 m) (by simp))) (by omega) (by decide) (by decide)).mono ?_; rintro e w17 ⟨rfl, hw17⟩; subst hw17)
      go_upto_region 32 with (first
        | (go_at_call 31; refine (HT.out _ hx.bel).mono ?_; rintro e w18 ⟨g18, rfl, h18⟩; replace hx := hx.addL h18)
        | (go_at_call 38; refine (HTC.out _ hx.bel).mono ?_; rintro e w19 ⟨g19, rfl, h19⟩; replace hx := hx.addL h19)
        | (go_at_call 18; refine (HI.out _ g18 g19 (OwG.sl (hx.mem (K := kR) (v := .slice (some ⟨g18, 0, none⟩) n n) (L := L) (by simp))) (sl_of (OwG.sl (hx.mem (K := kC) (v := .slice (some ⟨g19, 0, none⟩) cn cn) (L := cs) (by simp))))).mono ?_; rintro e w20 ⟨qh, ch, rfl, h20⟩; replace hx := hx.addL h20))
      go_upto_region 35 with (go_at_call 39; refine (HE.out _ _ _ _ _ (OwG.sl (hx.mem (K := kI) (v := .slice qh m ch) (L := I) (by simp))) (OwG.sl (hx.mem (K := kI) (v := .slice qw m cw) (L := I) (by simp)))).mono ?_; rintro e w21 ⟨rfl, hb21⟩; replace hx := hx.step hb21)
      go_wp2_with (go_at_call 43; refine (heldInt64S_any _ cg 1 m _ (OwG.sl (hx.mem (K := kI) (v := .slice qg m cg) (L := mk1 1 m) (by simp))) (by omega) (by decide) (by decide)).mono ?_; rintro e w22 ⟨rfl, hw22⟩; subst hw22)
      go_ret
      exact ⟨rfl, hx.bel⟩
    · have HZ2 := Lib.hid (fun W => M.szCellS_no cp cn cc v W (by omega) (by omega) hcm)
      clear hn hL hv hz hz2 hms hcn hcs
      go_enter Try.func8, Try.ntmps8
      go_wp2_with (first
        | (go_at_call 30; refine (HZ.out _ hx.bel).mono ?_; rintro e w1 ⟨rfl, hb1⟩; replace hx := hx.step hb1)
        | (go_at_call 37; refine (HZ2.out _).mono ?_; rintro e w1 ⟨rfl, hw1⟩; subst hw1))
      go_ret
      exact ⟨rfl, hx.bel⟩
  · have HZ : Hid (Calls Try.prog 30 #[.slice p n cap, .int .i64 1048576] w fun e w' => e = .returned (.int .i64 (-1)) ∧ Below w.heap.size w w') := szRecS_any p cap L n hn 1048576 w hL (by omega) (by omega) hm hms (by rw [if_pos (by omega)])
    clear hn hL hz hms hcn hcs
    go_enter Try.func8, Try.ntmps8
    go_wp2_with (go_at_call 30; refine HZ.out.mono ?_; rintro e w1 ⟨rfl, hb1⟩)
    go_ret
    exact ⟨rfl, hb1⟩
end Go.Proofs.Ytjjnmeahcjpinaa
