/-
  The law of Cut, walked.
-/
import Derived.Test.YtjjnmeahcjpinaaS3
import Derived.Test.YtjjnmeahcjpinaaW1
namespace Go.Proofs.Ytjjnmeahcjpinaa
open Go.Shelf Go.RowKit Go.Joins
attribute [local go_sem] Oper.semAt_some

theorem cutL_len (L : List Rc) (t i : Int) : (cutL L t i).length ≤ 400 := by
  unfold cutL
  split
  · exact (recs_mk.1 (sw_ok0 ‹_›)).1
  · simp
set_option maxRecDepth 100000 in
set_option maxHeartbeats 4000000 in
theorem exactCut (p : Option Addr) (cap : Nat) (L : List Rc) (n : Nat) (hn : L.length = n) (hm : n ≤ maxLen) (hms : ∀ r ∈ L, r.s.size ≤ maxLen) (t i : Int) (w : World) (hL : SlG kL w p L) :
    Calls Try.prog 6 #[.slice p n cap, .int .i64 t, .int .i64 i] w fun e w' => e = .returned (.bool true) ∧ Below w.heap.size w w' := by
  have hx0 := Sg.nil w
  by_cases hz : rsz L ≤ 1048576
  · have hn1 := rsz_len hn hz
    obtain ⟨v, hv⟩ : ∃ v, (1048576 : Int) - (rsz L : Int) = v := ⟨_, rfl⟩
    have hv0 : ¬ v < 0 := by omega
    have hv1 : 0 ≤ v ∧ v ≤ 1048576 := by omega
    obtain ⟨M, hM⟩ : ∃ M, cutL L t i = M := ⟨_, rfl⟩
    obtain ⟨b, hb⟩ : ∃ b, cutB L t i = b := ⟨_, rfl⟩
    have hml := cutL_len L t i
    rw [hM] at hml
    obtain ⟨m, hmm⟩ : ∃ m, M.length = m := ⟨_, rfl⟩
    rw [hmm] at hml
    have HZ : Hid (∀ W, Below w.heap.size w W → Calls Try.prog 30 #[.slice p n cap, .int .i64 1048576] W fun e w' => e = .returned (.int .i64 v) ∧ Below W.heap.size W w') := fun W h => szRecS_any p cap L n hn 1048576 W (hL.step h) (by omega) (by omega) hm hms (by rw [if_neg (by omega)]; exact hv)
    have HT := Lib.hid (fun W (h : Below w.heap.size w W) => toRecS_any p cap L n hn W (hL.step h) hn1)
    have HS : Hid (∀ W g, OwG kR W w.heap.size (.slice (some ⟨g, 0, none⟩) n n) L → Calls Try.prog 29 #[.slice (some ⟨g, 0, none⟩) n n, .int .i64 t, .int .i64 i] W fun e w' => ∃ q c, e = .returned (.tuple #[.slice q m c, .bool b]) ∧ Sg W w' [rG kR (.slice q m c) M]) := fun W g h => by
      refine (sCut_any ⟨g, 0, none⟩ n L n hn W (OwG.sl h) (by omega) t i hM hb).mono ?_
      rintro e w' ⟨q, m', c, h0, h1, h2⟩
      rw [hmm] at h0; subst h0
      exact ⟨q, c, h1, h2⟩
    have HI : Hid (∀ W g, OwG kR W w.heap.size (.slice (some ⟨g, 0, none⟩) n n) L → Calls Try.prog 14 #[.slice (some ⟨g, 0, none⟩) n n, .int .i64 t, .int .i64 i] W fun e w' => ∃ q c, e = .returned (.tuple #[.slice q m c, .bool b]) ∧ Sg W w' [rG kR (.slice q m c) M]) := fun W g h => by
      refine (iCut_any g 0 n L n hn W (OwG.cs h) (Nat.le_refl _) (by omega) t i hM hb).mono ?_
      rintro e w' ⟨q, m', c, h0, h1, h2⟩
      rw [hmm] at h0; subst h0
      exact ⟨q, c, h1, h2⟩
    have HE : Hid (∀ W q q2 c c2, SlG kR W q M → SlG kR W q2 M → Calls Try.prog 32 #[.slice q m c, .slice q2 m c2] W fun e w' => e = .returned (.bool true) ∧ Below W.heap.size W w') := fun W q q2 c c2 h h2 => eqRecS_same _ _ c c2 M m hmm W h h2 (by omega)
    have HEL : Hid (∀ W g g2, SlG kR W (some ⟨g, 0, none⟩) L → SlG kR W (some ⟨g2, 0, none⟩) L → Calls Try.prog 32 #[.slice (some ⟨g, 0, none⟩) n n, .slice (some ⟨g2, 0, none⟩) n n] W fun e w' => e = .returned (.bool true) ∧ Below W.heap.size W w') := fun W g g2 h h2 => eqRecS_same _ _ n n L n hn W h h2 (by omega)
    have k1 : ¬ (1 : Int) + 5 * (n : Int) < 0 := by omega
    have k2 : ¬ (1 : Int) + 5 * (m : Int) < 0 := by omega
    clear hn hL hv hz hM hmm hms
    clear hb
    go_enter Try.func6, Try.ntmps6
    go_upto_region 6 with (first
      | (go_at_call 30; refine (HZ.out _ hx0.bel).mono ?_; rintro e w1 ⟨rfl, hb1⟩; have hx1 := hx0.step hb1)
      | (go_at_call 31; refine (HT.out _ hx1.bel).mono ?_; rintro e w2 ⟨g1, rfl, h2⟩; have hx2 := hx1.addL h2)
      | (go_at_call 29; refine (HS.out _ g1 (hx2.mem (K := kR) (v := .slice (some ⟨g1, 0, none⟩) n n) (L := L) (by simp))).mono ?_; rintro e w3 ⟨qw, cw, rfl, h3⟩; have hx3 := hx2.addL h3))
    have hx : Sg w w3 [rG kR (.slice qw m cw) M, rG kR (.slice (some ⟨g1, 0, none⟩) n n) L] := hx3
    clear hx0 hx1 hx2 hx3 h2 h3
    go_upto_region 8 with (first
      | (go_at_call 31; refine (HT.out _ hx.bel).mono ?_; rintro e w4 ⟨g3, rfl, h4⟩; replace hx := hx.addL h4)
      | (go_at_call 14; refine (HI.out _ g3 (hx.mem (K := kR) (v := .slice (some ⟨g3, 0, none⟩) n n) (L := L) (by simp))).mono ?_; rintro e w5 ⟨qg, cg, rfl, h5⟩; replace hx := hx.addL h5))
    go_upto_region 10 with (go_at_call 32; refine (HE.out _ _ _ _ _ (OwG.sl (hx.mem (K := kR) (v := .slice qg m cg) (L := M) (by simp))) (OwG.sl (hx.mem (K := kR) (v := .slice qw m cw) (L := M) (by simp)))).mono ?_; rintro e w6 ⟨rfl, hb6⟩; replace hx := hx.step hb6)
    go_upto_region 13 with (first
      | (go_at_call 31; refine (HT.out _ hx.bel).mono ?_; rintro e w7 ⟨g6, rfl, h7⟩; replace hx := hx.addL h7)
      | (go_at_call 32; refine (HEL.out _ _ _ (OwG.sl (hx.mem (K := kR) (v := .slice (some ⟨g3, 0, none⟩) n n) (L := L) (by simp))) (OwG.sl (hx.mem (K := kR) (v := .slice (some ⟨g6, 0, none⟩) n n) (L := L) (by simp)))).mono ?_; rintro e w8 ⟨rfl, hb8⟩; replace hx := hx.step hb8))
    have hxm : Sg w w8 ([rG kR (.slice (some ⟨g6, 0, none⟩) n n) L, rG kR (.slice qg m cg) M] ++ rG kR (.slice (some ⟨g3, 0, none⟩) n n) L :: [rG kR (.slice qw m cw) M, rG kR (.slice (some ⟨g1, 0, none⟩) n n) L]) := hx
    clear hx
    go_upto_region 14 with (go_at_call 35; refine (markRecS_any _ n n 1 L _ _ w _ hxm hn1 (by decide) (by decide)).mono ?_; rintro e w9 ⟨rfl, hx9⟩)
    have hx : Sg w w9 [rG kR (.slice qg m cg) M, rG kR (.slice qw m cw) M] := hx9.sub (by simp)
    clear hxm hx9
    go_upto_region 17 with (go_at_call 32; refine (HE.out _ _ _ _ _ (OwG.sl (hx.mem (K := kR) (v := .slice qg m cg) (L := M) (by simp))) (OwG.sl (hx.mem (K := kR) (v := .slice qw m cw) (L := M) (by simp)))).mono ?_; rintro e w10 ⟨rfl, hb10⟩; replace hx := hx.step hb10)
    have hxm : Sg w w10 ([] ++ rG kR (.slice qg m cg) M :: [rG kR (.slice qw m cw) M]) := hx
    clear hx
    go_upto_region 19 with (go_at_call 35; refine (markRecS_any _ m cg 1 M _ _ w _ hxm (by omega) (by decide) (by decide)).mono ?_; rintro e w11 ⟨rfl, hx11⟩)
    have hx : Sg w w11 [rG kR (.slice qg m cg) (mkRs 1 m), rG kR (.slice qw m cw) M] := hx11
    clear hxm hx11
    go_upto_region 24 with (go_at_call 36; refine (heldRecS_any _ cg 1 m _ (OwG.sl (hx.mem (K := kR) (v := .slice qg m cg) (L := mkRs 1 m) (by simp))) (by omega) (by decide) (by decide)).mono ?_; rintro e w12 ⟨rfl, hb12⟩; replace hx := hx.step hb12)
    go_upto_region 25 with (first
      | (go_at_call 31; refine (HT.out _ hx.bel).mono ?_; rintro e w13 ⟨g13, rfl, h13⟩; replace hx := hx.addL h13)
      | (go_at_call 14; refine (HI.out _ g13 (hx.mem (K := kR) (v := .slice (some ⟨g13, 0, none⟩) n n) (L := L) (by simp))).mono ?_; rintro e w14 ⟨qh, ch, rfl, h14⟩; replace hx := hx.addL h14))
    go_upto_region 28 with (go_at_call 32; refine (HE.out _ _ _ _ _ (OwG.sl (hx.mem (K := kR) (v := .slice qh m ch) (L := M) (by simp))) (OwG.sl (hx.mem (K := kR) (v := .slice qw m cw) (L := M) (by simp)))).mono ?_; rintro e w15 ⟨rfl, hb15⟩; replace hx := hx.step hb15)
    go_wp2_with (go_at_call 36; refine (heldRecS_any _ cg 1 m _ (OwG.sl (hx.mem (K := kR) (v := .slice qg m cg) (L := mkRs 1 m) (by simp))) (by omega) (by decide) (by decide)).mono ?_; rintro e w16 ⟨rfl, hb16⟩; replace hx := hx.step hb16)
    go_ret
    exact ⟨rfl, hx.bel⟩
  · have HZ : Hid (∀ W, Below w.heap.size w W → Calls Try.prog 30 #[.slice p n cap, .int .i64 1048576] W fun e w' => e = .returned (.int .i64 (-1)) ∧ Below W.heap.size W w') := fun W h => szRecS_any p cap L n hn 1048576 W (hL.step h) (by omega) (by omega) hm hms (by rw [if_pos (by omega)])
    clear hn hL hz hms
    go_enter Try.func6, Try.ntmps6
    go_wp2_with (go_at_call 30; refine (HZ.out _ hx0.bel).mono ?_; rintro e w1 ⟨rfl, hb1⟩)
    go_ret
    exact ⟨rfl, (hx0.step hb1).bel⟩
end Go.Proofs.Ytjjnmeahcjpinaa
