/-
  The law of Set, walked.
-/
import Derived.Test.YtjjnmeahcjpinaaS3
import Derived.Test.YtjjnmeahcjpinaaW1
namespace Go.Proofs.Ytjjnmeahcjpinaa
open Go.Shelf Go.RowKit Go.Joins
attribute [local go_sem] Oper.semAt_some

theorem setL_len (L : List Rc) (r : Rc) : (setL L r).length ≤ 400 := by
  unfold setL
  split
  · split
    · rename_i h
      unfold setB at h
      simp only [Bool.and_eq_true, decide_eq_true_eq] at h
      exact h.2.2
    · exact ok_len ‹_›
  · simp
theorem Sg.dr {w W : World} {rs : List Rw} (h : Sg w W rs) : Sg w W.drew rs := h.step (Below.refl _ _).drew
theorem boxL {w W : World} {rs : List Rw} {b : Nat} {r : Rc} (h : Sg w W rs) (hm : rG kL (.slice (some ⟨b, 0, none⟩) 1 1) [r] ∈ rs) : W.cell? ⟨b, 0, none⟩ = some (.int .i64 r.t) ∧ W.cell? ⟨b, 1, none⟩ = some (.int .i64 r.i) ∧ W.cell? ⟨b, 2, none⟩ = some (.int .i64 r.x) ∧ W.cell? ⟨b, 3, none⟩ = some (.int .i64 r.y) ∧ W.cell? ⟨b, 4, none⟩ = some (.string r.s) := by
  have := (OwG.cs (h.mem (K := kL) hm)).l5 (k := 0) (r := r) rfl
  simpa using this
set_option maxRecDepth 100000 in
set_option maxHeartbeats 4000000 in
theorem exactSet (p : Option Addr) (cap : Nat) (L : List Rc) (n : Nat) (hn : L.length = n) (hm : n ≤ maxLen) (hms : ∀ r ∈ L, r.s.size ≤ maxLen) (r : Rc) (hs : r.s.size ≤ maxLen) (w : World) (hL : SlG kL w p L) :
    Calls Try.prog 5 #[.slice p n cap, r.v] w fun e w' => e = .returned (.bool true) ∧ Below w.heap.size w w' := by
  obtain ⟨rt, ri, rx, ry, rs⟩ := r
  have hx0 : Sg w _ [rG kL (.slice (some ⟨w.heap.size, 0, none⟩) 1 1) [⟨rt, ri, rx, ry, rs⟩]] := (Sg.nil w).lit kL [⟨rt, ri, rx, ry, rs⟩] 1 rfl (by decide) #[.int .i64 rt, .int .i64 ri, .int .i64 rx, .int .i64 ry, .string rs] rfl
  change Sg w (w.alloc (.cells #[.int .i64 rt, .int .i64 ri, .int .i64 rx, .int .i64 ry, .string rs] 55)) _ at hx0
  by_cases hz : rsz L ≤ 1048576
  · have hn1 := rsz_len hn hz
    obtain ⟨v, hv⟩ : ∃ v, (1048576 : Int) - (rsz L : Int) = v := ⟨_, rfl⟩
    have hv0 : ¬ v < 0 := by omega
    have hv1 : 0 ≤ v ∧ v ≤ 1048576 := by omega
    obtain ⟨M, hM⟩ : ∃ M, setL L ⟨rt, ri, rx, ry, rs⟩ = M := ⟨_, rfl⟩
    obtain ⟨b, hb⟩ : ∃ b, setB L ⟨rt, ri, rx, ry, rs⟩ = b := ⟨_, rfl⟩
    have hml := setL_len L ⟨rt, ri, rx, ry, rs⟩
    rw [hM] at hml
    obtain ⟨m, hmm⟩ : ∃ m, M.length = m := ⟨_, rfl⟩
    rw [hmm] at hml
    have HZ : Hid (∀ W, Below w.heap.size w W → Calls Try.prog 30 #[.slice p n cap, .int .i64 1048576] W fun e w' => e = .returned (.int .i64 v) ∧ Below W.heap.size W w') := fun W h => szRecS_any p cap L n hn 1048576 W (hL.step h) (by omega) (by omega) hm hms (by rw [if_neg (by omega)]; exact hv)
    have HT := Lib.hid (fun W (h : Below w.heap.size w W) => toRecS_any p cap L n hn W (hL.step h) hn1)
    have HS : Hid (∀ W g, OwG kR W w.heap.size (.slice (some ⟨g, 0, none⟩) n n) L → Calls Try.prog 20 #[.slice (some ⟨g, 0, none⟩) n n, .agg #[.int .i64 rt, .int .i64 ri, .int .i64 rx, .int .i64 ry, .string rs]] W fun e w' => ∃ q c, e = .returned (.tuple #[.slice q m c, .bool b]) ∧ Sg W w' [rG kR (.slice q m c) M]) := fun W g h => by
      refine (sSet_any ⟨g, 0, none⟩ n L n hn W (OwG.sl h) (by omega) ⟨rt, ri, rx, ry, rs⟩ hM hb).mono ?_
      rintro e w' ⟨q, m', c, h0, h1, h2⟩
      rw [hmm] at h0; subst h0
      exact ⟨q, c, h1, h2⟩
    have HI : Hid (∀ W g, OwG kR W w.heap.size (.slice (some ⟨g, 0, none⟩) n n) L → Calls Try.prog 12 #[.slice (some ⟨g, 0, none⟩) n n, .agg #[.int .i64 rt, .int .i64 ri, .int .i64 rx, .int .i64 ry, .string rs]] W fun e w' => ∃ q c, e = .returned (.tuple #[.slice q m c, .bool b]) ∧ Sg W w' [rG kR (.slice q m c) M]) := fun W g h => by
      refine (iSet_any g 0 n L n hn W (OwG.cs h) (Nat.le_refl _) (by omega) ⟨rt, ri, rx, ry, rs⟩ hM hb).mono ?_
      rintro e w' ⟨q, m', c, h0, h1, h2⟩
      rw [hmm] at h0; subst h0
      exact ⟨q, c, h1, h2⟩
    have HE : Hid (∀ W q q2 c c2, SlG kR W q M → SlG kR W q2 M → Calls Try.prog 32 #[.slice q m c, .slice q2 m c2] W fun e w' => e = .returned (.bool true) ∧ Below W.heap.size W w') := fun W q q2 c c2 h h2 => eqRecS_same _ _ c c2 M m hmm W h h2 (by omega)
    have HEL : Hid (∀ W g g2, SlG kR W (some ⟨g, 0, none⟩) L → SlG kR W (some ⟨g2, 0, none⟩) L → Calls Try.prog 32 #[.slice (some ⟨g, 0, none⟩) n n, .slice (some ⟨g2, 0, none⟩) n n] W fun e w' => e = .returned (.bool true) ∧ Below W.heap.size W w') := fun W g g2 h h2 => eqRecS_same _ _ n n L n hn W h h2 (by omega)
    have k1 : ¬ (1 : Int) + 5 * (n : Int) < 0 := by omega
    have k2 : ¬ (1 : Int) + 5 * (m : Int) < 0 := by omega
    have HKB : Hid (∀ w' rr, Sg w w' rr → rG kL (.slice (some ⟨w.heap.size, 0, none⟩) 1 1) [⟨rt, ri, rx, ry, rs⟩] ∈ rr → (w'.cell? ⟨w.heap.size, 0, none⟩ = some (.int .i64 rt) ∧ w'.cell? ⟨w.heap.size, 1, none⟩ = some (.int .i64 ri) ∧ w'.cell? ⟨w.heap.size, 2, none⟩ = some (.int .i64 rx) ∧ w'.cell? ⟨w.heap.size, 3, none⟩ = some (.int .i64 ry) ∧ w'.cell? ⟨w.heap.size, 4, none⟩ = some (.string rs))) := fun w' rr h hm => boxL h hm
    have HTR := Lib.hid (fun W => toRec_any ⟨rt, ri, rx, ry, rs⟩ W)
    by_cases hz2 : v < rs.size
    · have hvv : (if v < (rs.size : Int) then -1 else v - (rs.size : Int)) = -1 := if_pos hz2
      have HZ2 := Lib.hid (fun W => szRec_v (r := ⟨rt, ri, rx, ry, rs⟩) hvv W hv1.1 hv1.2 hs)
      clear hn hL hv hz hM hmm hms
      go_enter Try.func5, Try.ntmps5
      go_wp2_with (first
        | (go_at_call 30; refine (HZ.out _ hx0.bel).mono ?_; rintro e w1 ⟨rfl, hb1⟩; have hx1 := hx0.step hb1; obtain ⟨x0, x1, x2, x3, x4⟩ := HKB.out _ _ hx1 (by simp))
        | (go_at_call 33; refine (HZ2.out _).mono ?_; rintro e w2 ⟨rfl, hb2⟩; have hx2 := hx1.step hb2))
      go_ret
      exact ⟨rfl, hx2.bel⟩
    have hvv : (if v < (rs.size : Int) then -1 else v - (rs.size : Int)) = v - rs.size := if_neg hz2
    have HZ2 := Lib.hid (fun W => szRec_v (r := ⟨rt, ri, rx, ry, rs⟩) hvv W hv1.1 hv1.2 hs)
    have hv2 : ¬ v - (rs.size : Int) < 0 := by omega
    clear hn hL hv hz hM hmm hms
    clear hb
    go_enter Try.func5, Try.ntmps5
    go_upto_region 8 with (first
      | (go_at_call 30; refine (HZ.out _ hx0.bel).mono ?_; rintro e w1 ⟨rfl, hb1⟩; have hx1 := hx0.step hb1; obtain ⟨x0, x1, x2, x3, x4⟩ := HKB.out _ _ hx1 (by simp))
      | (go_at_call 33; refine (HZ2.out _).mono ?_; rintro e w2 ⟨rfl, hb2⟩; have hrow := hx1.step hb2))
    clear x0 x1 x2 x3 x4 hx0 hx1
    go_region_held3 (fun w' => w'.cell? ⟨w.heap.size, 0, none⟩ = some (.int .i64 rt) ∧ w'.cell? ⟨w.heap.size, 1, none⟩ = some (.int .i64 ri) ∧ w'.cell? ⟨w.heap.size, 2, none⟩ = some (.int .i64 rx) ∧ w'.cell? ⟨w.heap.size, 3, none⟩ = some (.int .i64 ry) ∧ w'.cell? ⟨w.heap.size, 4, none⟩ = some (.string rs))
      (first
        | assumption
        | with_reducible exact HKB.out _ _ hrow (by simp)
        | with_reducible exact HKB.out _ _ hrow.dr (by simp))
      (first
        | (go_at_call 31; refine (HT.out _ hrow.bel).mono ?_; rintro e u1 ⟨g1, rfl, h1⟩; replace hrow := hrow.addL h1; clear h1)
        | (go_at_call 31; refine (HT.out _ hrow.dr.bel).mono ?_; rintro e u1 ⟨g1, rfl, h1⟩; replace hrow := hrow.dr.addL h1; clear h1)
        | (go_at_call 34; refine (HTR.out _).mono ?_; rintro e u2 ⟨rfl, hb2⟩; (first | with_reducible (replace hrow := hrow.step hb2) | with_reducible (replace hrow := hrow.dr.step hb2)); clear hb2)
        | (go_at_call 20; refine (HS.out _ g1 (hrow.mem (K := kR) (v := .slice (some ⟨g1, 0, none⟩) n n) (L := L) (by simp))).mono ?_; rintro e u3 ⟨qw, cw, rfl, h3⟩; replace hrow := hrow.addL h3; clear h3))
    rename_i hHeld
    clear hHeld
    have hx : Sg w u3 [rG kR (.slice qw m cw) M, rG kR (.slice (some ⟨g1, 0, none⟩) n n) L, rG kL (.slice (some ⟨w.heap.size, 0, none⟩) 1 1) [⟨rt, ri, rx, ry, rs⟩]] := hrow
    clear hrow
    go_upto_region 11 with (first
      | (go_at_call 31; refine (HT.out _ hx.bel).mono ?_; rintro e w4 ⟨g3, rfl, h4⟩; replace hx := hx.addL h4; obtain ⟨x0, x1, x2, x3, x4⟩ := HKB.out _ _ hx (by simp))
      | (go_at_call 34; refine (HTR.out _).mono ?_; rintro e w4b ⟨rfl, hb4⟩; replace hx := hx.step hb4; clear x0 x1 x2 x3 x4)
      | (go_at_call 12; refine (HI.out _ g3 (hx.mem (K := kR) (v := .slice (some ⟨g3, 0, none⟩) n n) (L := L) (by simp))).mono ?_; rintro e w5 ⟨qg, cg, rfl, h5⟩; replace hx := hx.addL h5))
    go_upto_region 13 with (go_at_call 32; refine (HE.out _ _ _ _ _ (OwG.sl (hx.mem (K := kR) (v := .slice qg m cg) (L := M) (by simp))) (OwG.sl (hx.mem (K := kR) (v := .slice qw m cw) (L := M) (by simp)))).mono ?_; rintro e w6 ⟨rfl, hb6⟩; replace hx := hx.step hb6)
    go_upto_region 16 with (first
      | (go_at_call 31; refine (HT.out _ hx.bel).mono ?_; rintro e w7 ⟨g6, rfl, h7⟩; replace hx := hx.addL h7)
      | (go_at_call 32; refine (HEL.out _ _ _ (OwG.sl (hx.mem (K := kR) (v := .slice (some ⟨g3, 0, none⟩) n n) (L := L) (by simp))) (OwG.sl (hx.mem (K := kR) (v := .slice (some ⟨g6, 0, none⟩) n n) (L := L) (by simp)))).mono ?_; rintro e w8 ⟨rfl, hb8⟩; replace hx := hx.step hb8))
    have hxm : Sg w w8 ([rG kR (.slice (some ⟨g6, 0, none⟩) n n) L, rG kR (.slice qg m cg) M] ++ rG kR (.slice (some ⟨g3, 0, none⟩) n n) L :: [rG kR (.slice qw m cw) M, rG kR (.slice (some ⟨g1, 0, none⟩) n n) L, rG kL (.slice (some ⟨w.heap.size, 0, none⟩) 1 1) [⟨rt, ri, rx, ry, rs⟩]]) := hx
    clear hx
    go_upto_region 17 with (go_at_call 35; refine (markRecS_any _ n n 1 L _ _ w _ hxm hn1 (by decide) (by decide)).mono ?_; rintro e w9 ⟨rfl, hx9⟩)
    have hx : Sg w w9 [rG kR (.slice qg m cg) M, rG kR (.slice qw m cw) M, rG kL (.slice (some ⟨w.heap.size, 0, none⟩) 1 1) [⟨rt, ri, rx, ry, rs⟩]] := hx9.sub (by simp)
    clear hxm hx9
    go_upto_region 20 with (go_at_call 32; refine (HE.out _ _ _ _ _ (OwG.sl (hx.mem (K := kR) (v := .slice qg m cg) (L := M) (by simp))) (OwG.sl (hx.mem (K := kR) (v := .slice qw m cw) (L := M) (by simp)))).mono ?_; rintro e w10 ⟨rfl, hb10⟩; replace hx := hx.step hb10)
    have hxm : Sg w w10 ([] ++ rG kR (.slice qg m cg) M :: [rG kR (.slice qw m cw) M, rG kL (.slice (some ⟨w.heap.size, 0, none⟩) 1 1) [⟨rt, ri, rx, ry, rs⟩]]) := hx
    clear hx
    go_upto_region 22 with (go_at_call 35; refine (markRecS_any _ m cg 1 M _ _ w _ hxm (by omega) (by decide) (by decide)).mono ?_; rintro e w11 ⟨rfl, hx11⟩)
    have hx : Sg w w11 [rG kR (.slice qg m cg) (mkRs 1 m), rG kR (.slice qw m cw) M, rG kL (.slice (some ⟨w.heap.size, 0, none⟩) 1 1) [⟨rt, ri, rx, ry, rs⟩]] := hx11
    clear hxm hx11
    go_upto_region 27 with (go_at_call 36; refine (heldRecS_any _ cg 1 m _ (OwG.sl (hx.mem (K := kR) (v := .slice qg m cg) (L := mkRs 1 m) (by simp))) (by omega) (by decide) (by decide)).mono ?_; rintro e w12 ⟨rfl, hb12⟩; replace hx := hx.step hb12)
    have hrow := hx
    clear hx
    go_region_held3 (fun w' => w'.cell? ⟨w.heap.size, 0, none⟩ = some (.int .i64 rt) ∧ w'.cell? ⟨w.heap.size, 1, none⟩ = some (.int .i64 ri) ∧ w'.cell? ⟨w.heap.size, 2, none⟩ = some (.int .i64 rx) ∧ w'.cell? ⟨w.heap.size, 3, none⟩ = some (.int .i64 ry) ∧ w'.cell? ⟨w.heap.size, 4, none⟩ = some (.string rs))
      (first
        | assumption
        | with_reducible exact HKB.out _ _ hrow (by simp)
        | with_reducible exact HKB.out _ _ hrow.dr (by simp))
      (first
        | (go_at_call 31; refine (HT.out _ hrow.bel).mono ?_; rintro e u1 ⟨g13, rfl, h1⟩; replace hrow := hrow.addL h1; clear h1)
        | (go_at_call 31; refine (HT.out _ hrow.dr.bel).mono ?_; rintro e u1 ⟨g13, rfl, h1⟩; replace hrow := hrow.dr.addL h1; clear h1)
        | (go_at_call 34; refine (HTR.out _).mono ?_; rintro e u2 ⟨rfl, hb2⟩; (first | with_reducible (replace hrow := hrow.step hb2) | with_reducible (replace hrow := hrow.dr.step hb2)); clear hb2)
        | (go_at_call 12; refine (HI.out _ g13 (hrow.mem (K := kR) (v := .slice (some ⟨g13, 0, none⟩) n n) (L := L) (by simp))).mono ?_; rintro e u3 ⟨qh, ch, rfl, h3⟩; replace hrow := hrow.addL h3; clear h3))
    rename_i hHeld
    clear hHeld
    have hx : Sg w u3 [rG kR (.slice qh m ch) M, rG kR (.slice (some ⟨g13, 0, none⟩) n n) L, rG kR (.slice qg m cg) (mkRs 1 m), rG kR (.slice qw m cw) M, rG kL (.slice (some ⟨w.heap.size, 0, none⟩) 1 1) [⟨rt, ri, rx, ry, rs⟩]] := hrow
    clear hrow
    go_upto_region 31 with (go_at_call 32; refine (HE.out _ _ _ _ _ (OwG.sl (hx.mem (K := kR) (v := .slice qh m ch) (L := M) (by simp))) (OwG.sl (hx.mem (K := kR) (v := .slice qw m cw) (L := M) (by simp)))).mono ?_; rintro e w15 ⟨rfl, hb15⟩; replace hx := hx.step hb15)
    go_wp2_with (go_at_call 36; refine (heldRecS_any _ cg 1 m _ (OwG.sl (hx.mem (K := kR) (v := .slice qg m cg) (L := mkRs 1 m) (by simp))) (by omega) (by decide) (by decide)).mono ?_; rintro e w16 ⟨rfl, hb16⟩; replace hx := hx.step hb16)
    go_ret
    exact ⟨rfl, hx.bel⟩
  · have HZ : Hid (∀ W, Below w.heap.size w W → Calls Try.prog 30 #[.slice p n cap, .int .i64 1048576] W fun e w' => e = .returned (.int .i64 (-1)) ∧ Below W.heap.size W w') := fun W h => szRecS_any p cap L n hn 1048576 W (hL.step h) (by omega) (by omega) hm hms (by rw [if_pos (by omega)])
    clear hn hL hz hms
    go_enter Try.func5, Try.ntmps5
    go_wp2_with (go_at_call 30; refine (HZ.out _ hx0.bel).mono ?_; rintro e w1 ⟨rfl, hb1⟩)
    go_ret
    exact ⟨rfl, (hx0.step hb1).bel⟩
end Go.Proofs.Ytjjnmeahcjpinaa
