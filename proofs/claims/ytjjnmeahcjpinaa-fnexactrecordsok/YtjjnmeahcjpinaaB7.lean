/-
  The program's Set, Cut, Of, Same.
-/
import Derived.Test.YtjjnmeahcjpinaaB6
namespace Go.Proofs.Ytjjnmeahcjpinaa
open Go.Shelf Go.RowKit Go.Joins
attribute [local go_sem] Oper.semAt_some

theorem ok_rise {L : List Rc} (h : recsB L = true) : riseB L = true := (recs_mk.1 h).2.2
theorem ok_len {L : List Rc} (h : recsB L = true) : L.length ≤ 400 := (recs_mk.1 h).1
theorem set_no {L : List Rc} {r : Rc} (h : recsB L = false) : setL L r = [] ∧ setB L r = false := by unfold setL setB; rw [h]; exact ⟨rfl, rfl⟩
theorem cut_no {L : List Rc} {t i : Int} (h : recsB L = false) : cutL L t i = [] ∧ cutB L t i = false := by unfold cutL cutB; rw [h]; exact ⟨rfl, rfl⟩
theorem sw_length {L : List Rc} {q : Rc} {B : List Rc} {n kf kp bn : Nat} (hn : L.length = n) (h1 : pos L q = kf) (h2 : past L q = kp) (hb : B.length = bn) : (swL L q B).length = kf + bn + (n - kp) := by rw [swL_len, h1, h2, hb, hn]
theorem sg_bel {w W : World} (h : Below w.heap.size w W) : Sg w W [] := ⟨h, by simp, .nil⟩
theorem sg_nilB {w W : World} (h : Below w.heap.size w W) : Sg w W [rG kR (.slice none 0 0) []] := by simpa using (sg_bel h).addL (sg_nilrow W)
theorem lit_cs (W : World) (r : Rc) : CsG kR (W.alloc (.cells #[.int .i64 r.t, .int .i64 r.i, .int .i64 r.x, .int .i64 r.y, .string r.s] 28)) W.heap.size 0 [r] :=
  OwG.cs (((Sg.nil W).lit kR [r] 1 rfl (by decide) #[.int .i64 r.t, .int .i64 r.i, .int .i64 r.x, .int .i64 r.y, .string r.s] rfl).mem (K := kR) (v := .slice (some ⟨W.heap.size, 0, none⟩) 1 1) (L := [r]) (by simp))
set_option maxRecDepth 100000 in
set_option maxHeartbeats 1000000 in
theorem iSet_any (g off cap : Nat) (L : List Rc) (n : Nat) (hn : L.length = n) (w : World) (hL : CsG kR w g off L) (hcap : n ≤ cap) (hb0 : n ≤ 10000000) (r : Rc) {M : List Rc} {b : Bool} (hM : setL L r = M) (hb : setB L r = b) :
    Calls Try.prog 12 #[.slice (some ⟨g, off, none⟩) n cap, r.v] w fun e w' => ∃ q m c, M.length = m ∧ e = .returned (.tuple #[.slice q m c, .bool b]) ∧ Sg w w' [rG kR (.slice q m c) M] := by
  obtain ⟨rt, ri, rx, ry, rs⟩ := r
  have hst := (St.nil w).push [.int .i64 rt, .int .i64 ri, .int .i64 rx, .int .i64 ry, .string rs] 28
  have HSl : Hid (∀ W, Below w.heap.size w W → SlG kR W (some ⟨g, off, none⟩) L) := fun W h => .inr ⟨g, off, rfl, hL.step h⟩
  cases hok : recsB L
  · obtain ⟨e1, e2⟩ := set_no (r := ⟨rt, ri, rx, ry, rs⟩) hok
    rw [e1] at hM
    rw [e2] at hb
    subst hM hb
    have HOK := Lib.hid (fun W h => iOk_v hok (some ⟨g, off, none⟩) cap n hn W (HSl.out W h) (by omega))
    clear hok hn hL
    go_enter Try.func12, Try.ntmps12
    go_wp2_with (go_at_call 22; refine (HOK.out _ hst.bel).mono ?_; rintro e w1 ⟨rfl, hb1⟩)
    go_ret2
    exact ⟨none, 0, 0, rfl, rfl, sg_nilB (hst.step hb1).bel⟩
  · have hn4 := ok_len hok
    rw [hn] at hn4
    have hri := ok_rise hok
    obtain ⟨kf, hkf⟩ : ∃ k, pos L ⟨rt, ri, rx, ry, rs⟩ = k := ⟨_, rfl⟩
    obtain ⟨kp, hkp⟩ : ∃ k, past L ⟨rt, ri, rx, ry, rs⟩ = k := ⟨_, rfl⟩
    have hle := past_le L ⟨rt, ri, rx, ry, rs⟩
    rw [hkf, hkp, hn] at hle
    obtain ⟨m0, hm0⟩ : ∃ m, kf + 1 + (n - kp) = m := ⟨_, rfl⟩
    have hlen : (swL L ⟨rt, ri, rx, ry, rs⟩ [⟨rt, ri, rx, ry, rs⟩]).length = m0 := by rw [sw_length hn hkf hkp rfl, ← hm0]; rfl
    have hsw : swL L ⟨rt, ri, rx, ry, rs⟩ [⟨rt, ri, rx, ry, rs⟩] = L.take kf ++ [⟨rt, ri, rx, ry, rs⟩] ++ L.drop kp := by unfold swL; rw [hkf, hkp]
    have HOK := Lib.hid (fun W h => iOk_v hok (some ⟨g, off, none⟩) cap n hn W (HSl.out W h) (by omega))
    have HAL := Lib.hid (fun W h => alike_any (some ⟨g, off, none⟩) cap L n hn W (HSl.out W h) (by omega) ⟨rt, ri, rx, ry, rs⟩ hri hkf hkp)
    have HSW : Hid (∀ W gb, Below w.heap.size w W → CsG kR W gb 0 [⟨rt, ri, rx, ry, rs⟩] → Calls Try.prog 49 #[.slice (some ⟨g, off, none⟩) n cap, .int .i64 (kf : Int), .int .i64 (kp : Int), .slice (some ⟨gb, 0, none⟩) 1 1] W fun e w' => ∃ q c, e = .returned (.slice q m0 c) ∧ Sg W w' [rG kR (.slice q m0 c) (swL L ⟨rt, ri, rx, ry, rs⟩ [⟨rt, ri, rx, ry, rs⟩])]) := fun W gb h hB => by
      have := swapped_any g off cap L n hn W (hL.step h) hcap (by omega) kf kp hle.1 hle.2 ⟨some ⟨gb, 0, none⟩, 1, 1⟩ [⟨rt, ri, rx, ry, rs⟩] (.inr ⟨gb, 0, rfl, hB⟩) rfl (.inl ⟨_, rfl⟩) (by show 1 ≤ 1000; decide)
      simp only at this
      rw [hm0, ← hsw] at this
      exact this
    have HCP : Hid (∀ W, Below w.heap.size w W → Calls Try.prog 51 #[.slice (some ⟨g, off, none⟩) n cap] W fun e w' => ∃ q c, e = .returned (.slice q n c) ∧ Sg W w' [rG kR (.slice q n c) L]) := fun W h => copied_any ⟨some ⟨g, off, none⟩, n, cap⟩ L W (HSl.out W h) hn (.inl ⟨_, rfl⟩) (by simp only; omega)
    have HLC : Hid (∀ W : World, CsG kR (W.alloc (.cells #[.int .i64 rt, .int .i64 ri, .int .i64 rx, .int .i64 ry, .string rs] 28)) W.heap.size 0 [⟨rt, ri, rx, ry, rs⟩]) := fun W => lit_cs W ⟨rt, ri, rx, ry, rs⟩
    have hsb : setB L ⟨rt, ri, rx, ry, rs⟩ = (recB ⟨rt, ri, rx, ry, rs⟩ && decide (m0 ≤ 400)) := by unfold setB; rw [hok, hlen, Bool.true_and]
    have hsl : setL L ⟨rt, ri, rx, ry, rs⟩ = if setB L ⟨rt, ri, rx, ry, rs⟩ = true then swL L ⟨rt, ri, rx, ry, rs⟩ [⟨rt, ri, rx, ry, rs⟩] else L := by unfold setL; rw [if_pos hok]
    rw [hb, hM] at hsl
    rw [hb] at hsb
    have HLL : Hid (L.length = n ∧ (swL L ⟨rt, ri, rx, ry, rs⟩ [⟨rt, ri, rx, ry, rs⟩]).length = m0) := ⟨hn, hlen⟩
    clear hn hL hok hri hkf hkp hsw hlen hM hb hm0
    cases hr : recB ⟨rt, ri, rx, ry, rs⟩
    · rw [hr, Bool.false_and] at hsb
      subst hsb
      simp only [Bool.false_eq_true, if_false] at hsl
      have HM : Hid (M = L) := hsl
      clear hsl
      go_enter Try.func12, Try.ntmps12
      go_wp2_with (first
        | (go_at_call 22; refine (HOK.out _ hst.bel).mono ?_; rintro e w1 ⟨rfl, hb1⟩; have hst1 := hst.step hb1; obtain ⟨x0, x1, x2, x3, x4⟩ := has5 hst1.has)
        | (go_at_call 47; refine (HAL.out _ hst1.bel).mono ?_; rintro e w2 ⟨rfl, hb2⟩; have hst2 := hst1.step hb2; obtain ⟨y0, y1, y2, y3, y4⟩ := has5 hst2.has)
        | (go_at_call 49; refine (HSW.out _ _ (hst2.al _).bel (HLC.out _)).mono ?_; rintro e w3 ⟨q3, c3, rfl, h3⟩; have hst3 := (hst2.al _).step h3.bel; obtain ⟨z0, z1, z2, z3, z4⟩ := has5 hst3.has)
        | (go_at_call 50; refine (isRec_v (r := ⟨rt, ri, rx, ry, rs⟩) hr _).mono ?_; rintro e w4 ⟨rfl, hb4⟩; have hst4 := hst3.step hb4)
        | (go_at_call 51; refine (HCP.out _ hst4.bel).mono ?_; rintro e w5 ⟨q5, c5, rfl, h5⟩))
      go_ret2
      exact ⟨q5, n, c5, by rw [HM.out]; exact HLL.out.1, rfl, by rw [HM.out]; simpa using (sg_bel hst4.bel).addL h5⟩
    · rw [hr, Bool.true_and] at hsb
      by_cases hm4 : m0 ≤ 400
      · have hmi : ¬ (400 : Int) < m0 := by omega
        rw [decide_eq_true hm4] at hsb
        subst hsb
        simp only [if_true] at hsl
        have HM : Hid (M = swL L ⟨rt, ri, rx, ry, rs⟩ [⟨rt, ri, rx, ry, rs⟩]) := hsl
        clear hsl
        go_enter Try.func12, Try.ntmps12
        go_wp2_with (first
          | (go_at_call 22; refine (HOK.out _ hst.bel).mono ?_; rintro e w1 ⟨rfl, hb1⟩; have hst1 := hst.step hb1; obtain ⟨x0, x1, x2, x3, x4⟩ := has5 hst1.has)
          | (go_at_call 47; refine (HAL.out _ hst1.bel).mono ?_; rintro e w2 ⟨rfl, hb2⟩; have hst2 := hst1.step hb2; obtain ⟨y0, y1, y2, y3, y4⟩ := has5 hst2.has)
          | (go_at_call 49; refine (HSW.out _ _ (hst2.al _).bel (HLC.out _)).mono ?_; rintro e w3 ⟨q3, c3, rfl, h3⟩; have hst3 := (hst2.al _).step h3.bel; obtain ⟨z0, z1, z2, z3, z4⟩ := has5 hst3.has)
          | (go_at_call 50; refine (isRec_v (r := ⟨rt, ri, rx, ry, rs⟩) hr _).mono ?_; rintro e w4 ⟨rfl, hb4⟩))
        go_ret2
        exact ⟨q3, m0, c3, by rw [HM.out]; exact HLL.out.2, rfl, by rw [HM.out]; exact (by simpa using (sg_bel (hst2.al _).bel).addL h3 : Sg w w3 _).step hb4⟩
      · have hmi : (400 : Int) < m0 := by omega
        rw [decide_eq_false hm4] at hsb
        subst hsb
        simp only [Bool.false_eq_true, if_false] at hsl
        have HM : Hid (M = L) := hsl
        clear hsl
        go_enter Try.func12, Try.ntmps12
        go_wp2_with (first
          | (go_at_call 22; refine (HOK.out _ hst.bel).mono ?_; rintro e w1 ⟨rfl, hb1⟩; have hst1 := hst.step hb1; obtain ⟨x0, x1, x2, x3, x4⟩ := has5 hst1.has)
          | (go_at_call 47; refine (HAL.out _ hst1.bel).mono ?_; rintro e w2 ⟨rfl, hb2⟩; have hst2 := hst1.step hb2; obtain ⟨y0, y1, y2, y3, y4⟩ := has5 hst2.has)
          | (go_at_call 49; refine (HSW.out _ _ (hst2.al _).bel (HLC.out _)).mono ?_; rintro e w3 ⟨q3, c3, rfl, h3⟩; have hst3 := (hst2.al _).step h3.bel; obtain ⟨z0, z1, z2, z3, z4⟩ := has5 hst3.has)
          | (go_at_call 50; refine (isRec_v (r := ⟨rt, ri, rx, ry, rs⟩) hr _).mono ?_; rintro e w4 ⟨rfl, hb4⟩; have hst4 := hst3.step hb4)
          | (go_at_call 51; refine (HCP.out _ hst4.bel).mono ?_; rintro e w5 ⟨q5, c5, rfl, h5⟩))
        go_ret2
        exact ⟨q5, n, c5, by rw [HM.out]; exact HLL.out.1, rfl, by rw [HM.out]; simpa using (sg_bel hst4.bel).addL h5⟩
set_option maxRecDepth 100000 in
set_option maxHeartbeats 1000000 in
theorem iCut_any (g off cap : Nat) (L : List Rc) (n : Nat) (hn : L.length = n) (w : World) (hL : CsG kR w g off L) (hcap : n ≤ cap) (hb0 : n ≤ 10000000) (t i : Int) {M : List Rc} {b : Bool} (hM : cutL L t i = M) (hb : cutB L t i = b) :
    Calls Try.prog 14 #[.slice (some ⟨g, off, none⟩) n cap, .int .i64 t, .int .i64 i] w fun e w' => ∃ q m c, M.length = m ∧ e = .returned (.tuple #[.slice q m c, .bool b]) ∧ Sg w w' [rG kR (.slice q m c) M] := by
  have HSl : Hid (∀ W, Below w.heap.size w W → SlG kR W (some ⟨g, off, none⟩) L) := fun W h => .inr ⟨g, off, rfl, hL.step h⟩
  cases hok : recsB L
  · obtain ⟨e1, e2⟩ := cut_no (t := t) (i := i) hok
    rw [e1] at hM
    rw [e2] at hb
    subst hM hb
    have HOK := Lib.hid (fun W h => iOk_v hok (some ⟨g, off, none⟩) cap n hn W (HSl.out W h) (by omega))
    clear hok hn hL
    go_enter Try.func14, Try.ntmps14
    go_wp2_with (go_at_call 22; refine (HOK.out _ (Below.refl _ _)).mono ?_; rintro e w1 ⟨rfl, hb1⟩)
    go_ret2
    exact ⟨none, 0, 0, rfl, rfl, sg_nilB hb1⟩
  · have hn4 := ok_len hok
    rw [hn] at hn4
    have hri := ok_rise hok
    obtain ⟨kf, hkf⟩ : ∃ k, pos L (kq t i) = k := ⟨_, rfl⟩
    obtain ⟨kp, hkp⟩ : ∃ k, past L (kq t i) = k := ⟨_, rfl⟩
    have hle := past_le L (kq t i)
    rw [hkf, hkp, hn] at hle
    have hlt : Hid (decide (kf < kp) = b) := by
      show decide (kf < kp) = b
      rw [← hb]; unfold cutB; rw [hok, Bool.true_and]
      unfold past at hkp
      rw [hkf] at hkp
      cases e : isAt L (kq t i)
      · rw [e] at hkp; simp at hkp; exact decide_eq_false (by omega)
      · rw [e] at hkp; simp at hkp; exact decide_eq_true (by omega)
    obtain ⟨m0, hm0⟩ : ∃ m, kf + 0 + (n - kp) = m := ⟨_, rfl⟩
    have hcl : M = L.take kf ++ [] ++ L.drop kp := by rw [← hM]; unfold cutL; rw [if_pos hok]; unfold swL; rw [hkf, hkp]
    have hlen : M.length = m0 := by rw [← hM]; unfold cutL; rw [if_pos hok, sw_length hn hkf hkp rfl, ← hm0]; rfl
    have HOK := Lib.hid (fun W h => iOk_v hok (some ⟨g, off, none⟩) cap n hn W (HSl.out W h) (by omega))
    have HAL : Hid (∀ W, Below w.heap.size w W → Calls Try.prog 47 #[.slice (some ⟨g, off, none⟩) n cap, .agg #[.int .i64 t, .int .i64 i, .int .i64 0, .int .i64 0, .string ByteArray.empty], .func (.func 48) #[] #[]] W fun e w' => e = .returned (.tuple #[.int .i64 (kf : Int), .int .i64 (kp : Int)]) ∧ Below W.heap.size W w') := fun W h => alike_any (some ⟨g, off, none⟩) cap L n hn W (HSl.out W h) (by omega) (kq t i) hri hkf hkp
    have HSW : Hid (∀ W, Below w.heap.size w W → Calls Try.prog 49 #[.slice (some ⟨g, off, none⟩) n cap, .int .i64 (kf : Int), .int .i64 (kp : Int), .slice none 0 0] W fun e w' => ∃ q c, e = .returned (.slice q m0 c) ∧ Sg W w' [rG kR (.slice q m0 c) M]) := fun W h => by
      have := swapped_any g off cap L n hn W (hL.step h) hcap (by omega) kf kp hle.1 hle.2 ⟨none, 0, 0⟩ [] (.inl rfl) rfl (.inr rfl) (by decide)
      simp only at this
      rw [hm0, ← hcl] at this
      exact this
    have HLL : Hid (M.length = m0) := hlen
    clear hn hL hok hri hkf hkp hlen hM hb hm0 hcl
    go_enter Try.func14, Try.ntmps14
    go_wp2_with (first
      | (go_at_call 22; refine (HOK.out _ (Below.refl _ _)).mono ?_; rintro e w1 ⟨rfl, hb1⟩)
      | (go_at_call 47; refine (HAL.out _ hb1).mono ?_; rintro e w2 ⟨rfl, hb2⟩; have hb2' := bstep hb1 hb2 (Nat.le_refl _))
      | (go_at_call 49; refine (HSW.out _ hb2').mono ?_; rintro e w3 ⟨q3, c3, rfl, h3⟩))
    go_ret2
    exact ⟨q3, m0, c3, HLL.out, by rw [← hlt.out]; rfl, by simpa using (sg_bel hb2').addL h3⟩
end Go.Proofs.Ytjjnmeahcjpinaa
