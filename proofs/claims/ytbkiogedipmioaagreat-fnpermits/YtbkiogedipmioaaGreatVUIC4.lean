/-
  The Spots of a Batch, the program's and the spec's.
-/
import Derived.Test.YtbkiogedipmioaaGreatVUIC3
namespace Go.Proofs.YtbkiogedipmioaaGreat.V.U.I
open Go.Shelf Go.RowKit Go.Joins
attribute [local go_sem] Oper.semAt_some

theorem spL_no1 {L M : List Rc} {t s : Int} (h : recsB L = false) : spL L t s M = [] := by unfold spL; rw [h]; rfl
theorem spL_no2 {L M : List Rc} {t s : Int} (h : batB t s M = false) : spL L t s M = [] := by unfold spL; rw [h]; simp
theorem spL_eq {L M : List Rc} {t s : Int} (h : recsB L = true) (h2 : batB t s M = true) : spL L t s M = spF L t M := by unfold spL; rw [h, h2]; rfl
theorem recs_rise {L : List Rc} (h : recsB L = true) : YtbkiogedipmioaaGreat.V.U.riseB L = true := (recs_mk.1 h).2.2
set_option maxRecDepth 100000 in
set_option maxHeartbeats 4000000 in
theorem iSpots_any {t s : Int} (g off cap : Nat) (L : List Rc) (n : Nat) (hn : L.length = n) (hcap : n ≤ cap) (hb0 : n ≤ 10000000) (p : Option Addr) (c bn : Nat) (M : List Rc) (hbn : M.length = bn) (hb1 : bn ≤ 10000000) (w : World) (hL : CsG YtbkiogedipmioaaGreat.V.U.kR w g off L) (hM : SlG kR w p M) {X0 : List (Int × Int)} (hX : spL L t s M = X0) :
    Calls Tryz.prog 35 #[.slice (some ⟨g, off, none⟩) n cap, batV t s p bn c] w fun e w' => ∃ q m c', X0.length = m ∧ e = .returned (.slice q m c') ∧ Sg w w' [rG kS (.slice q m c') X0] := by
  have h0 := sg_bel (below_alloc1 w (.cells #[.int .i64 t, .int .i64 s, .slice p bn c] 30))
  have HR := Lib.hid (fun W b (h : Below w.heap.size w W) (hok : recsB L = b) => iOk_v hok (some ⟨g, off, none⟩) cap n hn W (.inr ⟨g, off, rfl, hL.step h⟩) hb0)
  have HO := Lib.hid (fun W b (h : Below w.heap.size w W) (hok : batB t s M = b) => iBat_v hok p c bn hbn W (hM.step h) hb1)
  have hb00 := bx3 (Below.refl (w.alloc (.cells #[.int .i64 t, .int .i64 s, .slice p bn c] 30)).heap.size (w.alloc (.cells #[.int .i64 t, .int .i64 s, .slice p bn c] 30)))
  cases hrk : recsB L
  · rw [spL_no1 hrk] at hX
    subst hX
    clear hn hL hbn hM
    go_enter Tryz.func35, Tryz.ntmps35
    go_wp2_with (go_at_call 30; refine (HR.out _ _ h0.bel hrk).mono ?_; rintro e w1 ⟨rfl, hb1⟩)
    go_ret
    exact ⟨none, 0, 0, rfl, rfl, by simpa using (h0.step hb1).addL (sg_nilS w1)⟩
  cases hok : batB t s M
  · rw [spL_no2 hok] at hX
    subst hX
    clear hn hL hbn hM
    go_enter Tryz.func35, Tryz.ntmps35
    go_wp2_with (first
      | (go_at_call 30; refine (HR.out _ _ h0.bel hrk).mono ?_; rintro e w1 ⟨rfl, hb1⟩; replace h0 := h0.step hb1; obtain ⟨b0, b1, b2⟩ := bx3 hb1)
      | (go_at_call 31; refine (HO.out _ _ h0.bel hok).mono ?_; rintro e w2 ⟨rfl, hb2⟩; replace h0 := h0.step hb2))
    go_ret
    exact ⟨none, 0, 0, rfl, rfl, by simpa using h0.addL (sg_nilS _)⟩
  have hl6 := bat_len hok
  rw [hbn] at hl6
  rw [spL_eq hrk hok] at hX
  have HI := Lib.hid (fun W (h : Below w.heap.size w W) (r : Rc) (Y : List (Int × Int)) (hY : spI L t r = Y) => iSpI_any r g off cap L n hn W (hL.step h) hcap hb0 t (recs_rise hrk) hY)
  have HX0 := Lib.hid hX
  have HN := Lib.hid hbn
  have HM := Lib.hid hM
  clear hn hL hbn hM hX
  go_enter Tryz.func35, Tryz.ntmps35
  go_upto_region 3 with (first
    | (go_at_call 30; refine (HR.out _ _ h0.bel hrk).mono ?_; rintro e w1 ⟨rfl, hb1⟩; have h1 := h0.step hb1; obtain ⟨b0, b1, b2⟩ := bx3 hb1)
    | (go_at_call 31; refine (HO.out _ _ h1.bel hok).mono ?_; rintro e w2 ⟨rfl, hb2⟩; have h2 := h1.step hb2; clear b0 b1 b2; have hb12 := bstep hb1 hb2 (Nat.le_refl _); obtain ⟨b0, b1, b2⟩ := bx3 hb12))
  clear hb00 HO HR h1 hb1 hb2
  have hS0 : Sg (w.alloc (.cells #[.int .i64 t, .int .i64 s, .slice p bn c] 30)) w2 [rG kS (.slice none 0 0) []] := by simpa using (sg_bel hb12).addL (sg_nilS w2)
  clear h2 hb12
  go_upto_region 5 with (fail)
  go_loopw [5, 19] (fun s5 s19 wr => ∃ (k : Nat) (qa : Option Addr) (ma ca : Nat) (X : List (Int × Int)), k ≤ bn ∧ s19 = .int .i64 k ∧ s5 = .slice qa ma ca ∧ Hid (X = spF L t (M.take k) ∧ X.length = ma ∧ ma ≤ 2 * k) ∧ Sg (w.alloc (.cells #[.int .i64 t, .int .i64 s, .slice p bn c] 30)) wr [rG kS (.slice qa ma ca) X]) (fun _ i _ => bn - (intOf i).toNat)
  case atStart => exact ⟨0, none, 0, 0, [], by omega, rfl, rfl, ⟨rfl, rfl, Nat.le_refl _⟩, hS0⟩
  case round =>
    clear hS0 b0 b1 b2
    obtain ⟨k, qa, ma, ca, X, hk, rfl, rfl, HX, hS⟩ := hrel
    by_cases hlt : k < bn
    · have hki : (k : Int) < bn := by omega
      have hkM : k < M.length := by rw [HN.out]; exact hlt
      obtain ⟨gl, ol, rfl, hC⟩ := (HM.out.step (h0.addL hS).bel).at hkM
      have hgk := List.getElem?_eq_getElem hkM
      have hf := spF_take (L := L) (t := t) hkM
      generalize M[k] = r at hgk hf
      obtain ⟨c0, c1, c2, c3, c4⟩ := hC.i5 hgk
      obtain ⟨b0, b1, b2⟩ := bx3 hS.bel
      obtain ⟨Y, hY⟩ : ∃ Y, spI L t r = Y := ⟨_, rfl⟩
      have hyl := spI_len L t r
      rw [hY] at hf hyl
      have HF : Hid (spF L t (M.take (k + 1)) = spF L t (M.take k) ++ Y) := hf
      have hS1 := hS.step (below_alloc1 wr (.cells #[.int .i64 r.t, .int .i64 r.i, .int .i64 r.x, .int .i64 r.y, .string r.s] 117))
      have HY := Lib.hid hY
      clear b0 b1 b2
      obtain ⟨b0, b1, b2⟩ := bx3 hS1.bel
      clear hC hgk hf hY
      go_wp2_with (first
        | (go_at_call 78; refine (HI.out _ (h0.addL hS1).bel r Y HY.out).mono ?_; rintro e w3 ⟨q3, m3, c3, hm3, rfl, h3⟩; have hS3 := hS1.addL h3; rw [hm3] at hyl; have hok3 := own_okv (h3.mem (K := kS) (v := .slice q3 m3 c3) (L := Y) (by simp)))
        | (at_builtin; refine wpList_ap appS oneSs rfl _ _ rfl (A := [rG kS (.slice q3 m3 c3) Y]) (M := X) (L := Y) (m := ma) (s := ⟨q3, m3, c3⟩) hS3 (Below.refl _ _) (OwG.sl (hS3.mem (K := kS) (v := .slice q3 m3 c3) (L := Y) (by simp))) HX.out.2.1 hm3 (by have := HX.out.2.2; simp only; omega) hok3 rfl rfl ?_; intro q4 cap4 w4 hS4 _ _ _))
      go_roundw
      case rel => exact ⟨k + 1, q4, ma + m3, cap4, X ++ Y, by omega, by go_num, rfl, ⟨by rw [HF.out, ← HX.out.1], by rw [List.length_append, HX.out.2.1, hm3], by have := HX.out.2.2; omega⟩, hS4.sub (by simp)⟩
      case measure => simp [intOf]; omega
    · obtain rfl : k = bn := by omega
      have HE : Hid (X = X0 ∧ X.length = ma) := (⟨by have e := HX.out.1; rw [List.take_of_length_le (by rw [HN.out]; exact Nat.le_refl _), HX0.out] at e; exact e, HX.out.2.1⟩ : X = X0 ∧ X.length = ma)
      go_wp2
      go_ret
      exact ⟨qa, ma, ca, by rw [← HE.out.1]; exact HE.out.2, rfl, by rw [← HE.out.1]; simpa using h0.addL hS⟩
set_option maxRecDepth 100000 in
set_option maxHeartbeats 4000000 in
theorem sSpF_any {t s : Int} (g off cap : Nat) (L : List Rc) (n : Nat) (hn : L.length = n) (hb0 : n ≤ 10000000) (hrr : YtbkiogedipmioaaGreat.V.U.riseB L = true) (p : Option Addr) (c bn : Nat) (M : List Rc) (hbn : M.length = bn) (hb6 : bn ≤ 6) (w : World) (hL : CsG YtbkiogedipmioaaGreat.V.U.kR w g off L) (hM : SlG kR w p M) {X0 : List (Int × Int)} (hX : spF L t M = X0) :
    Calls Tryz.prog 38 #[.slice (some ⟨g, off, none⟩) n cap, batV t s p bn c] w fun e w' => ∃ q m c', X0.length = m ∧ e = .returned (.slice q m c') ∧ Sg w w' [rG kS (.slice q m c') X0] := by
  have h0 := sg_bel (below_alloc1 w (.cells #[.int .i64 t, .int .i64 s, .slice p bn c] 30))
  have hS0 : Sg (w.alloc (.cells #[.int .i64 t, .int .i64 s, .slice p bn c] 30)) ((w.alloc (.cells #[.int .i64 t, .int .i64 s, .slice p bn c] 30)).alloc (.cells #[] 40)) [rG kS (.slice (some ⟨(w.alloc (.cells #[.int .i64 t, .int .i64 s, .slice p bn c] 30)).heap.size, 0, none⟩) 0 0) []] := (Sg.nil _).lit kS [] 0 rfl (by decide) #[] rfl
  rw [World.size_alloc] at hS0
  have HX0 := Lib.hid hX
  have HN := Lib.hid hn
  have HBN := Lib.hid hbn
  have HM := Lib.hid hM
  have HL := Lib.hid hL
  have HRR := Lib.hid hrr
  clear hn hL hbn hM hX hrr
  go_enter Tryz.func38, Tryz.ntmps38
  go_upto_region 3 with (fail)
  go_loopw [5, 6] (fun s5 s6 wr => ∃ (k : Nat) (qa : Option Addr) (ma ca : Nat) (X : List (Int × Int)), k ≤ bn ∧ s6 = .int .i64 k ∧ s5 = .slice qa ma ca ∧ Hid (X = spF L t (M.take k) ∧ X.length = ma ∧ ma ≤ 2 * k) ∧ Sg (w.alloc (.cells #[.int .i64 t, .int .i64 s, .slice p bn c] 30)) wr [rG kS (.slice qa ma ca) X]) (fun _ i _ => bn - (intOf i).toNat)
  case atStart => exact ⟨0, _, 0, 0, [], by omega, rfl, rfl, ⟨rfl, rfl, Nat.le_refl _⟩, hS0⟩
  case round =>
    clear hS0
    obtain ⟨k, qa, ma, ca, X, hk, rfl, rfl, HX, hS⟩ := hrel
    obtain ⟨b0, b1, b2⟩ := bx3 hS.bel
    by_cases hlt : k < bn
    · have hki : (k : Int) < bn := by omega
      have hkM : k < M.length := by rw [HBN.out]; exact hlt
      obtain ⟨gl, ol, rfl, hC⟩ := (HM.out.step (h0.addL hS).bel).at hkM
      have hgk := List.getElem?_eq_getElem hkM
      have hf := spF_take (L := L) (t := t) hkM
      generalize M[k] = r at hgk hf
      obtain ⟨c0, c1, c2, c3, c4⟩ := hC.i5 hgk
      have HF : Hid (spF L t (M.take (k + 1)) = spF L t (M.take k) ++ spI L t r) := hf
      clear hC hgk hf
      obtain ⟨rt, ri, rx, ry, rs⟩ := r
      simp only at c0 c1 c2 c3 c4
      have HAt := Lib.hid (fun W (h : Below w.heap.size w W) v (hv : atI L (kq t ri) = v) => sAt_any (some ⟨g, off, none⟩) cap L n HN.out W (.inr ⟨g, off, rfl, HL.out.step h⟩) hb0 (kq t ri) HRR.out hv)
      by_cases ht : rt = 1
      · subst ht
        have hS1 : Sg _ (wr.alloc (.cells #[.int .i64 1, .int .i64 ri, .int .i64 rx, .int .i64 ry, .string rs] 117)) [rG kR (.slice (some ⟨wr.heap.size, 0, none⟩) 1 1) [⟨1, ri, rx, ry, rs⟩], rG kS (.slice qa ma ca) X] := hS.lit kR [⟨1, ri, rx, ry, rs⟩] 1 rfl (by decide) #[.int .i64 1, .int .i64 ri, .int .i64 rx, .int .i64 ry, .string rs] rfl
        obtain ⟨y0, y1, y2⟩ := bx3 hS1.bel
        cases hi : isAt L (kq t ri)
        · have hv : atI L (kq t ri) = -1 := by unfold atI; rw [hi]; rfl
          have HN2 : Hid (X ++ [(rx, ry)] = spF L t (M.take (k + 1))) := (by rw [HF.out, spI_no (r := ⟨1, ri, rx, ry, rs⟩) hi, HX.out.1]; simp : X ++ [(rx, ry)] = spF L t (M.take (k + 1)))
          clear hi
          go_upto_region 8 with (at_builtin; refine wpList_ap appS oneSs rfl _ _ rfl (A := [rG kR (.slice (some ⟨wr.heap.size, 0, none⟩) 1 1) [⟨1, ri, rx, ry, rs⟩]]) (M := X) (L := [(rx, ry)]) (m := ma) (s := ⟨some ⟨wr.heap.size + 1, 0, none⟩, 1, 1⟩) hS1 (below_alloc1 _ _) (.inr ⟨_, 0, rfl, by have := lit_cp (wr.alloc (.cells #[.int .i64 1, .int .i64 ri, .int .i64 rx, .int .i64 ry, .string rs] 117)) rx ry; rw [World.size_alloc] at this; exact this⟩) HX.out.2.1 rfl (by have := HX.out.2.2; simp only; omega) (.inl ⟨_, rfl⟩) rfl rfl ?_; intro q2 cap2 w2 hS3 _ _ _; have hit := OwG.cs (hS3.mem (K := kR) (v := .slice (some ⟨wr.heap.size, 0, none⟩) 1 1) (L := [⟨1, ri, rx, ry, rs⟩]) (by simp)); obtain ⟨x0, x1, x2, x3, x4⟩ := hit.i5 (k := 0) (r := ⟨1, ri, rx, ry, rs⟩) rfl; simp only [Nat.zero_mul, Nat.zero_add, Nat.add_zero] at x0 x1 x2 x3 x4; clear hit)
          obtain ⟨b0, b1, b2⟩ := bx3 hS3.bel
          go_wp2_with (go_at_call 80; refine (HAt.out _ (h0.addL hS3).bel _ hv).mono ?_; rintro e w3 ⟨rfl, hw3⟩; subst hw3)
          go_roundw
          case rel => exact ⟨k + 1, q2, ma + 1, cap2, X ++ [(rx, ry)], by omega, by go_num, rfl, ⟨HN2.out, by simp [HX.out.2.1], by have := HX.out.2.2; omega⟩, hS3.sub (by simp)⟩
          case measure => simp [intOf]; omega
        · obtain ⟨kf, hkf⟩ : ∃ kf, pos L (kq t ri) = kf := ⟨_, rfl⟩
          have hv : atI L (kq t ri) = (kf : Int) := by unfold atI; rw [if_pos hi, hkf]
          have hlt2 := isAt_lt hi
          rw [hkf] at hlt2
          have hga := List.getElem?_eq_getElem hlt2
          have hsp := spI_at (t := t) (r := ⟨1, ri, rx, ry, rs⟩) hi (a := L[kf]) (by rw [hkf]; exact hga)
          simp only at hsp
          generalize L[kf] = a at hga hsp
          have HGA := Lib.hid hga
          rw [HN.out] at hlt2
          have hki2 : (kf : Int) < n := by omega
          clear hga hi hkf
          have HN2 : Hid (X ++ [(rx, ry)] ++ [(a.x, a.y)] = spF L t (M.take (k + 1))) := (by rw [HF.out, hsp, HX.out.1]; simp : X ++ [(rx, ry)] ++ [(a.x, a.y)] = spF L t (M.take (k + 1)))
          clear hsp
          go_upto_region 8 with (at_builtin; refine wpList_ap appS oneSs rfl _ _ rfl (A := [rG kR (.slice (some ⟨wr.heap.size, 0, none⟩) 1 1) [⟨1, ri, rx, ry, rs⟩]]) (M := X) (L := [(rx, ry)]) (m := ma) (s := ⟨some ⟨wr.heap.size + 1, 0, none⟩, 1, 1⟩) hS1 (below_alloc1 _ _) (.inr ⟨_, 0, rfl, by have := lit_cp (wr.alloc (.cells #[.int .i64 1, .int .i64 ri, .int .i64 rx, .int .i64 ry, .string rs] 117)) rx ry; rw [World.size_alloc] at this; exact this⟩) HX.out.2.1 rfl (by have := HX.out.2.2; simp only; omega) (.inl ⟨_, rfl⟩) rfl rfl ?_; intro q2 cap2 w2 hS3 _ _ _; have hit := OwG.cs (hS3.mem (K := kR) (v := .slice (some ⟨wr.heap.size, 0, none⟩) 1 1) (L := [⟨1, ri, rx, ry, rs⟩]) (by simp)); obtain ⟨x0, x1, x2, x3, x4⟩ := hit.i5 (k := 0) (r := ⟨1, ri, rx, ry, rs⟩) rfl; simp only [Nat.zero_mul, Nat.zero_add, Nat.add_zero] at x0 x1 x2 x3 x4; clear hit)
          obtain ⟨b0, b1, b2⟩ := bx3 hS3.bel
          go_upto_region 9 with (go_at_call 80; refine (HAt.out _ (h0.addL hS3).bel _ hv).mono ?_; rintro e w3 ⟨rfl, hw3⟩; subst hw3)
          obtain ⟨d0, d1, d2, d3, d4⟩ := (HL.out.step (h0.addL hS3).bel).r5 HGA.out
          go_wp2_with (at_builtin; refine wpList_ap appS oneSs rfl _ _ rfl (A := [rG kR (.slice (some ⟨wr.heap.size, 0, none⟩) 1 1) [⟨1, ri, rx, ry, rs⟩]]) (M := X ++ [(rx, ry)]) (L := [(a.x, a.y)]) (m := ma + 1) (s := ⟨some ⟨w3.heap.size, 0, none⟩, 1, 1⟩) hS3 (below_alloc1 _ _) (.inr ⟨_, 0, rfl, lit_cp w3 a.x a.y⟩) (by simp [HX.out.2.1]) rfl (by have := HX.out.2.2; simp only; omega) (.inl ⟨_, rfl⟩) rfl rfl ?_; intro q4 cap4 w4 hS4 _ _ _)
          go_roundw
          case rel => exact ⟨k + 1, q4, ma + 1 + 1, cap4, X ++ [(rx, ry)] ++ [(a.x, a.y)], by omega, by go_num, rfl, ⟨HN2.out, by simp [HX.out.2.1], by have := HX.out.2.2; omega⟩, hS4.sub (by simp)⟩
          case measure => simp [intOf]; omega
      · have htb : (rt == 1) = false := by simp [ht]
        have hif : (if rt = 1 then [(rx, ry)] else []) = [] := if_neg ht
        clear ht
        have hS1 : Sg _ (wr.alloc (.cells #[.int .i64 rt, .int .i64 ri, .int .i64 rx, .int .i64 ry, .string rs] 117)) [rG kR (.slice (some ⟨wr.heap.size, 0, none⟩) 1 1) [⟨rt, ri, rx, ry, rs⟩], rG kS (.slice qa ma ca) X] := hS.lit kR [⟨rt, ri, rx, ry, rs⟩] 1 rfl (by decide) #[.int .i64 rt, .int .i64 ri, .int .i64 rx, .int .i64 ry, .string rs] rfl
        obtain ⟨y0, y1, y2⟩ := bx3 hS1.bel
        cases hi : isAt L (kq t ri)
        · have hv : atI L (kq t ri) = -1 := by unfold atI; rw [hi]; rfl
          have HN2 : Hid (X = spF L t (M.take (k + 1))) := (by rw [HF.out, spI_no (r := ⟨rt, ri, rx, ry, rs⟩) hi, hif, HX.out.1]; simp : X = spF L t (M.take (k + 1)))
          clear hi
          go_wp2_with (go_at_call 80; refine (HAt.out _ (h0.addL hS1).bel _ hv).mono ?_; rintro e w2 ⟨rfl, hw2⟩; subst hw2)
          go_roundw
          case rel => exact ⟨k + 1, qa, ma, ca, X, by omega, by go_num, rfl, ⟨HN2.out, HX.out.2.1, by have := HX.out.2.2; omega⟩, hS1.sub (by simp)⟩
          case measure => simp [intOf]; omega
        · obtain ⟨kf, hkf⟩ : ∃ kf, pos L (kq t ri) = kf := ⟨_, rfl⟩
          have hv : atI L (kq t ri) = (kf : Int) := by unfold atI; rw [if_pos hi, hkf]
          have hlt2 := isAt_lt hi
          rw [hkf] at hlt2
          have hga := List.getElem?_eq_getElem hlt2
          have hsp := spI_at (t := t) (r := ⟨rt, ri, rx, ry, rs⟩) hi (a := L[kf]) (by rw [hkf]; exact hga)
          simp only at hsp
          generalize L[kf] = a at hga hsp
          have HGA := Lib.hid hga
          rw [HN.out] at hlt2
          have hki2 : (kf : Int) < n := by omega
          clear hga hi hkf
          have HN2 : Hid (X ++ [(a.x, a.y)] = spF L t (M.take (k + 1))) := (by rw [HF.out, hsp, hif, HX.out.1]; simp : X ++ [(a.x, a.y)] = spF L t (M.take (k + 1)))
          clear hsp
          obtain ⟨d0, d1, d2, d3, d4⟩ := (HL.out.step (h0.addL hS1).bel).r5 HGA.out
          go_wp2_with (first
            | (go_at_call 80; refine (HAt.out _ (h0.addL hS1).bel _ hv).mono ?_; rintro e w2 ⟨rfl, hw2⟩; subst hw2)
            | (at_builtin; refine wpList_ap appS oneSs rfl _ _ rfl (A := [rG kR (.slice (some ⟨wr.heap.size, 0, none⟩) 1 1) [⟨rt, ri, rx, ry, rs⟩]]) (M := X) (L := [(a.x, a.y)]) (m := ma) (s := ⟨some ⟨wr.heap.size + 1, 0, none⟩, 1, 1⟩) hS1 (below_alloc1 _ _) (.inr ⟨_, 0, rfl, by have := lit_cp (wr.alloc (.cells #[.int .i64 rt, .int .i64 ri, .int .i64 rx, .int .i64 ry, .string rs] 117)) a.x a.y; rw [World.size_alloc] at this; exact this⟩) HX.out.2.1 rfl (by have := HX.out.2.2; simp only; omega) (.inl ⟨_, rfl⟩) rfl rfl ?_; intro q4 cap4 w4 hS4 _ _ _))
          go_roundw
          case rel => exact ⟨k + 1, q4, ma + 1, cap4, X ++ [(a.x, a.y)], by omega, by go_num, rfl, ⟨HN2.out, by simp [HX.out.2.1], by have := HX.out.2.2; omega⟩, hS4.sub (by simp)⟩
          case measure => simp [intOf]; omega
    · obtain rfl : k = bn := by omega
      have HE : Hid (X = X0 ∧ X.length = ma) := (⟨by have e := HX.out.1; rw [List.take_of_length_le (by rw [HBN.out]; exact Nat.le_refl _), HX0.out] at e; exact e, HX.out.2.1⟩ : X = X0 ∧ X.length = ma)
      go_wp2
      go_ret
      exact ⟨qa, ma, ca, by rw [← HE.out.1]; exact HE.out.2, rfl, by rw [← HE.out.1]; simpa using h0.addL hS⟩
set_option maxHeartbeats 2000000 in
theorem sSpots_any {t s : Int} (g off cap : Nat) (L : List Rc) (n : Nat) (hn : L.length = n) (hb0 : n ≤ 10000000) (p : Option Addr) (c bn : Nat) (M : List Rc) (hbn : M.length = bn) (hb1 : bn ≤ 10000000) (w : World) (hL : CsG YtbkiogedipmioaaGreat.V.U.kR w g off L) (hM : SlG kR w p M) {X0 : List (Int × Int)} (hX : spL L t s M = X0) :
    Calls Tryz.prog 9 #[.slice (some ⟨g, off, none⟩) n cap, batV t s p bn c] w fun e w' => ∃ q m c', X0.length = m ∧ e = .returned (.slice q m c') ∧ Sg w w' [rG kS (.slice q m c') X0] := by
  have h0 := sg_bel (below_alloc1 w (.cells #[.int .i64 t, .int .i64 s, .slice p bn c] 30))
  have HR := Lib.hid (fun W b (h : Below w.heap.size w W) (hok : recsB L = b) => sOk_v hok (some ⟨g, off, none⟩) cap n hn W (.inr ⟨g, off, rfl, hL.step h⟩) hb0)
  have HO := Lib.hid (fun W b (h : Below w.heap.size w W) (hok : batB t s M = b) => sBat_v hok p c bn hbn W (hM.step h) hb1)
  have hb00 := bx3 (Below.refl (w.alloc (.cells #[.int .i64 t, .int .i64 s, .slice p bn c] 30)).heap.size (w.alloc (.cells #[.int .i64 t, .int .i64 s, .slice p bn c] 30)))
  have hlit : ∀ W, Sg w W [] → Sg w (W.alloc (.cells #[] 40)) [rG kS (.slice (some ⟨W.heap.size, 0, none⟩) 0 0) []] := fun W h => h.lit kS [] 0 rfl (by decide) #[] rfl
  have HLIT := Lib.hid hlit
  cases hrk : recsB L
  · rw [spL_no1 hrk] at hX
    subst hX
    clear hn hL hbn hM hlit
    go_enter Tryz.func9, Tryz.ntmps9
    go_wp2_with (go_at_call 10; refine (HR.out _ _ h0.bel hrk).mono ?_; rintro e w1 ⟨rfl, hb1⟩)
    go_ret
    exact ⟨_, 0, 0, rfl, rfl, HLIT.out _ (h0.step hb1)⟩
  cases hok : batB t s M
  · rw [spL_no2 hok] at hX
    subst hX
    clear hn hL hbn hM hlit
    go_enter Tryz.func9, Tryz.ntmps9
    go_wp2_with (first
      | (go_at_call 10; refine (HR.out _ _ h0.bel hrk).mono ?_; rintro e w1 ⟨rfl, hb1⟩; replace h0 := h0.step hb1; obtain ⟨b0, b1, b2⟩ := bx3 hb1)
      | (go_at_call 11; refine (HO.out _ _ h0.bel hok).mono ?_; rintro e w2 ⟨rfl, hb2⟩; replace h0 := h0.step hb2))
    go_ret
    exact ⟨_, 0, 0, rfl, rfl, HLIT.out _ h0⟩
  have hl6 := bat_len hok
  rw [hbn] at hl6
  rw [spL_eq hrk hok] at hX
  have HF := Lib.hid (fun W (h : Below w.heap.size w W) => sSpF_any (s := s) g off cap L n hn hb0 (recs_rise hrk) p c bn M hbn hl6 W (hL.step h) (hM.step h) hX)
  clear hn hL hbn hM hX hlit
  go_enter Tryz.func9, Tryz.ntmps9
  go_wp2_with (first
    | (go_at_call 10; refine (HR.out _ _ h0.bel hrk).mono ?_; rintro e w1 ⟨rfl, hb1⟩; replace h0 := h0.step hb1; obtain ⟨b0, b1, b2⟩ := bx3 hb1)
    | (go_at_call 11; refine (HO.out _ _ h0.bel hok).mono ?_; rintro e w2 ⟨rfl, hb2⟩; replace h0 := h0.step hb2; clear b0 b1 b2; have hb12 := bstep hb1 hb2 (Nat.le_refl _); obtain ⟨b0, b1, b2⟩ := bx3 hb12)
    | (go_at_call 38; refine (HF.out _ h0.bel).mono ?_; rintro e w3 ⟨q, m, c', hm, rfl, h3⟩))
  go_ret
  exact ⟨q, m, c', hm, rfl, by simpa using h0.addL h3⟩
end Go.Proofs.YtbkiogedipmioaaGreat.V.U.I
