/-
  The spec's Hull.
-/
import Derived.Test.YtkpkigllabhejaaS4
import Derived.Test.YtkpkigllabhejaaX1
namespace Go.Proofs.Ytkpkigllabhejaa
open Go.RowKit Go.Joins
attribute [local go_sem ↓] Go.wp_at_zero Go.wp_at_succ

theorem half_pos {S : List T2} (h : S ≠ []) : 0 < (halfR S).reverse.length := by rw [List.length_reverse]; exact List.length_pos_iff.mpr (half_ne h)
theorem tail_take (K : List T2) {m : Nat} (h : m + 1 = K.reverse.length) : K.reverse.take m = K.tail.reverse := by
  cases K with
  | nil => simp at h
  | cons a t =>
    rw [List.length_reverse] at h
    rw [List.reverse_cons, List.tail_cons, List.take_left' (by simp at h ⊢; omega)]
theorem drop_rev {S : List T2} {m : Nat} (h : m < S.length) : (S.drop m).reverse = (S.drop (m + 1)).reverse ++ [S[m]] := by
  rw [List.drop_eq_getElem_cons h, List.reverse_cons]

theorem l5Half_v {L A : List T2} (hA : (halfR L).reverse = A) (p : Option Addr) (cap : Nat) (hok : ∀ c ∈ L, c.ok = true) (hn : L.length ≤ 40) (w : World) (hL : Sl w p L) :
    Calls Try.prog 53 #[.slice p L.length cap] w fun e w' => ∃ q cap', e = .returned (.slice q A.length cap') ∧ Ow w' w.heap.size (.slice q A.length cap') A ∧ Below w.heap.size w w' := by subst hA; exact l5Half_any p cap L hok hn w hL
theorem l5Sorted_v {L S : List T2} (hS : srtT L = S) (p : Option Addr) (cap : Nat) (hn : L.length ≤ 40) (w : World) (hL : Sl w p L) :
    Calls Try.prog 52 #[.slice p L.length cap] w fun e w' => ∃ q cap', e = .returned (.slice (some ⟨q, 0, none⟩) S.length cap') ∧ Ow w' w.heap.size (.slice (some ⟨q, 0, none⟩) S.length cap') S ∧ Below w.heap.size w w' := by subst hS; exact l5Sorted_any p cap L hn w hL
set_option maxRecDepth 100000 in
set_option maxHeartbeats 8000000 in
theorem l5Hull_any (p : Option Addr) (cap : Nat) (L : List T2) (hok : okS L = true) (w : World) (hL : Sl w p L) :
    Calls Try.prog 32 #[.slice p L.length cap] w fun e w' => ∃ q cap', e = .returned (.slice (some ⟨q, 0, none⟩) (hullS (srtT L)).length cap') ∧ Ow w' w.heap.size (.slice (some ⟨q, 0, none⟩) (hullS (srtT L)).length cap') (hullS (srtT L)) ∧ Below w.heap.size w w' := by
  have hn := okS_len hok
  have hsl : (srtT L).length ≤ 40 := Nat.le_trans (srt_len L) hn
  have hsok : ∀ c ∈ srtT L, c.ok = true := fun c hc => okS_all hok c ((srt_mem L).mp hc)
  have hx := Sx.nil w
  go_enter Try.func32, Try.ntmps32
  go_upto_region 2 with (go_at_call 52; refine (l5Sorted_any p cap L hn _ hL).mono ?_; rintro e w1 ⟨q, cap', rfl, hO, hb⟩; replace hx := hx.add hO hb; clear hO hb)
  generalize hSe : srtT L = S at hsl hsok hx ⊢
  have HS : Hid (srtT L = S) := hSe
  clear hSe
  by_cases h3 : S.length < 3
  · have h3i : (S.length : Int) < 3 := by omega
    have hS : hullS S = S := by
      by_cases h2 : S.length = 2
      · exact hullS_two h2
      · unfold hullS; rw [if_pos (by omega)]
    go_wp2
    go_ret
    rw [HS.out, hS]
    exact ⟨q, cap', rfl, hx.o0, hx.bel⟩
  have h3i : ¬ (S.length : Int) < 3 := by omega
  have hne : S ≠ [] := by intro e; subst e; simp at h3
  have hsub1 : (S.length : Int) - 1 = (S.length : Int) + -1 := by omega
  clear hsub1
  go_wp2_with fail
  have hx0 := hx.new
  go_loopw [4, 5] (fun bv iv wr => ∃ (m gb capb : Nat) (M : List T2), iv = .int .i64 ((m : Int) - 1) ∧ m ≤ S.length ∧ bv = .slice (some ⟨gb, 0, none⟩) M.length capb ∧ M = (S.drop m).reverse ∧ Sx w wr [(.slice (some ⟨gb, 0, none⟩) M.length capb, M), (.slice (some ⟨q, 0, none⟩) S.length cap', S)]) (fun _ iv _ => (intOf iv + 1).toNat)
  case atStart => exact ⟨S.length, _, _, [], by go_num, by omega, rfl, by simp, hx0⟩
  case round =>
    clear hx hx0
    obtain ⟨m, gb, capb, M, rfl, hm, rfl, hM, hx⟩ := hrel
    by_cases hm0 : 0 < m
    · have hmi : (0 : Int) ≤ (m : Int) - 1 := by omega
      obtain ⟨k, rfl⟩ : ∃ k, m = k + 1 := ⟨m - 1, by omega⟩
      have hk : k < S.length := by omega
      have hki : (k : Int) < S.length := by omega
      have hk0 : (0 : Int) ≤ (k : Int) := by omega
      have hkk : ((k + 1 : Nat) : Int) - 1 = (k : Int) := by omega
      rw [hkk]
      have hcs := (Ow.cs hx.o1).2 k S[k] (List.getElem?_eq_getElem hk)
      simp only [Nat.zero_add] at hcs
      obtain ⟨c0, c1⟩ := hcs
      have hdr := drop_rev hk
      rw [← hM] at hdr
      generalize S[k] = s at c0 c1 hdr
      have hMl : M.length ≤ 40 := by rw [hM]; simp; omega
      have HD : Hid ((S.drop k).reverse = M ++ [s]) := hdr
      clear hdr hM hkk
      go_wp2_with (at_builtin; refine wpList_app rfl _ _ rfl (base := w.heap.size) (M := M) (B := [s]) rfl (hx.step (below_alloc1 _ (.cells #[.int .i64 s.x, .int .i64 s.y] 38))).o0 _ _ rfl (fun i u hi => by rw [show flat [s] = s.vs by simp [flat]] at hi; exact cell_two_at rfl i u hi) (by first | omega | (simp; done) | (simp; omega)) (by have := hx.bel.size; first | omega | (simp; done) | (simp; omega)) ?_; intro g2 cap2 w2 hO2 hg2 ha2; have hx2 := Sx.app (A := []) (hx.step (below_alloc1 _ (.cells #[.int .i64 s.x, .int .i64 s.y] 38))) hO2 hg2 ha2; simp only [List.nil_append] at hx2; clear hO2 hg2 ha2; generalize hM2 : M ++ [s] = M2 at hx2 HD ⊢; clear hM2)
      go_roundw
      case rel => exact ⟨k, g2, cap2, M2, by go_num, by omega, rfl, HD.out.symm, hx2⟩
      case measure => first | (simp [intOf]; done) | (simp [intOf]; omega)
    · have hmi : ¬ (0 : Int) ≤ (m : Int) - 1 := by omega
      obtain rfl : m = 0 := by omega
      rw [List.drop_zero] at hM
      have hM2 : M.length ≤ 40 := by rw [hM]; simp; omega
      have hMok : ∀ c ∈ M, c.ok = true := fun c hc => hsok c (by rw [hM] at hc; simpa using hc)
      have p1 := half_pos hne
      have p2 := half_pos (S := M) (by rw [hM]; simpa using hne)
      have l1 := half_len S
      have l2 := half_len M
      have hfin : hullS S = (halfR S).tail.reverse ++ (halfR M).tail.reverse := by unfold hullS; rw [if_neg (by omega), hM]
      have HF : Hid (hullS S = (halfR S).tail.reverse ++ (halfR M).tail.reverse) := hfin
      clear hfin hM
      obtain ⟨A1, hA1e⟩ : ∃ A1, (halfR S).reverse = A1 := ⟨_, rfl⟩
      obtain ⟨A2, hA2e⟩ : ∃ A2, (halfR M).reverse = A2 := ⟨_, rfl⟩
      have hA1l : A1.length = (halfR S).length := by rw [← hA1e, List.length_reverse]
      have hA2l : A2.length = (halfR M).length := by rw [← hA2e, List.length_reverse]
      have HA1 : Hid ((halfR S).reverse = A1) := hA1e
      have HA2 : Hid ((halfR M).reverse = A2) := hA2e
      rw [List.length_reverse] at p1 p2
      have hA1 : A1.length ≤ 40 := by omega
      have hA2 : A2.length ≤ 40 := by omega
      have hA1p : 0 < A1.length := by omega
      have hA2p : 0 < A2.length := by omega
      clear hA1e hA2e hA1l hA2l p1 p2 l1 l2
      go_upto_region 10 with (go_at_call 53; refine (l5Half_v HA1.out _ _ hsok hsl _ (Ow.sl hx.o1)).mono ?_; rintro e w2 ⟨q2, cap2, rfl, hO2, hb2⟩; replace hx := hx.add hO2 hb2; clear hO2 hb2)
      go_upto_region 11 with (go_at_call 53; refine (l5Half_v HA2.out _ _ hMok hM2 _ (Ow.sl hx.o1)).mono ?_; rintro e w3 ⟨q3, cap3, rfl, hO3, hb3⟩; replace hx := hx.add hO3 hb3; clear hO3 hb3)
      obtain ⟨m1, hm1⟩ : ∃ m1, m1 + 1 = A1.length := ⟨A1.length - 1, by omega⟩
      obtain ⟨m2, hm2⟩ : ∃ m2, m2 + 1 = A2.length := ⟨A2.length - 1, by omega⟩
      have e1 := tail_take (halfR S) (m := m1) (by rw [HA1.out]; exact hm1)
      have e2 := tail_take (halfR M) (m := m2) (by rw [HA2.out]; exact hm2)
      have hF2 : hullS S = A1.take m1 ++ A2.take m2 := by rw [HF.out, ← e1, ← e2, HA1.out, HA2.out]
      have HF2 : Hid (hullS S = A1.take m1 ++ A2.take m2) := hF2
      clear e1 e2 HF hF2
      obtain ⟨g2, rfl, _, _, hc2⟩ := Ow.some (M := A1) hx.o1 (by omega)
      obtain ⟨g3, rfl, _, _, hc3⟩ := Ow.some (M := A2) hx.o0 (by omega)
      have ha1 : IntKind.i64.wrap ((A1.length : Int) - 1) = m1 := by rw [IntKind.wrap_i64]; omega
      have ha2 : IntKind.i64.wrap ((A2.length : Int) - 1) = m2 := by rw [IntKind.wrap_i64]; omega
      have b1 : (0 : Int) ≤ (m1 : Int) := by omega
      have b2 : (0 : Int) ≤ (m2 : Int) := by omega
      have b3 : (m1 : Int) ≤ (cap2 : Int) := by omega
      have b4 : (m2 : Int) ≤ (cap3 : Int) := by omega
      have b5 : m1 ≤ cap2 := by omega
      have b7 : (m1 : Int) ≤ (A1.length : Int) := by omega
      have b8 : (m2 : Int) ≤ (A2.length : Int) := by omega
      have b6 : m2 ≤ cap3 := by omega
      have hT1 : (A1.take m1).length = m1 := by rw [List.length_take]; omega
      have hT2 : (A2.take m2).length = m2 := by rw [List.length_take]; omega
      clear hm1 hm2
      have tk1 : True := trivial
      go_wp2_with fail
      go_region_held3 (fun w' => Below w.heap.size w w') (first | assumption | exact hx5.bel | exact hx4.bel | exact (hx.step (Below.refl _ _).drew).bel | exact (hx.step (below_alloc1 _ _).drew).bel | fail)
        (first
          | (clear tk1; have hX := hx.new.step (Below.refl _ _).drew; refine step_app rfl _ _ rfl (base := w.heap.size) (M := ([] : List T2)) (B := A1.take m1) rfl hX.o0 _ _ (by first | (rw [hT1]; done) | (rw [hT1]; rfl)) (fun i u hi => cs_news (cs_take (Ow.cs hX.o2) m1) i u hi) (by first | omega | (simp; done) | (simp; omega)) (by have := hX.bel.size; omega) ?_; intro g4 cap4 w4 hO4 hg4 ha4; have hx4 := Sx.app (A := []) hX hO4 hg4 ha4; simp only [List.nil_append] at hx4; clear hO4 hg4 ha4; generalize hM4 : A1.take m1 = M4 at hx4 ⊢; have HM4 : Hid (A1.take m1 = M4) := hM4; have hM4l : M4.length ≤ 40 := (by rw [← hM4]; first | omega | (simp; omega)); clear hM4)
          | (refine step_app rfl _ _ rfl (base := w.heap.size) (M := M4) (B := A2.take m2) rfl hx4.o0 _ _ (by first | (rw [hT2]; done) | (rw [hT2]; rfl)) (fun i u hi => cs_news (cs_take (Ow.cs hx4.o1) m2) i u hi) (by first | omega | (simp; done) | (simp; omega)) (by have := hx4.bel.size; omega) ?_; intro g5 cap5 w5 hO5 hg5 ha5; have hx5 := Sx.app (A := []) hx4 hO5 hg5 ha5; simp only [List.nil_append] at hx5; clear hO5 hg5 ha5; generalize hM5 : M4 ++ A2.take m2 = M5 at hx5 ⊢; have HM5 : Hid (M4 ++ A2.take m2 = M5) := hM5; clear hM5))
      all_goals
        go_wp2_with fail
        go_ret
        have hfin : hullS S = M5 := by rw [HF2.out, ← HM5.out, ← HM4.out]
        rw [HS.out, hfin]
        exact ⟨g5, cap5, rfl, hx5.o0, hx5.bel⟩


theorem sHull_any (p : Option Addr) (cap : Nat) (L : List T2) (hn : L.length ≤ 1048576) (w : World) (hL : Sl w p L) :
    Calls Try.prog 11 #[.slice p L.length cap] w fun e w' => ∃ q cap', e = .returned (.slice (some ⟨q, 0, none⟩) (hulT L).length cap') ∧ Ow w' w.heap.size (.slice (some ⟨q, 0, none⟩) (hulT L).length cap') (hulT L) ∧ Below w.heap.size w w' := by
  cases hv : okS L
  · have e : hulT L = [] := by simp [hulT, hv]
    rw [e]
    go_enter Try.func11, Try.ntmps11
    go_wp2_with (go_at_call 29; refine (l5Spots_v hv _ _ _ hL hn).mono ?_; rintro e w1 ⟨rfl, hb2⟩)
    go_ret
    have hx := ((Sx.nil w).step hb2).new
    exact ⟨_, _, rfl, hx.o0, hx.bel⟩
  · have e : hulT L = hullS (srtT L) := by simp [hulT, hv]
    rw [e]
    go_enter Try.func11, Try.ntmps11
    go_wp2_with (first
      | (go_at_call 29; refine (l5Spots_v hv _ _ _ hL hn).mono ?_; rintro e w1 ⟨rfl, hb2⟩)
      | (go_at_call 32; refine (l5Hull_any p cap L hv _ (hL.step hb2)).mono ?_; rintro e w2 ⟨q, cap', rfl, hO, hb3⟩))
    go_ret
    have hx := ((Sx.nil w).step hb2).add hO hb3
    exact ⟨q, cap', rfl, hx.o0, hx.bel⟩
end Go.Proofs.Ytkpkigllabhejaa
