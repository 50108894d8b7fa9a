/-
  The program's Hull.
-/
import Derived.Test.YtkpkigllabhejaaG3
import Derived.Test.YtkpkigllabhejaaK1
import Derived.Test.YtkpkigllabhejaaR1
import Derived.Test.YtkpkigllabhejaaCc
import Derived.Test.YtkpkigllabhejaaS2
import Derived.Test.YtkpkigllabhejaaS5
namespace Go.Proofs.Ytkpkigllabhejaa
open Go.RowKit Go.Joins
attribute [local go_sem ↓] Go.wp_at_zero Go.wp_at_succ

theorem leftTurns_v {L A : List T2} {n : Nat} (hnl : L.length = n) (hA : (halfR L).reverse = A) (h1 : 0 < A.length) (p : Option Addr) (cap : Nat) (hok : ∀ c ∈ L, c.ok = true) (hn : L.length ≤ 40) (w : World) (hL : Sl w p L) :
    Calls Try.prog 36 #[.slice p n cap] w fun e w' => ∃ q cap', e = .returned (.slice (some ⟨q, 0, none⟩) A.length cap') ∧ Ow w' w.heap.size (.slice (some ⟨q, 0, none⟩) A.length cap') A ∧ Below w.heap.size w w' := by
  subst hnl
  refine (leftTurns_any p cap L hok hn w hL).mono ?_
  rw [hA]
  rintro e w' ⟨q, cap', rfl, hO, hb⟩
  obtain ⟨g, rfl, _⟩ := Ow.some hO h1
  exact ⟨g, cap', rfl, hO, hb⟩
theorem compact_v {S R : List T2} (hR : cmpc S = R) (base g cap : Nat) (w : World) (hL : Ow w base (.slice (some ⟨g, 0, none⟩) S.length cap) S) (hn : S.length ≤ 1000000) (hn1 : 1 ≤ S.length) :
    Calls Try.prog 33 #[.slice (some ⟨g, 0, none⟩) S.length cap] w fun e w' => e = .returned (.slice (some ⟨g, 0, none⟩) R.length cap) ∧ Ow w' base (.slice (some ⟨g, 0, none⟩) R.length cap) R ∧ w.grownBy w' (some g) := by subst hR; exact compact_any base g cap S w hL hn hn1
theorem reverse_v {L R : List T2} (hR : L.reverse = R) (base g cap : Nat) (w : World) (hL : Ow w base (.slice (some ⟨g, 0, none⟩) L.length cap) L) (hn : L.length ≤ 10000000) (hn1 : 1 ≤ L.length) :
    Calls Try.prog 37 #[.slice (some ⟨g, 0, none⟩) L.length cap] w fun e w' => e = .returned (.tuple #[]) ∧ Ow w' base (.slice (some ⟨g, 0, none⟩) L.length cap) R ∧ w.grownBy w' (some g) := by subst hR; exact reverse_any base g cap L w hL hn hn1
theorem concat_v {LA LB M : List T2} {na nb : Nat} (hna : LA.length = na) (hnb : LB.length = nb) (hM : LA ++ LB = M) (gb ga oa ca gc oc cc : Nat) (w : World) (h0 : w.cell? ⟨gb, 0, none⟩ = some (.slice (some ⟨ga, oa, none⟩) na ca)) (h1 : w.cell? ⟨gb, 1, none⟩ = some (.slice (some ⟨gc, oc, none⟩) nb cc)) (hgb : gb < w.heap.size) (hA : Cs w ga oa LA) (hB : Cs w gc oc LB) (hla : 1 ≤ na) (hla2 : na ≤ 1000) (hlb : nb ≤ 1000) :
    Calls Try.prog 38 #[.slice (some ⟨gb, 0, none⟩) 2 2] w fun e w' => ∃ q cap', e = .returned (.slice (some ⟨q, 0, none⟩) M.length cap') ∧ Ow w' w.heap.size (.slice (some ⟨q, 0, none⟩) M.length cap') M ∧ Below w.heap.size w w' := by
  subst hna hnb hM
  exact concat_any gb ga oa ca gc oc cc LA LB w h0 h1 hgb hA hB hla hla2 hlb

set_option maxRecDepth 100000 in
set_option maxHeartbeats 800000 in
theorem iHull_ok {L R A B M : List T2} (g off cap : Nat) (w : World) (hC : Cs w g off L) (hv : okS L = true) (hl : 1 ≤ L.length) (hl2 : L.length ≤ 40) (hR : srtT L = R) (hR1 : 1 ≤ R.length) (hR2 : R.length ≤ 40) (hok : ∀ c ∈ R, c.ok = true)
    (hA : (halfR R).reverse = A) (hB : (halfR R.reverse).reverse = B) (ma mb : Nat) (h2 : ¬ R.length = 1 → Hid (A.length = ma + 1 ∧ B.length = mb + 1 ∧ 1 ≤ ma ∧ A.take ma ++ B.take mb = M)) (hone : R.length = 1 → Hid (M = R)) (hAl : A.length ≤ 40) (hBl : B.length ≤ 40) :
    Calls Try.prog 14 #[.slice (some ⟨g, off, none⟩) L.length cap] w fun e w' => ∃ q cap', e = .returned (.slice q M.length cap') ∧ Ow w' w.heap.size (.slice q M.length cap') M ∧ Below w.heap.size w w' := by
  have hl0 : ((L.length : Int) == 0) = false := beq_eq_false_iff_ne.mpr (by omega)
  by_cases h1 : R.length = 1
  · have hr1 : ((R.length : Int) == 1) = true := beq_iff_eq.mpr (by omega)
    have hM := hone h1
    clear h1 hone h2
    go_enter Try.func14, Try.ntmps14
    go_wp2_with (first
      | (go_at_call 26; refine (areRight_v hv _ _ _ (Or.inr ⟨g, off, rfl, hC⟩) (by omega)).mono ?_; rintro e w1 ⟨rfl, hb1⟩)
      | (go_at_call 34; refine (sorted_any g off cap L _ (hC.step hb1) (by omega)).mono ?_; rintro e w2 ⟨q, cap', S, rfl, hP, hS, hO, hb2⟩; have hSl : Hid (S.length = L.length) := hP.length_eq)
      | (go_at_call 33; refine (compact_v ((sort_cmpc hP hS).trans hR) _ q cap' _ hO (by have := hSl.out; omega) (by have := hSl.out; omega)).mono ?_; rintro e w3 ⟨rfl, hO3, hg3⟩))
    go_ret
    rw [hM.out]
    have hx := bstep hb1 hb2 (Nat.le_refl _)
    have hO4 := Ow.mono (b' := w.heap.size) hO3 hb1.size
    exact ⟨_, _, rfl, hO4, bel_grown hx hg3 (fun r hr => by injection hr with hr; subst hr; exact Nat.le_trans hb1.size (hO.lt _ rfl).1) (Nat.le_refl _)⟩
  have hr1 : ((R.length : Int) == 1) = false := beq_eq_false_iff_ne.mpr (by omega)
  obtain ⟨hA1, hB1, hma, hM⟩ := (h2 h1).out
  have HA : Hid (A.length = ma + 1) := hA1
  have HB : Hid (B.length = mb + 1) := hB1
  have HM : Hid (A.take ma ++ B.take mb = M) := hM
  have wA : IntKind.i64.wrap ((A.length : Int) - 1) = ma := by rw [IntKind.wrap_i64]; omega
  have wB : IntKind.i64.wrap ((B.length : Int) - 1) = mb := by rw [IntKind.wrap_i64]; omega
  have hA0 : 0 < A.length := by omega
  have hB0 : 0 < B.length := by omega
  have na0 : (0 : Int) ≤ (ma : Int) := by omega
  have nb0 : (0 : Int) ≤ (mb : Int) := by omega
  have hma2 : ma ≤ 40 := by omega
  have hmb2 : mb ≤ 40 := by omega
  have hrok : ∀ c ∈ R.reverse, c.ok = true := fun c hc => hok c (List.mem_reverse.mp hc)
  obtain ⟨R', hR'⟩ : ∃ R', R.reverse = R' := ⟨_, rfl⟩
  have HRl : Hid (R'.length = R.length) := by unfold Hid; rw [← hR']; simp
  rw [hR'] at hrok hB
  clear h1 hone h2 hA1 hB1 hM
  have mk1 : True := trivial
  go_enter Try.func14, Try.ntmps14
  go_upto_region 9 with (first
      | (go_at_call 26; refine (areRight_v hv _ _ _ (Or.inr ⟨g, off, rfl, hC⟩) (by omega)).mono ?_; rintro e w1 ⟨rfl, hb1⟩)
      | (go_at_call 34; refine (sorted_any g off cap L _ (hC.step hb1) (by omega)).mono ?_; rintro e w2 ⟨q, cap', S, rfl, hP, hS, hO, hb2⟩; have hSl : Hid (S.length = L.length) := hP.length_eq)
      | (go_at_call 33; refine (compact_v ((sort_cmpc hP hS).trans hR) _ q cap' _ hO (by have := hSl.out; omega) (by have := hSl.out; omega)).mono ?_; rintro e w3 ⟨rfl, hO3, hg3⟩; have hx : Sx w w3 [(.slice (some ⟨q, 0, none⟩) R.length cap', R)] := Sx.app (A := []) (((Sx.nil w).step hb1).add hO hb2) (Ow.mono hO3 hb1.size) hg3 (.inl rfl))
      | (go_at_call 36; clear mk1; refine (leftTurns_v (n := R.length) rfl hA hA0 _ _ hok hR2 _ (Or.inr ⟨_, _, rfl, Ow.cs hx.o0⟩)).mono ?_; rintro e w4 ⟨qa, capA, rfl, hO4, hb4⟩; replace hx := hx.add hO4 hb4)
      | (go_at_call 37; refine (reverse_v hR' _ q cap' _ hx.o1 (by omega) hR1).mono ?_; rintro e w5 ⟨rfl, hO5, hg5⟩; replace hx := hx.put (A := [_]) hO5 hg5)
      | (go_at_call 36; refine (leftTurns_v (n := R.length) HRl.out hB hB0 _ _ hrok (by have := HRl.out; omega) _ (Or.inr ⟨_, _, rfl, Ow.cs hx.o1⟩)).mono ?_; rintro e w6 ⟨qb, capB, rfl, hO6, hb6⟩; replace hx := hx.add hO6 hb6))
  have hAc : A.length ≤ capA := by obtain ⟨_, _, _, _, h⟩ := Ow.some (M := A) hx.o1 hA0; exact h
  have hBc : B.length ≤ capB := by obtain ⟨_, _, _, _, h⟩ := Ow.some (M := B) hx.o0 hB0; exact h
  have ma1 : ma ≤ capA := by have := HA.out; omega
  have mb1 : mb ≤ capB := by have := HB.out; omega
  have ma2 : (ma : Int) ≤ (capA : Int) := by omega
  have mb2 : (mb : Int) ≤ (capB : Int) := by omega
  have hna : Hid ((A.take ma).length = ma) := by unfold Hid; rw [List.length_take]; have := HA.out; omega
  have hnb : Hid ((B.take mb).length = mb) := by unfold Hid; rw [List.length_take]; have := HB.out; omega
  have hcA : Cs w6 qa 0 (A.take ma) := cs_take (Ow.cs hx.o1) ma
  have hcB : Cs w6 qb 0 (B.take mb) := cs_take (Ow.cs hx.o0) mb
  have hbx := hx.bel
  clear hx hO hO3 hO4 hO5 hO6 hb1 hb2 hb4 hb6 hg3 hg5 hP hS hSl hAc hBc HRl hR' hok hrok hA hB hR hv hC
  have hst : Below w6.heap.size w6 w6 := Below.refl _ _
  go_region_held3 (fun w' => Below w6.heap.size w6 w') (first | exact ‹Below w6.heap.size w6 _› | exact bstep ‹Below w6.heap.size w6 _› hb7 (Nat.le_refl _) | exact (‹Below w6.heap.size w6 _›).alloc (‹Below w6.heap.size w6 _›).size _ | exact hst.drew | fail)
    (first | (go_at_call 38; refine (concat_v hna.out hnb.out HM.out _ qa 0 capA qb 0 capB _ ?_ ?_ ?_ ?_ ?_ hma (by omega) (by omega)).mono ?_; (focus (simp [go_sem]; done)); (focus (simp [go_sem]; done)); (focus (simp; done)); (focus exact hcA.step (by assumption)); (focus exact hcB.step (by assumption)); rintro e w7 ⟨qc, capC, rfl, hO7, hb7⟩))
  go_wp2
  go_ret
  exact ⟨_, _, rfl, Ow.mono hO7 (Nat.le_trans hbx.size (below_alloc1 w6 _).size), bstep hbx ‹Below w6.heap.size w6 w7› (Nat.le_refl _)⟩

set_option maxHeartbeats 800000 in
theorem iHull_any (p : Option Addr) (cap : Nat) (L : List T2) (hn : L.length ≤ 1048576) (w : World) (hL : Sl w p L) :
    Calls Try.prog 14 #[.slice p L.length cap] w fun e w' => ∃ q cap', e = .returned (.slice q (hulT L).length cap') ∧ Ow w' w.heap.size (.slice q (hulT L).length cap') (hulT L) ∧ Below w.heap.size w w' := by
  rcases Nat.eq_zero_or_pos L.length with h0 | h0
  · obtain rfl := List.eq_nil_of_length_eq_zero h0
    have e : hulT [] = [] := List.eq_nil_of_length_eq_zero (hul_nil.mpr (.inr rfl))
    rw [e]
    change Calls Try.prog 14 #[.slice p 0 cap] w _
    go_enter Try.func14, Try.ntmps14
    go_wp2
    go_ret
    exact ⟨none, 0, rfl, Ow.nil _ _, Below.refl _ _⟩
  cases hv : okS L
  · have e : hulT L = [] := by simp [hulT, hv]
    rw [e]
    have hl0 : ((L.length : Int) == 0) = false := beq_eq_false_iff_ne.mpr (by omega)
    go_enter Try.func14, Try.ntmps14
    go_wp2_with (go_at_call 26; refine (areRight_v hv _ _ _ hL hn).mono ?_; rintro e w1 ⟨rfl, hb1⟩)
    go_ret
    exact ⟨none, 0, rfl, Ow.nil _ _, hb1⟩
  · have e : hulT L = hullS (srtT L) := by simp [hulT, hv]
    obtain ⟨g, off, rfl, hC⟩ := hL.at h0
    have hris := okS_ris hv
    have hl2 := okS_len hv
    have hsl := srt_len L
    have hok : ∀ c ∈ srtT L, c.ok = true := fun c hc => okS_all hv c ((srt_mem L).mp hc)
    have h1 : 1 ≤ (srtT L).length := by
      have : L[0] ∈ srtT L := (srt_mem L).mpr (List.getElem_mem h0)
      exact List.length_pos_of_mem this
    have ha := half_len (srtT L)
    have hb := half_len (srtT L).reverse
    rw [List.length_reverse] at hb
    refine iHull_ok (R := srtT L) (A := (halfR (srtT L)).reverse) (B := (halfR (srtT L).reverse).reverse) (M := hulT L) g off cap w hC hv (by omega) hl2 rfl h1 (by omega) hok rfl rfl ((halfR (srtT L)).reverse.length - 1) ((halfR (srtT L).reverse).reverse.length - 1) (fun h2 => ?_) (fun h2 => ?_) (by rw [List.length_reverse]; omega) (by rw [List.length_reverse]; omega)
    · obtain ⟨z, a, r, e1, _⟩ := half_two hris (by omega)
      obtain ⟨z', a', r', f1, _⟩ := half_two (ris_rev hris) (by simp; omega)
      have l1 : 2 ≤ (halfR (srtT L)).reverse.length := by rw [List.length_reverse, e1]; simp
      have l2 : 2 ≤ (halfR (srtT L).reverse).reverse.length := by rw [List.length_reverse, f1]; simp
      refine ⟨by omega, by omega, by omega, ?_⟩
      rw [tail_take _ (by omega), tail_take _ (by omega), e]
      unfold hullS
      rw [if_neg (by omega)]
    · unfold Hid
      rw [e]; unfold hullS
      rw [if_pos (by omega)]
end Go.Proofs.Ytkpkigllabhejaa
