/-
  The law of Common, walked: the program's list is the spec's, it is new memory, the lists that were handed in read as before, and a second call answers as the first.
-/
import Derived.Test.YthmpemamagjeeaaV3
namespace Go.Proofs.Ythmpemamagjeeaa
open Go.RowKit Go.Joins
attribute [local go_sem ↓] Go.wp_at_zero Go.wp_at_succ

theorem comS_len (L K : List T3) : (comS L K).length ≤ 65536 := by
  unfold comS
  split
  · exact dec_len _ 8 _
  · simp
theorem iCommon_v {L K M : List T3} (h : comS L K = M) (p q : Option Addr) (cap cap2 : Nat) (w : World) (hL : Sl w p L) (hp : Pl p) (hn : L.length ≤ 1048576) (hK : Sl w q K) (hq : Pl q) (hk : K.length ≤ 1048576) :
    Calls Try.prog 34 #[.slice p L.length cap, .slice q K.length cap2] w fun e w' => ∃ r cap', e = .returned (.slice r M.length cap') ∧ Ow w' w.heap.size (.slice r M.length cap') M ∧ Below w.heap.size w w' := by
  subst h
  exact (iCommon_any p q cap cap2 L K w hL hp hn hK hq hk).mono fun _ _ ⟨v', h1, h2, h3⟩ => by
    obtain ⟨r, cap', rfl, _⟩ := Ow.form h2
    exact ⟨r, cap', h1, h2, h3⟩
theorem sCommon_v {L K M : List T3} (h : comS L K = M) (p q : Option Addr) (cap cap2 : Nat) (w : World) (hL : Sl w p L) (hn : L.length ≤ 1048576) (hK : Sl w q K) (hk : K.length ≤ 1048576) :
    Calls Try.prog 35 #[.slice p L.length cap, .slice q K.length cap2] w fun e w' => ∃ r cap', e = .returned (.slice r M.length cap') ∧ Ow w' w.heap.size (.slice r M.length cap') M ∧ Below w.heap.size w w' := by
  subst h
  exact (sCommon_any p q cap cap2 L K w hL hn hK hk).mono fun _ _ ⟨v', h1, h2, h3⟩ => by
    obtain ⟨r, cap', rfl, _⟩ := Ow.form h2
    exact ⟨r, cap', h1, h2, h3⟩

set_option maxRecDepth 100000 in
set_option maxHeartbeats 8000000 in
theorem exactCommon (p : Option Addr) (cap : Nat) (L : List T3) (q : Option Addr) (cap2 : Nat) (K : List T3) (w : World) (hL : Sl w p L) (hm : L.length ≤ maxLen) (hK : Sl w q K) (hm2 : K.length ≤ maxLen) :
    Calls Try.prog 10 #[.slice p L.length cap, .slice q K.length cap2] w fun e w' => e = .returned (.bool true) ∧ Below w.heap.size w w' := by
  by_cases hn : L.length ≤ 1048576
  · have hni : (L.length : Int) ≤ 1048576 := by omega
    by_cases hk : K.length ≤ 1048576 - L.length
    · have hki : (K.length : Int) ≤ 1048576 - L.length := by omega
      have hk' : K.length ≤ 1048576 := by omega
      generalize hv : comS L K = M
      have hM : M.length ≤ 65536 := by rw [← hv]; exact comS_len L K
      have hMi : (0 : Int) ≤ 1 + 3 * M.length := by omega
      have hLi : (0 : Int) ≤ 1 + 3 * L.length + 3 * K.length := by omega
      have hx := Sx.nil w
      go_enter Try.func10, Try.ntmps10
      go_upto_region 5 with (go_at_call 40; refine (szCellS_ok _ _ _ _ _ hni (by omega)).mono ?_; rintro e w1 ⟨rfl, rfl⟩)
      go_upto_region 8 with (go_at_call 40; refine (szCellS_ok _ _ _ _ _ hki (by omega)).mono ?_; rintro e w1 ⟨rfl, rfl⟩)
      go_upto_region 9 with (first
        | (have hO1 := hO; clear hO; go_at_call 41; refine (toCellS_g q cap2 K _ (hK.step hx.bel) hk').mono ?_; rintro e w1 ⟨p2, cap2', rfl, hO2, hb2⟩; replace hx := hx.add hO2 hb2)
        | (go_at_call 41; refine (toCellS_g p cap L _ (hL.step hx.bel) hn).mono ?_; rintro e w1 ⟨p1, cap1, rfl, hO, hb2⟩; replace hx := hx.add hO hb2)
        | (go_at_call 35; refine (sCommon_v hv _ _ _ _ _ (Ow.sl hx.o1) hn (Ow.sl hx.o0) hk').mono ?_; rintro e w1 ⟨p0, cap0, rfl, hO3, hb2⟩; replace hx := (hx.add hO3 hb2).d1.d1))
      clear hO1 hO2 hO3
      go_upto_region 10 with (go_at_call 41; refine (toCellS_g p cap L _ (hL.step hx.bel) hn).mono ?_; rintro e w1 ⟨p3, cap3, rfl, hO4, hb2⟩; replace hx := hx.add hO4 hb2)
      go_upto_region 14 with (first
        | (go_at_call 41; refine (toCellS_g q cap2 K _ (hK.step hx.bel) hk').mono ?_; rintro e w1 ⟨p4, cap4, rfl, hO5, hb2⟩; replace hx := hx.add hO5 hb2)
        | (go_at_call 34; refine (iCommon_v hv _ _ _ _ _ (Ow.sl hx.o1) (Ow.pl hx.o1) hn (Ow.sl hx.o0) (Ow.pl hx.o0) hk').mono ?_; rintro e w1 ⟨p5, cap5, rfl, hO6, hb2⟩; replace hx := hx.add hO6 hb2)
        | (go_at_call 37; refine (eqCellS_same _ _ _ _ M _ (Ow.sl hx.o0) (Ow.sl hx.o3) (by omega)).mono ?_; rintro e w1 ⟨rfl, hb2⟩; replace hx := hx.step hb2))
      clear hO4 hO5 hO6
      go_upto_region 16 with (first
        | (go_at_call 41; refine (toCellS_g p cap L _ (hL.step hx.bel) hn).mono ?_; rintro e w1 ⟨p6, cap6, rfl, hO7, hb2⟩; replace hx := hx.add hO7 hb2)
        | (go_at_call 37; refine (eqCellS_same _ _ _ _ L _ (Ow.sl hx.o3) (Ow.sl hx.o0) (by omega)).mono ?_; rintro e w1 ⟨rfl, hb2⟩; replace hx := (hx.step hb2).d0))
      go_upto_region 18 with (first
        | (go_at_call 41; refine (toCellS_g q cap2 K _ (hK.step hx.bel) hk').mono ?_; rintro e w1 ⟨p7, cap7, rfl, hO8, hb2⟩; replace hx := hx.add hO8 hb2)
        | (go_at_call 37; refine (eqCellS_same _ _ _ _ K _ (Ow.sl hx.o2) (Ow.sl hx.o0) (by omega)).mono ?_; rintro e w1 ⟨rfl, hb2⟩; replace hx := (hx.step hb2).d0))
      clear hO7 hO8
      go_upto_region 20 with (go_at_call 38; refine (markCellS_x _ _ _ L _ hx.o2 (by omega)).mono ?_; rintro e w1 ⟨rfl, hO2, hg2⟩; replace hx := hx.put (A := [_, _]) hO2 hg2; simp only [List.cons_append, List.nil_append] at hx)
      go_upto_region 23 with (first
        | (go_at_call 38; refine (markCellS_any _ _ _ (1 + 3 * L.length) K _ hx.o1 (by omega) (by omega) (by omega)).mono ?_; rintro e w1 ⟨rfl, hO3, hg3⟩; replace hx := hx.put (A := [_]) hO3 hg3; simp only [List.cons_append, List.nil_append] at hx)
        | (go_at_call 37; refine (eqCellS_same _ _ _ _ M _ (Ow.sl hx.o0) (Ow.sl hx.o3) (by omega)).mono ?_; rintro e w1 ⟨rfl, hb2⟩; replace hx := hx.step hb2))
      clear hO2 hg2 hO3 hg3
      go_upto_region 31 with (first
        | (go_at_call 38; refine (markCellS_x _ _ _ M _ hx.o0 (by omega)).mono ?_; rintro e w1 ⟨rfl, hO2, hg2⟩; replace hx := hx.put (A := []) hO2 hg2; simp only [List.nil_append] at hx)
        | (go_at_call 39; refine (heldCellS_any _ _ 1 M.length _ (Ow.sl hx.o0) (by omega) (by decide) (by decide)).mono ?_; rintro e w1 ⟨rfl, rfl⟩))
      clear hO2 hg2
      go_wp2_with (first
        | (have hO1 := hO; clear hO; go_at_call 41; refine (toCellS_g q cap2 K _ (hK.step hx.bel) hk').mono ?_; rintro e w1 ⟨p8, cap8, rfl, hO2, hb2⟩; replace hx := hx.add hO2 hb2)
        | (go_at_call 41; refine (toCellS_g p cap L _ (hL.step hx.bel) hn).mono ?_; rintro e w1 ⟨p9, cap9, rfl, hO, hb2⟩; replace hx := hx.add hO hb2)
        | (go_at_call 34; refine (iCommon_v hv _ _ _ _ _ (Ow.sl hx.o1) (Ow.pl hx.o1) hn (Ow.sl hx.o0) (Ow.pl hx.o0) hk').mono ?_; rintro e w1 ⟨pa, capa, rfl, hO6, hb2⟩; replace hx := (hx.add hO6 hb2).d1.d1)
        | (go_at_call 37; refine (eqCellS_same _ _ _ _ M _ (Ow.sl hx.o0) (Ow.sl hx.o4) (by omega)).mono ?_; rintro e w1 ⟨rfl, hb2⟩; replace hx := hx.step hb2)
        | (go_at_call 39; refine (heldCellS_any _ _ 1 M.length _ (Ow.sl hx.o1) (by omega) (by decide) (by decide)).mono ?_; rintro e w1 ⟨rfl, rfl⟩))
      go_ret
      exact ⟨rfl, hx.bel⟩
    · have hki : (1048576 : Int) - L.length < K.length := by omega
      go_enter Try.func10, Try.ntmps10
      go_upto_region 5 with (go_at_call 40; refine (szCellS_ok _ _ _ _ _ hni (by omega)).mono ?_; rintro e w1 ⟨rfl, rfl⟩)
      go_wp2_with (go_at_call 40; refine (szCellS_no _ _ _ _ _ hki (by omega) hm2).mono ?_; rintro e w1 ⟨rfl, rfl⟩)
      go_ret
      exact ⟨rfl, Below.refl _ _⟩
  · have hni : (1048576 : Int) < L.length := by omega
    go_enter Try.func10, Try.ntmps10
    go_wp2_with (go_at_call 40; refine (szCellS_no _ _ _ _ _ hni (by omega) hm).mono ?_; rintro e w1 ⟨rfl, rfl⟩)
    go_ret
    exact ⟨rfl, Below.refl _ _⟩
end Go.Proofs.Ythmpemamagjeeaa
