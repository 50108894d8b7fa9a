/-
  Is it a hull: the program's look and the spec's.
-/
import Derived.Test.YtkpkigllabhejaaQ0
import Derived.Test.YtkpkigllabhejaaH2
namespace Go.Proofs.Ytkpkigllabhejaa
open Go.RowKit Go.Joins
attribute [local go_sem ↓] Go.wp_at_zero Go.wp_at_succ

set_option maxRecDepth 100000 in
set_option maxHeartbeats 1000000 in
theorem equal_any (p q : Option Addr) (cap cap' : Nat) (A B : List T2) (w : World) (hA : Sl w p A) (hB : Sl w q B) (hna : A.length ≤ 10000000) (hnb : B.length ≤ 10000000) :
    Calls Try.prog 59 #[.slice p A.length cap, .slice q B.length cap'] w fun e w' => e = .returned (.bool (eqL A B)) ∧ Below w.heap.size w w' := by
  by_cases hl : A.length = B.length
  · have hli : ((A.length : Int) != (B.length : Int)) = false := by simp [hl]
    have HL : Hid (A.length = B.length) := hl
    clear hl
    go_enter Try.func59, Try.ntmps59
    go_wp2
    go_loopw [13] (fun i wr => ∃ k : Nat, k ≤ A.length ∧ i = .int .i64 k ∧ Hid (A.take k = B.take k) ∧ Below w.heap.size w wr) (fun i _ => A.length - (intOf i).toNat)
    case atStart => exact ⟨0, by omega, rfl, by simp [Hid], Below.refl _ _⟩
    case round =>
      obtain ⟨k, hk, rfl, hT, hb⟩ := hrel
      by_cases hlt : k < A.length
      · have hki : (k : Int) < A.length := by omega
        have hk0 : (0 : Int) ≤ (k : Int) := by omega
        have hltB : k < B.length := by have := HL.out; omega
        have hkb : (k : Int) < B.length := by omega
        obtain ⟨g1, o1, rfl, hC1⟩ := hA.at hlt
        obtain ⟨g2, o2, rfl, hC2⟩ := hB.at hltB
        obtain ⟨a, ha⟩ : ∃ a, A[k]? = some a := ⟨_, List.getElem?_eq_getElem hlt⟩
        obtain ⟨b, hb'⟩ : ∃ b, B[k]? = some b := ⟨_, List.getElem?_eq_getElem hltB⟩
        obtain ⟨a0, a1⟩ := (hC1.step hb).2 k a ha
        obtain ⟨b0, b1⟩ := (hC2.step hb).2 k b hb'
        have hql := fun W => run_neqT a b W
        cases heq : eqB a b
        · rw [heq] at hql
          have hno : Hid (eqL A B = false) := by
            refine Bool.eq_false_iff.mpr fun h => ?_
            have h := eqL_t.mp h
            subst h
            rw [ha] at hb'
            cases hb'
            have : eqB a a = true := eqB_t.mpr rfl
            rw [this] at heq; cases heq
          go_wp2_with fail
          go_quiet (fail)
          go_wp2_with fail
          go_ret
          rw [hno.out]
          exact ⟨rfl, bdrewN hb _⟩
        · rw [heq] at hql
          have hab := eqB_t.mp heq
          have HT2 : Hid (A.take (k + 1) = B.take (k + 1)) := by unfold Hid; rw [take_snoc ha, take_snoc hb', hT.out, hab]
          clear hab
          go_wp2_with fail
          go_quiet (fail)
          go_wp2_with fail
          go_roundw
          case rel => exact ⟨k + 1, by omega, by go_num, HT2, bdrewN hb _⟩
          case measure => simp [intOf]; omega
      · have hki : ¬ (k : Int) < A.length := by omega
        have hyes : Hid (eqL A B = true) := by
          refine eqL_t.mpr ?_
          have h := hT.out
          have := HL.out
          rwa [List.take_of_length_le (by omega), List.take_of_length_le (by omega)] at h
        go_wp2
        go_ret
        rw [hyes.out]
        exact ⟨rfl, hb⟩
  · have hli : ((A.length : Int) != (B.length : Int)) = true := bne_iff_ne.mpr (by omega)
    have hno : Hid (eqL A B = false) := Bool.eq_false_iff.mpr fun h => hl (by rw [eqL_t.mp h])
    clear hl
    go_enter Try.func59, Try.ntmps59
    go_wp2
    go_ret
    rw [hno.out]
    exact ⟨rfl, Below.refl _ _⟩

/-- The program's look. -/
theorem iHullOk_any (p : Option Addr) (cap : Nat) (L : List T2) (w : World) (hL : Sl w p L) (hn : L.length ≤ 1048576) :
    Calls Try.prog 44 #[.slice p L.length cap] w fun e w' => e = .returned (.bool (eqL (hulT L) L)) ∧ Below w.heap.size w w' := by
  have hl := hul_len L
  generalize hM : hulT L = M at hl
  have hx := Sx.nil w
  go_enter Try.func44, Try.ntmps44
  go_wp2_with (first
    | (go_at_call 14; refine (iHull_v hM _ _ hn _ hL).mono ?_; rintro e w1 ⟨q, cap', rfl, hO, hb⟩; replace hx := hx.add hO hb)
    | (go_at_call 59; refine (equal_any _ _ _ _ M L _ (Ow.sl hx.o0) (hL.step hx.bel) (by omega) (by omega)).mono ?_; rintro e w2 ⟨rfl, hb2⟩))
  go_ret
  exact ⟨rfl, bstep hx.bel hb2 (Nat.le_refl _)⟩

set_option maxRecDepth 100000 in
set_option maxHeartbeats 2000000 in
theorem sHullOk_any (p : Option Addr) (cap : Nat) (L : List T2) (w : World) (hL : Sl w p L) (hn : L.length ≤ 1048576) :
    Calls Try.prog 40 #[.slice p L.length cap] w fun e w' => e = .returned (.bool (okH L)) ∧ Below w.heap.size w w' := by
  cases hv : okS L
  · have e : okH L = false := by simp [okH, hv]
    rw [e]
    go_enter Try.func40, Try.ntmps40
    go_wp2_with (go_at_call 29; refine (l5Spots_v hv _ _ _ hL hn).mono ?_; rintro e w1 ⟨rfl, hb2⟩)
    go_ret
    exact ⟨rfl, hb2⟩
  rcases Nat.eq_zero_or_pos L.length with h0 | h0
  · obtain rfl := List.eq_nil_of_length_eq_zero h0
    have e : okH [] = false := by simp [okH]
    rw [e]
    have hL0 := hL
    change Calls Try.prog 40 #[.slice p 0 cap] w _
    go_enter Try.func40, Try.ntmps40
    go_wp2_with (go_at_call 29; refine (l5Spots_v (L := []) hv _ _ _ hL0 hn).mono ?_; rintro e w1 ⟨rfl, hb2⟩)
    go_ret
    exact ⟨rfl, hb2⟩
  have hl0 : ((L.length : Int) == 0) = false := beq_eq_false_iff_ne.mpr (by omega)
  have e : okH L = eqL (hulT L) L := by simp [okH, hv, h0]
  have e2 : hulT L = hullS (srtT L) := by simp [hulT, hv]
  have hHl := hul_len L
  rw [e]
  rw [e2] at hHl ⊢
  generalize hM : hullS (srtT L) = M at hHl
  clear e e2
  have hn40 := okS_len hv
  obtain ⟨g2, o2, rfl, hC2⟩ := hL.at h0
  go_enter Try.func40, Try.ntmps40
  go_wp2_with (first
    | (go_at_call 29; refine (l5Spots_v hv _ _ _ hL hn).mono ?_; rintro e w1 ⟨rfl, hb2⟩)
    | (go_at_call 32; refine (l5Hull_any _ cap L hv _ (hL.step hb2)).mono ?_; rw [hM]; rintro e w2 ⟨q, cap', rfl, hO, hb3⟩))
  have hx := ((Sx.nil w).step hb2).add hO hb3
  clear hO hb2 hb3 hM
  have hCq := Ow.cs hx.o0
  have hbw := hx.bel
  clear hx
  go_loopw [4] (fun i wr => ∃ k : Nat, k ≤ M.length ∧ k ≤ L.length ∧ i = .int .i64 k ∧ Hid (M.take k = L.take k) ∧ Below w.heap.size w wr ∧ Below w2.heap.size w2 wr) (fun i _ => M.length - (intOf i).toNat)
  case atStart => exact ⟨0, by omega, by omega, rfl, by simp [Hid], hbw, Below.refl _ _⟩
  case round =>
    obtain ⟨k, hkM, hkL, rfl, hT, hb, hb2⟩ := hrel
    have hk0 : (0 : Int) ≤ (k : Int) := by omega
    by_cases hlt : k < M.length
    · have hki : (k : Int) < M.length := by omega
      by_cases hlt2 : k < L.length
      · have hki2 : (k : Int) < L.length := by omega
        obtain ⟨a, ha⟩ : ∃ a, M[k]? = some a := ⟨_, List.getElem?_eq_getElem hlt⟩
        obtain ⟨b, hb'⟩ : ∃ b, L[k]? = some b := ⟨_, List.getElem?_eq_getElem hlt2⟩
        obtain ⟨a0, a1⟩ := (hCq.step hb2).2 k a ha
        obtain ⟨b0, b1⟩ := (hC2.step hb).2 k b hb'
        simp only [Nat.zero_add] at a0 a1
        have hql := fun W => run_neqT a b W
        cases heq : eqB a b
        · rw [heq] at hql
          have hno : Hid (eqL M L = false) := by
            refine Bool.eq_false_iff.mpr fun h => ?_
            have h := eqL_t.mp h
            subst h
            rw [ha] at hb'
            cases hb'
            have : eqB a a = true := eqB_t.mpr rfl
            rw [this] at heq; cases heq
          go_wp2_with fail
          go_quiet (fail)
          go_wp2_with fail
          go_ret
          rw [hno.out]
          exact ⟨rfl, bdrewN hb _⟩
        · rw [heq] at hql
          have hab := eqB_t.mp heq
          have HT2 : Hid (M.take (k + 1) = L.take (k + 1)) := by unfold Hid; rw [take_snoc ha, take_snoc hb', hT.out, hab]
          clear hab
          go_wp2_with fail
          go_quiet (fail)
          go_wp2_with fail
          go_roundw
          case rel => exact ⟨k + 1, by omega, by omega, by go_num, HT2, bdrewN hb _, bdrewN hb2 _⟩
          case measure => simp [intOf]; omega
      · have hki2 : ¬ (k : Int) < L.length := by omega
        have hne : Hid (¬ M.length = L.length) := by unfold Hid; omega
        have hnb : ((M.length : Int) == (L.length : Int)) = false := beq_eq_false_iff_ne.mpr (by omega)
        have hno : Hid (eqL M L = false) := Bool.eq_false_iff.mpr fun h => hne.out (by rw [eqL_t.mp h])
        go_wp2
        go_ret
        rw [hno.out]
        exact ⟨ret_bool (by first | exact hnb | rfl), hb⟩
    · have hki : ¬ (k : Int) < M.length := by omega
      by_cases hl : M.length = L.length
      · have hyes : Hid (eqL M L = true) := by
          refine eqL_t.mpr ?_
          have h := hT.out
          rwa [List.take_of_length_le (by omega), List.take_of_length_le (by omega)] at h
        have hnb : ((M.length : Int) == (L.length : Int)) = true := beq_iff_eq.mpr (by omega)
        clear hl
        go_wp2
        go_ret
        rw [hyes.out]
        exact ⟨ret_bool (by first | exact hnb | rfl), hb⟩
      · have hno : Hid (eqL M L = false) := Bool.eq_false_iff.mpr fun h => hl (by rw [eqL_t.mp h])
        have hnb : ((M.length : Int) == (L.length : Int)) = false := beq_eq_false_iff_ne.mpr (by omega)
        clear hl
        go_wp2
        go_ret
        rw [hno.out]
        exact ⟨ret_bool (by first | exact hnb | rfl), hb⟩
end Go.Proofs.Ytkpkigllabhejaa
