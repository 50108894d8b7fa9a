/-
  Are these right Items, is it a right Batch: the program's.
-/
import Derived.Test.YtppoafggiejdgaaGreatKIG4
namespace Go.Proofs.YtppoafggiejdgaaGreat.K.I
open Go.Shelf Go.RowKit Go.Joins
attribute [local go_sem] Oper.semAt_some

theorem itsB_eq {L : List Rc} {n : Nat} (hn : L.length = n) : itsB L = (decide (1 ≤ n) && (decide (n ≤ 6) && (L.all recB && oneB L))) := by unfold itsB; rw [hn]
set_option maxHeartbeats 1000000 in
theorem areIts_v {L : List Rc} {v : Bool} (hv : itsB L = v) (p : Option Addr) (cap n : Nat) (hn : L.length = n) (w : World) (hL : SlG kR w p L) (hb0 : n ≤ 10000000) :
    Calls Tryz.prog 80 #[.slice p n cap] w fun e w' => e = .returned (.bool v) ∧ Below w.heap.size w w' := by
  rw [itsB_eq hn] at hv
  have HA : Hid (∀ v, L.all recB = v → Calls Tryz.prog 87 #[.slice p n cap, .func (.func 88) #[] #[]] w fun e w' => e = .returned (.bool v) ∧ Below w.heap.size w w') := fun v h => are_any p cap L n hn w hL hb0 h
  by_cases h1 : 1 ≤ n
  · have h1' : (1 : Int) ≤ n := by omega
    rw [decide_eq_true h1, Bool.true_and] at hv
    by_cases h6 : n ≤ 6
    · have h6' : (n : Int) ≤ 6 := by omega
      rw [decide_eq_true h6, Bool.true_and] at hv
      have HS : Hid (∀ W, Below w.heap.size w W → Calls Tryz.prog 89 #[.slice p n cap, .func (.func 90) #[] #[]] W fun e w' => ∃ q cap' S, e = .returned (.slice (some ⟨q, 0, none⟩) n cap') ∧ riseB S = oneB L ∧ S.length = n ∧ Sg W w' [rG kR (.slice (some ⟨q, 0, none⟩) n cap') S]) := fun W hb => by
        refine (sorted_any p cap L n hn W (hL.step hb) (by omega)).mono ?_
        rintro e w' ⟨q, c, S, h1, h2, h3, h4⟩
        exact ⟨q, c, S, h1, rise_one h2 h3, by rw [h2.length_eq, hn], h4⟩
      clear hn hL
      cases ha : L.all recB
      · rw [ha, Bool.false_and] at hv
        subst hv
        go_enter Tryz.func80, Tryz.ntmps80
        go_wp2_with (go_at_call 87; refine (HA.out _ ha).mono ?_; rintro e w1 ⟨rfl, hb1⟩)
        go_ret
        exact ⟨rfl, hb1⟩
      · rw [ha, Bool.true_and] at hv
        go_enter Tryz.func80, Tryz.ntmps80
        go_wp2_with (first
          | (go_at_call 87; refine (HA.out _ ha).mono ?_; rintro e w1 ⟨rfl, hb1⟩)
          | (go_at_call 89; refine (HS.out _ hb1).mono ?_; rintro e w2 ⟨q, c, S, rfl, hr, hl, h2⟩)
          | (go_at_call 91; refine (rises_any (some ⟨q, 0, none⟩) c S n hl _ (OwG.sl (h2.mem (K := kR) (v := .slice (some ⟨q, 0, none⟩) n c) (L := S) (by simp))) (by omega) (hr.trans hv)).mono ?_; rintro e w3 ⟨rfl, hb3⟩))
        go_ret
        exact ⟨rfl, (bstep (bstep hb1 h2.bel (Nat.le_refl _)) hb3 (Nat.le_refl _))⟩
    · have h6' : ¬ (n : Int) ≤ 6 := by omega
      rw [decide_eq_false h6, Bool.false_and] at hv
      subst hv
      clear hn hL
      go_enter Tryz.func80, Tryz.ntmps80
      go_wp2
      go_ret
      exact ⟨rfl, Below.refl _ _⟩
  · have h1' : ¬ (1 : Int) ≤ n := by omega
    rw [decide_eq_false h1, Bool.false_and] at hv
    subst hv
    clear hn hL
    go_enter Tryz.func80, Tryz.ntmps80
    go_wp2
    go_ret
    exact ⟨rfl, Below.refl _ _⟩
/-- A Batch as a value. -/
abbrev batV (t s : Int) (p : Option Addr) (n c : Nat) : Value := .agg #[.int .i64 t, .int .i64 s, .slice p n c]
set_option maxHeartbeats 1000000 in
theorem iBat_v {t s : Int} {L : List Rc} {v : Bool} (hv : batB t s L = v) (p : Option Addr) (c n : Nat) (hn : L.length = n) (w : World) (hL : SlG kR w p L) (hb0 : n ≤ 10000000) :
    Calls Tryz.prog 62 #[batV t s p n c] w fun e w' => e = .returned (.bool v) ∧ Below w.heap.size w w' := by
  unfold batB at hv
  have hst := (St.nil w).push [.int .i64 t, .int .i64 s, .slice p n c] 96
  have HI : Hid (∀ W v, Below w.heap.size w W → itsB L = v → Calls Tryz.prog 80 #[.slice p n c] W fun e w' => e = .returned (.bool v) ∧ Below W.heap.size W w') := fun W v hb h => areIts_v h p c n hn W (hL.step hb) hb0
  clear hn hL
  cases h1 : rgB t 1 99
  · rw [h1, Bool.false_and, Bool.false_and] at hv
    subst hv
    go_enter Tryz.func62, Tryz.ntmps62
    go_wp2_with (go_at_call 76; refine (isTenant_v h1 _).mono ?_; rintro e w1 ⟨rfl, rfl⟩)
    go_ret
    exact ⟨rfl, hst.bel⟩
  cases h2 : rgB s 1 100000
  · rw [h2, Bool.and_false, Bool.false_and] at hv
    subst hv
    go_enter Tryz.func62, Tryz.ntmps62
    go_wp2_with (first | (go_at_call 76; refine (isTenant_v h1 _).mono ?_; rintro e w1 ⟨rfl, rfl⟩) | (go_at_call 77; refine (isId_v h2 _).mono ?_; rintro e w1 ⟨rfl, rfl⟩))
    go_ret
    exact ⟨rfl, hst.bel⟩
  rw [h1, h2, Bool.true_and, Bool.true_and] at hv
  go_enter Tryz.func62, Tryz.ntmps62
  go_wp2_with (first | (go_at_call 76; refine (isTenant_v h1 _).mono ?_; rintro e w1 ⟨rfl, rfl⟩) | (go_at_call 77; refine (isId_v h2 _).mono ?_; rintro e w1 ⟨rfl, rfl⟩) | (go_at_call 80; refine (HI.out _ _ hst.bel hv).mono ?_; rintro e w1 ⟨rfl, hb1⟩))
  go_ret
  exact ⟨rfl, (hst.step hb1).bel⟩
theorem sNum_v {t s : Int} {v : Bool} (hv : (rgB t 1 99 && rgB s 1 100000) = v) (w : World) : Calls Tryz.prog 35 #[.int .i64 t, .int .i64 s] w fun e w' => e = .returned (.bool v) ∧ w' = w := by
  cases h1 : rgB t 1 99
  · rw [h1, Bool.false_and] at hv
    subst hv
    go_enter Tryz.func35, Tryz.ntmps35
    go_wp2_with (go_at_call 33; refine (l1In_v h1 _).mono ?_; rintro e w1 ⟨rfl, rfl⟩)
    go_ret
    exact ⟨rfl, rfl⟩
  · rw [h1, Bool.true_and] at hv
    go_enter Tryz.func35, Tryz.ntmps35
    go_wp2_with (go_at_call 33; refine (l1In_v (by assumption) _).mono ?_; rintro e w1 ⟨rfl, rfl⟩)
    go_ret
    exact ⟨rfl, rfl⟩
end Go.Proofs.YtppoafggiejdgaaGreat.K.I
