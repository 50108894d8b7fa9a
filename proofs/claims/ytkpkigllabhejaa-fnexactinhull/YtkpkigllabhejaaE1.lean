/-
  Spots that are right; Extreme: the program's and the spec's.
-/
import Derived.Test.YtkpkigllabhejaaHM
import Derived.Test.YtkpkigllabhejaaA3
import Derived.Deep.CutBlock
import Derived.Deep.QuietTactic
import Derived.BigQuiet
namespace Go.Proofs.Ytkpkigllabhejaa
open Go.RowKit Go.Joins
attribute [local go_sem ↓] Go.wp_at_zero Go.wp_at_succ

def okS (L : List T2) : Bool := decide (L.length ≤ 40) && L.all T2.ok
theorem okS_len {L : List T2} (h : okS L = true) : L.length ≤ 40 := of_decide_eq_true ((Bool.and_eq_true _ _).mp h).1
theorem okS_all {L : List T2} (h : okS L = true) : ∀ c ∈ L, c.ok = true := List.all_eq_true.mp ((Bool.and_eq_true _ _).mp h).2
theorem okS_no {L : List T2} (h : ¬ L.length ≤ 40) : okS L = false := by unfold okS; rw [decide_eq_false h]; rfl

set_option maxHeartbeats 1000000 in
theorem areRight_any (p : Option Addr) (cap : Nat) (L : List T2) (w : World) (hL : Sl w p L) (hn : L.length ≤ 1048576) :
    Calls Try.prog 26 #[.slice p L.length cap] w fun e w' => e = .returned (.bool (okS L)) ∧ Below w.heap.size w w' := by
  by_cases h40 : L.length ≤ 40
  · have hi : ¬ (40 : Int) < L.length := by omega
    go_enter Try.func26, Try.ntmps26
    go_wp2
    go_loopw [10] (fun i wr => ∃ k : Nat, k ≤ L.length ∧ i = .int .i64 k ∧ (L.take k).all T2.ok = true ∧ Below w.heap.size w wr) (fun i _ => L.length - (intOf i).toNat)
    case atStart => exact ⟨0, by omega, rfl, rfl, Below.refl _ _⟩
    case round =>
      obtain ⟨k, hk, rfl, hall, hb⟩ := hrel
      by_cases hlt : k < L.length
      · have hki : (k : Int) < L.length := by omega
        obtain ⟨g, off, rfl, hC⟩ := (hL.step hb).at hlt
        obtain ⟨c0, c1⟩ := hC.2 k L[k] (List.getElem?_eq_getElem hlt)
        cases hv : T2.ok L[k]
        · go_wp2_with (go_at_call 51; refine (spRight_v hv _).mono ?_; rintro e w1 ⟨rfl, hb2⟩)
          go_ret
          exact ⟨ret_bool (by rw [okS, all_no hlt hv, Bool.and_false]), bstepA hb hb2 (Nat.le_refl _)⟩
        · go_wp2_with (go_at_call 51; refine (spRight_v hv _).mono ?_; rintro e w1 ⟨rfl, hb2⟩)
          go_roundw
          case rel => exact ⟨k + 1, by omega, by go_num, by rw [all_take hlt, hall, hv]; rfl, bstepA hb hb2 (Nat.le_refl _)⟩
          case measure => simp [intOf]; omega
      · obtain rfl : k = L.length := by omega
        go_wp2
        go_ret
        rw [List.take_length] at hall
        exact ⟨ret_bool (by rw [okS, hall, decide_eq_true h40]; rfl), hb⟩
  · have hi : (40 : Int) < L.length := by omega
    go_enter Try.func26, Try.ntmps26
    go_wp2
    go_ret
    exact ⟨ret_bool (by rw [okS_no h40]), Below.refl _ _⟩
theorem areRight_v {L : List T2} {v : Bool} (hv : okS L = v) (p : Option Addr) (cap : Nat) (w : World) (hL : Sl w p L) (hn : L.length ≤ 1048576) :
    Calls Try.prog 26 #[.slice p L.length cap] w fun e w' => e = .returned (.bool v) ∧ Below w.heap.size w w' := by subst hv; exact areRight_any p cap L w hL hn
set_option maxHeartbeats 1000000 in
theorem l5Spots_any (p : Option Addr) (cap : Nat) (L : List T2) (w : World) (hL : Sl w p L) (hn : L.length ≤ 1048576) :
    Calls Try.prog 29 #[.slice p L.length cap] w fun e w' => e = .returned (.bool (okS L)) ∧ Below w.heap.size w w' := by
  go_enter Try.func29, Try.ntmps29
  go_wp2
  go_loopw [3] (fun i wr => ∃ k : Nat, k ≤ L.length ∧ i = .int .i64 k ∧ (L.take k).all T2.ok = true ∧ Below w.heap.size w wr) (fun i _ => L.length - (intOf i).toNat)
  case atStart => exact ⟨0, by omega, rfl, rfl, Below.refl _ _⟩
  case round =>
    obtain ⟨k, hk, rfl, hall, hb⟩ := hrel
    by_cases hlt : k < L.length
    · have hki : (k : Int) < L.length := by omega
      obtain ⟨g, off, rfl, hC⟩ := (hL.step hb).at hlt
      obtain ⟨c0, c1⟩ := hC.2 k L[k] (List.getElem?_eq_getElem hlt)
      cases hv : T2.ok L[k]
      · go_wp2_with (go_at_call 41; refine (sSpot_v hv _).mono ?_; rintro e w1 ⟨rfl, hb2⟩)
        go_ret
        exact ⟨ret_bool (by rw [okS, all_no hlt hv, Bool.and_false]), bstep hb hb2 (Nat.le_refl _)⟩
      · go_wp2_with (go_at_call 41; refine (sSpot_v hv _).mono ?_; rintro e w1 ⟨rfl, hb2⟩)
        go_roundw
        case rel => exact ⟨k + 1, by omega, by go_num, by rw [all_take hlt, hall, hv]; rfl, bstep hb hb2 (Nat.le_refl _)⟩
        case measure => simp [intOf]; omega
    · obtain rfl : k = L.length := by omega
      rw [List.take_length] at hall
      by_cases h40 : L.length ≤ 40
      · have hi : (L.length : Int) ≤ 40 := by omega
        go_wp2
        go_ret
        exact ⟨ret_bool (by rw [okS, hall, decide_eq_true h40]; rfl), hb⟩
      · have hi : ¬ (L.length : Int) ≤ 40 := by omega
        go_wp2
        go_ret
        exact ⟨ret_bool (by rw [okS_no h40]), hb⟩
theorem l5Spots_v {L : List T2} {v : Bool} (hv : okS L = v) (p : Option Addr) (cap : Nat) (w : World) (hL : Sl w p L) (hn : L.length ≤ 1048576) :
    Calls Try.prog 29 #[.slice p L.length cap] w fun e w' => e = .returned (.bool v) ∧ Below w.heap.size w w' := by subst hv; exact l5Spots_any p cap L w hL hn

def wgB (a : Int) : Bool := decide (-1000 ≤ a) && decide (a ≤ 1000)
theorem wgB_t {a : Int} : wgB a = true ↔ (-1000 ≤ a ∧ a ≤ 1000) := by simp [wgB]
theorem wgB_f {a : Int} : wgB a = false ↔ ¬ (-1000 ≤ a ∧ a ≤ 1000) := by rw [← wgB_t]; simp
theorem isWeight_v {a : Int} {v : Bool} (hv : wgB a = v) (w : World) : Calls Try.prog 27 #[.int .i64 a] w fun e w' => e = .returned (.bool v) ∧ w' = w := by
  subst hv
  go_enter Try.func27, Try.ntmps27
  go_wp2
  all_goals (go_ret; exact ⟨ret_bool (by simp [wgB]; try omega), rfl⟩)
theorem l1In_v {a : Int} {v : Bool} (hv : wgB a = v) (w : World) : Calls Try.prog 30 #[.int .i64 a, .int .i64 (-1000), .int .i64 1000] w fun e w' => e = .returned (.bool v) ∧ w' = w := by
  subst hv
  go_enter Try.func30, Try.ntmps30
  go_wp2
  all_goals (go_ret; exact ⟨ret_bool (by simp [wgB]; try omega), rfl⟩)
theorem wg_bd {a b : Int} {c : T2} (ha : wgB a = true) (hb : wgB b = true) (hc : c.ok = true) : (-255000 ≤ a * c.x ∧ a * c.x ≤ 255000) ∧ (-255000 ≤ b * c.y ∧ b * c.y ≤ 255000) := by
  have k1 := wgB_t.mp ha
  have k2 := wgB_t.mp hb
  have k := spB_t.mp hc
  have m : ∀ u v : Int, -1000 ≤ u → u ≤ 1000 → 0 ≤ v → v ≤ 255 → -255000 ≤ u * v ∧ u * v ≤ 255000 := by
    intro u v h1 h2 h3 h4
    have a1 := Int.mul_nonneg (show 0 ≤ 1000 - u by omega) h3
    have a2 := Int.mul_nonneg (show 0 ≤ 1000 + u by omega) h3
    rw [Int.sub_mul] at a1
    rw [Int.add_mul] at a2
    omega
  exact ⟨m _ _ (by omega) (by omega) (by omega) (by omega), m _ _ (by omega) (by omega) (by omega) (by omega)⟩
theorem weighed_v {a b v : Int} {c : T2} (ha : wgB a = true) (hb : wgB b = true) (hc : c.ok = true) (hv : lin a b c = v) (w : World) :
    Calls Try.prog 28 #[.agg #[.int .i64 c.x, .int .i64 c.y], .int .i64 a, .int .i64 b] w fun e w' => e = .returned (.int .i64 v) ∧ Below w.heap.size w w' := by
  subst hv
  have hbd := wg_bd ha hb hc
  go_enter Try.func28, Try.ntmps28
  go_wp2
  go_ret
  exact ⟨ret_i64 (by unfold lin; omega), below_alloc1 _ _⟩
theorem l1Max_v (a b : Int) (w : World) : Calls Try.prog 31 #[.int .i64 a, .int .i64 b] w fun e w' => e = .returned (.int .i64 (max a b)) ∧ w' = w := by
  go_enter Try.func31, Try.ntmps31
  go_wp2
  all_goals (go_ret; exact ⟨ret_i64 (by omega), rfl⟩)

/-- The greatest of the first k. -/
def mxs (a b : Int) (L : List T2) : Nat → Int
  | 0 => lin a b (L.getD 0 zro)
  | k + 1 => max (mxs a b L k) (lin a b (L.getD k zro))
def extI (L : List T2) (a b : Int) : Int := if okS L && (decide (0 < L.length) && (wgB a && wgB b)) then mxs a b L L.length else -1
theorem getD_at {L : List T2} {k : Nat} (hk : k < L.length) : L.getD k zro = L[k] := by simp [List.getD, hk]

set_option maxHeartbeats 2000000 in
theorem iExtreme_any (p : Option Addr) (cap : Nat) (L : List T2) (a b : Int) (w : World) (hL : Sl w p L) (hn : L.length ≤ 1048576) :
    Calls Try.prog 9 #[.slice p L.length cap, .int .i64 a, .int .i64 b] w fun e w' => e = .returned (.int .i64 (extI L a b)) ∧ Below w.heap.size w w' := by
  by_cases h0 : L = []
  · subst h0
    go_enter Try.func9, Try.ntmps9
    go_wp2_with fail
    go_ret
    exact ⟨ret_i64 (by simp [extI]), Below.refl _ _⟩
  have hd0 : ((L.length : Int) == 0) = false := by simp [h0]
  have h0n : 0 < L.length := List.length_pos_iff.mpr h0
  cases ho : okS L
  · go_enter Try.func9, Try.ntmps9
    go_wp2_with (go_at_call 26; refine (areRight_v ho _ _ _ hL hn).mono ?_; rintro e w1 ⟨rfl, hb2⟩)
    go_ret
    exact ⟨ret_i64 (by simp [extI, ho]), hb2⟩
  cases ha : wgB a
  · go_enter Try.func9, Try.ntmps9
    go_wp2_with (first | (go_at_call 26; refine (areRight_v ho _ _ _ hL hn).mono ?_; rintro e w1 ⟨rfl, hb2⟩) | (go_at_call 27; refine (isWeight_v ha _).mono ?_; rintro e w1 ⟨rfl, rfl⟩))
    go_ret
    exact ⟨ret_i64 (by simp [extI, ha]), hb2⟩
  cases hb : wgB b
  · have tok1 : True := trivial
    go_enter Try.func9, Try.ntmps9
    go_wp2_with (first | (go_at_call 26; refine (areRight_v ho _ _ _ hL hn).mono ?_; rintro e w1 ⟨rfl, hb2⟩) | (go_at_call 27; clear tok1; refine (isWeight_v ha _).mono ?_; rintro e w1 ⟨rfl, rfl⟩) | (go_at_call 27; refine (isWeight_v hb _).mono ?_; rintro e w1 ⟨rfl, rfl⟩))
    go_ret
    exact ⟨ret_i64 (by simp [extI, hb]), hb2⟩
  have hall := okS_all ho
  have e0 : mxs a b L 0 = lin a b L[0] := by simp only [mxs]; rw [getD_at h0n]
  have hext : extI L a b = mxs a b L L.length := by simp [extI, ho, ha, hb, h0n]
  rw [hext]
  obtain ⟨g, off, rfl, hC⟩ := hL.at h0n
  obtain ⟨c0, c1⟩ := hC.2 0 L[0] (List.getElem?_eq_getElem h0n)
  simp only [Nat.zero_mul, Nat.add_zero] at c0 c1
  have tok1 : True := trivial
  go_enter Try.func9, Try.ntmps9
  go_upto_region 3 with (first | (go_at_call 26; refine (areRight_v ho _ _ _ hL hn).mono ?_; rintro e w1 ⟨rfl, hb2⟩) | (go_at_call 27; clear tok1; refine (isWeight_v ha _).mono ?_; rintro e w1 ⟨rfl, rfl⟩) | (go_at_call 27; refine (isWeight_v hb _).mono ?_; rintro e w1 ⟨rfl, rfl⟩))
  obtain ⟨c0, c1⟩ := (hC.step hb2).2 0 L[0] (List.getElem?_eq_getElem h0n)
  simp only [Nat.zero_mul, Nat.add_zero] at c0 c1
  go_wp2_with (go_at_call 28; refine (weighed_v ha hb (hall _ (List.getElem_mem h0n)) e0.symm _).mono ?_; rintro e w2 ⟨rfl, hb3⟩)
  go_loopw [7, 36] (fun sv i wr => ∃ k : Nat, k ≤ L.length ∧ i = .int .i64 k ∧ sv = .int .i64 (mxs a b L k) ∧ Below w.heap.size w wr) (fun _ i _ => L.length - (intOf i).toNat)
  case atStart => exact ⟨0, by omega, rfl, by rw [e0], bstep hb2 hb3 (Nat.le_refl _)⟩
  case round =>
    obtain ⟨k, hk, rfl, rfl, hbw⟩ := hrel
    by_cases hlt : k < L.length
    · have hki : (k : Int) < L.length := by omega
      obtain ⟨d0, d1⟩ := (hC.step hbw).2 k L[k] (List.getElem?_eq_getElem hlt)
      have hs : mxs a b L (k + 1) = max (mxs a b L k) (lin a b L[k]) := by simp only [mxs]; rw [getD_at hlt]
      have HS : Hid (mxs a b L (k + 1) = max (mxs a b L k) (lin a b L[k])) := hs
      clear hs
      generalize mxs a b L k = m at HS ⊢
      generalize hlv : lin a b L[k] = lv at HS
      go_wp2_with (go_at_call 28; refine (weighed_v ha hb (hall _ (List.getElem_mem hlt)) hlv _).mono ?_; rintro e w3 ⟨rfl, hb4⟩)
      all_goals
        go_roundw
        case rel => exact ⟨k + 1, by omega, by go_num, by rw [HS.out]; first | rfl | (congr 1; omega), bstepA hbw hb4 (Nat.le_refl _)⟩
        case measure => simp [intOf]; omega
    · obtain rfl : k = L.length := by omega
      go_wp2
      go_ret
      exact ⟨rfl, hbw⟩

set_option maxHeartbeats 2000000 in
theorem sExtreme_any (p : Option Addr) (cap : Nat) (L : List T2) (a b : Int) (w : World) (hL : Sl w p L) (hn : L.length ≤ 1048576) :
    Calls Try.prog 10 #[.slice p L.length cap, .int .i64 a, .int .i64 b] w fun e w' => e = .returned (.int .i64 (extI L a b)) ∧ Below w.heap.size w w' := by
  cases ho : okS L
  · go_enter Try.func10, Try.ntmps10
    go_wp2_with (go_at_call 29; refine (l5Spots_v ho _ _ _ hL hn).mono ?_; rintro e w1 ⟨rfl, hb2⟩)
    go_ret
    exact ⟨ret_i64 (by simp [extI, ho]), hb2⟩
  by_cases h0 : L = []
  · subst h0
    go_enter Try.func10, Try.ntmps10
    go_wp2_with (go_at_call 29; refine (l5Spots_v ho _ _ _ hL hn).mono ?_; rintro e w1 ⟨rfl, hb2⟩)
    go_ret
    exact ⟨ret_i64 (by simp [extI]), hb2⟩
  have hd0 : ((L.length : Int) == 0) = false := by simp [h0]
  have h0n : 0 < L.length := List.length_pos_iff.mpr h0
  cases ha : wgB a
  · go_enter Try.func10, Try.ntmps10
    go_wp2_with (first | (go_at_call 29; refine (l5Spots_v ho _ _ _ hL hn).mono ?_; rintro e w1 ⟨rfl, hb2⟩) | (go_at_call 30; refine (l1In_v ha _).mono ?_; rintro e w1 ⟨rfl, rfl⟩))
    go_ret
    exact ⟨ret_i64 (by simp [extI, ha]), hb2⟩
  cases hb : wgB b
  · have tok1 : True := trivial
    go_enter Try.func10, Try.ntmps10
    go_wp2_with (first | (go_at_call 29; refine (l5Spots_v ho _ _ _ hL hn).mono ?_; rintro e w1 ⟨rfl, hb2⟩) | (go_at_call 30; clear tok1; refine (l1In_v ha _).mono ?_; rintro e w1 ⟨rfl, rfl⟩) | (go_at_call 30; refine (l1In_v hb _).mono ?_; rintro e w1 ⟨rfl, rfl⟩))
    go_ret
    exact ⟨ret_i64 (by simp [extI, hb]), hb2⟩
  have hall := okS_all ho
  have e0 : mxs a b L 0 = lin a b L[0] := by simp only [mxs]; rw [getD_at h0n]
  have hext : extI L a b = mxs a b L L.length := by simp [extI, ho, ha, hb, h0n]
  rw [hext]
  obtain ⟨g, off, rfl, hC⟩ := hL.at h0n
  have tok1 : True := trivial
  go_enter Try.func10, Try.ntmps10
  go_upto_region 3 with (first | (go_at_call 29; refine (l5Spots_v ho _ _ _ hL hn).mono ?_; rintro e w1 ⟨rfl, hb2⟩) | (go_at_call 30; clear tok1; refine (l1In_v ha _).mono ?_; rintro e w1 ⟨rfl, rfl⟩) | (go_at_call 30; refine (l1In_v hb _).mono ?_; rintro e w1 ⟨rfl, rfl⟩))
  obtain ⟨c0, c1⟩ := (hC.step hb2).2 0 L[0] (List.getElem?_eq_getElem h0n)
  simp only [Nat.zero_mul, Nat.add_zero] at c0 c1
  have hbd := wg_bd ha hb (hall _ (List.getElem_mem h0n))
  have e0' : mxs a b L 0 = a * L[0].x + b * L[0].y := e0
  go_quiet (fail)
  go_wp2
  go_loopw [7, 8] (fun sv i wr => ∃ k : Nat, k ≤ L.length ∧ i = .int .i64 k ∧ sv = .int .i64 (mxs a b L k) ∧ Below w.heap.size w wr) (fun _ i _ => L.length - (intOf i).toNat)
  case atStart => exact ⟨0, by omega, rfl, by rw [e0'], bdrewN hb2 _⟩
  case round =>
    obtain ⟨k, hk, rfl, rfl, hbw⟩ := hrel
    by_cases hlt : k < L.length
    · have hki : (k : Int) < L.length := by omega
      obtain ⟨d0, d1⟩ := (hC.step hbw).2 k L[k] (List.getElem?_eq_getElem hlt)
      have hs : mxs a b L (k + 1) = max (mxs a b L k) (a * L[k].x + b * L[k].y) := by simp only [mxs]; rw [getD_at hlt]; rfl
      have HS : Hid (mxs a b L (k + 1) = max (mxs a b L k) (a * L[k].x + b * L[k].y)) := hs
      clear hs
      generalize mxs a b L k = m at HS ⊢
      have hbk := wg_bd ha hb (hall _ (List.getElem_mem hlt))
      go_wp2
      go_quiet ((go_at_call 31; refine Calls.quiet_of_same (l1Max_v _ _ _)))
      go_wp2
      go_roundw
      case rel => exact ⟨k + 1, by omega, by go_num, by rw [HS.out], bdrewN hbw _⟩
      case measure => simp [intOf]; omega
    · obtain rfl : k = L.length := by omega
      go_wp2
      go_ret
      exact ⟨rfl, hbw⟩
end Go.Proofs.Ytkpkigllabhejaa
