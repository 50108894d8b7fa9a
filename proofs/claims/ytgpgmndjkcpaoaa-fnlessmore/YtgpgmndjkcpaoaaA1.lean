/-
  Are they right: the program's and the spec's; the small functions of stretches.
-/
import Derived.Test.YtgpgmndjkcpaoaaN4
namespace Go.Proofs.Ytgpgmndjkcpaoaa
open Go.RowKit Go.Joins

theorem rcRight_v {x y a b : Int} {v : Bool} (hv : okB x y a b = v) (w : World) :
    Calls Try.prog 48 #[.agg #[.int .i64 x, .int .i64 y, .int .i64 a, .int .i64 b]] w fun e w' => e = .returned (.bool v) ∧ Below w.heap.size w w' := by subst hv; exact rcRight_any x y a b w
theorem sOk_v {x y a b : Int} {v : Bool} (hv : okB x y a b = v) (w : World) :
    Calls Try.prog 29 #[.agg #[.int .i64 x, .int .i64 y, .int .i64 a, .int .i64 b]] w fun e w' => e = .returned (.bool v) ∧ Below w.heap.size w w' := by subst hv; exact sOk_any x y a b w

set_option maxHeartbeats 1000000 in
theorem areRight_any (p : Option Addr) (cap : Nat) (L : List T4) (w : World) (hL : Sl4 w p L) (hn : L.length ≤ 1048576) :
    Calls Try.prog 43 #[.slice p L.length cap] w fun e w' => e = .returned (.bool (okL L)) ∧ Below w.heap.size w w' := by
  by_cases h12 : L.length ≤ 12
  · have h12i : ¬ (12 : Int) < L.length := by omega
    have hb0 := Below.refl w.heap.size w
    go_enter Try.func43, Try.ntmps43
    go_wp2
    go_loopw [10] (fun i wr => ∃ k : Nat, k ≤ L.length ∧ i = .int .i64 k ∧ (L.take k).all T4.ok = true ∧ Below w.heap.size w wr) (fun i _ => L.length - (intOf i).toNat)
    case atStart => exact ⟨0, by omega, rfl, by simp, hb0⟩
    case round =>
      obtain ⟨k, hk, rfl, hall, hb⟩ := hrel
      by_cases hlt : k < L.length
      · have hki : (k : Int) < L.length := by omega
        obtain ⟨g, off, rfl, hC⟩ := (hL.step hb).at hlt
        obtain ⟨c0, c1, c2, c3⟩ := hC.2 k _ (get4 hlt)
        have hT := all_take4 (f := T4.ok) hlt
        rw [hall, Bool.true_and] at hT
        have hN := all_no4 (f := T4.ok) hlt
        generalize L.getD k zr4 = c at c0 c1 c2 c3 hT hN
        have HT : Hid ((L.take (k + 1)).all T4.ok = c.ok) := hT
        have HN : Hid (c.ok = false → L.all T4.ok = false) := hN
        clear hT hN hall
        cases hv : okB c.x c.y c.w c.h
        · go_wp2_with (go_at_call 48; refine (rcRight_v hv _).mono ?_; rintro e w1 ⟨rfl, hb2⟩)
          go_ret
          exact ⟨ret_bool (by rw [okL, HN.out hv, Bool.and_false]), bstepA hb hb2 (Nat.le_refl _)⟩
        · go_wp2_with (go_at_call 48; refine (rcRight_v hv _).mono ?_; rintro e w1 ⟨rfl, hb2⟩)
          go_roundw
          case rel => exact ⟨k + 1, by omega, by go_num, by rw [HT.out]; exact hv, bstepA hb hb2 (Nat.le_refl _)⟩
          case measure => simp [intOf]; omega
      · obtain rfl : k = L.length := by omega
        rw [List.take_length] at hall
        go_wp2
        go_ret
        exact ⟨ret_bool (by rw [okL, hall, decide_eq_true h12]; rfl), hb⟩
  · have h12i : (12 : Int) < L.length := by omega
    go_enter Try.func43, Try.ntmps43
    go_wp2
    go_ret
    exact ⟨ret_bool (by rw [okL, decide_eq_false h12]; rfl), Below.refl _ _⟩
theorem areRight_v {L : List T4} {v : Bool} (hv : okL L = v) (p : Option Addr) (cap : Nat) (w : World) (hL : Sl4 w p L) (hn : L.length ≤ 1048576) :
    Calls Try.prog 43 #[.slice p L.length cap] w fun e w' => e = .returned (.bool v) ∧ Below w.heap.size w w' := by subst hv; exact areRight_any p cap L w hL hn

set_option maxHeartbeats 1000000 in
theorem l7Rects_any (p : Option Addr) (cap : Nat) (L : List T4) (w : World) (hL : Sl4 w p L) (hn : L.length ≤ 1048576) :
    Calls Try.prog 45 #[.slice p L.length cap] w fun e w' => e = .returned (.bool (okL L)) ∧ Below w.heap.size w w' := by
  have hb0 := Below.refl w.heap.size w
  go_enter Try.func45, Try.ntmps45
  go_wp2
  go_loopw [3] (fun i wr => ∃ k : Nat, k ≤ L.length ∧ i = .int .i64 k ∧ (L.take k).all T4.ok = true ∧ Below w.heap.size w wr) (fun i _ => L.length - (intOf i).toNat)
  case atStart => exact ⟨0, by omega, rfl, by simp, hb0⟩
  case round =>
    obtain ⟨k, hk, rfl, hall, hb⟩ := hrel
    by_cases hlt : k < L.length
    · have hki : (k : Int) < L.length := by omega
      obtain ⟨g, off, rfl, hC⟩ := (hL.step hb).at hlt
      obtain ⟨c0, c1, c2, c3⟩ := hC.2 k _ (get4 hlt)
      have hT := all_take4 (f := T4.ok) hlt
      rw [hall, Bool.true_and] at hT
      have hN := all_no4 (f := T4.ok) hlt
      generalize L.getD k zr4 = c at c0 c1 c2 c3 hT hN
      have HT : Hid ((L.take (k + 1)).all T4.ok = c.ok) := hT
      have HN : Hid (c.ok = false → L.all T4.ok = false) := hN
      clear hT hN hall
      cases hv : okB c.x c.y c.w c.h
      · go_wp2_with (go_at_call 29; refine (sOk_v hv _).mono ?_; rintro e w1 ⟨rfl, hb2⟩)
        go_ret
        exact ⟨ret_bool (by rw [okL, HN.out hv, Bool.and_false]), bstep hb hb2 (Nat.le_refl _)⟩
      · go_wp2_with (go_at_call 29; refine (sOk_v hv _).mono ?_; rintro e w1 ⟨rfl, hb2⟩)
        go_roundw
        case rel => exact ⟨k + 1, by omega, by go_num, by rw [HT.out]; exact hv, bstep hb hb2 (Nat.le_refl _)⟩
        case measure => simp [intOf]; omega
    · obtain rfl : k = L.length := by omega
      rw [List.take_length] at hall
      have hE : okL L = decide ((L.length : Int) ≤ 12) := by
        rw [okL, hall, Bool.and_true]; exact decide_eq_decide.mpr (by omega)
      have HE : Hid (okL L = decide ((L.length : Int) ≤ 12)) := hE
      clear hE hall
      go_wp2
      go_ret
      exact ⟨ret_bool (by rw [HE.out]), hb⟩
theorem l7Rects_v {L : List T4} {v : Bool} (hv : okL L = v) (p : Option Addr) (cap : Nat) (w : World) (hL : Sl4 w p L) (hn : L.length ≤ 1048576) :
    Calls Try.prog 45 #[.slice p L.length cap] w fun e w' => e = .returned (.bool v) ∧ Below w.heap.size w w' := by subst hv; exact l7Rects_any p cap L w hL hn

set_option maxHeartbeats 400000 in
theorem up_any (x y a b : Int) (w : World) (h : okB x y a b = true) :
    Calls Try.prog 64 #[.agg #[.int .i64 x, .int .i64 y, .int .i64 a, .int .i64 b]] w fun e w' => e = .returned (.agg #[.int .i64 y, .int .i64 (y + b)]) ∧ Below w.heap.size w w' := by
  have k := okB_t.mp h
  clear h
  go_enter Try.func64, Try.ntmps64
  go_wp2
  exact bodyPost_ret (v := .agg #[.int .i64 y, .int .i64 (y + b)]) (by simp [results, Try.results64, go_sem]) rfl ⟨rfl, below_alloc2 _ _ _⟩
set_option maxHeartbeats 400000 in
theorem across_any (x y a b : Int) (w : World) (h : okB x y a b = true) :
    Calls Try.prog 65 #[.agg #[.int .i64 x, .int .i64 y, .int .i64 a, .int .i64 b]] w fun e w' => e = .returned (.agg #[.int .i64 x, .int .i64 (x + a)]) ∧ Below w.heap.size w w' := by
  have k := okB_t.mp h
  clear h
  go_enter Try.func65, Try.ntmps65
  go_wp2
  exact bodyPost_ret (v := .agg #[.int .i64 x, .int .i64 (x + a)]) (by simp [results, Try.results65, go_sem]) rfl ⟨rfl, below_alloc2 _ _ _⟩
def leS (a b c d : Int) : Bool := decide (a ≤ c ∧ d ≤ b)
set_option maxHeartbeats 400000 in
theorem has_any (a b c d : Int) (w : World) :
    Calls Try.prog 76 #[.agg #[.int .i64 a, .int .i64 b], .agg #[.int .i64 c, .int .i64 d]] w fun e w' => e = .returned (.bool (leS a b c d)) ∧ Below w.heap.size w w' := by
  go_enter Try.func76, Try.ntmps76
  go_wp2
  all_goals (go_ret; exact ⟨ret_bool (by unfold leS; first | exact (decide_eq_true (by omega)).symm | exact (decide_eq_false (by omega)).symm | exact decide_eq_decide.mpr (by omega)), below_alloc2 _ _ _⟩)
theorem has_v {a b c d : Int} {v : Bool} (hv : leS a b c d = v) (w : World) :
    Calls Try.prog 76 #[.agg #[.int .i64 a, .int .i64 b], .agg #[.int .i64 c, .int .i64 d]] w fun e w' => e = .returned (.bool v) ∧ Below w.heap.size w w' := by subst hv; exact has_any a b c d w
set_option maxHeartbeats 400000 in
theorem length_any (a b : Int) (w : World) (h : 0 ≤ a ∧ a ≤ 256 ∧ 0 ≤ b ∧ b ≤ 256) :
    Calls Try.prog 67 #[.agg #[.int .i64 a, .int .i64 b]] w fun e w' => e = .returned (.int .i64 (b - a)) ∧ Below w.heap.size w w' := by
  go_enter Try.func67, Try.ntmps67
  go_wp2
  go_ret
  exact ⟨rfl, below_alloc1 _ _⟩
theorem length_v {a b v : Int} (hv : b - a = v) (w : World) (h : 0 ≤ a ∧ a ≤ 256 ∧ 0 ≤ b ∧ b ≤ 256) :
    Calls Try.prog 67 #[.agg #[.int .i64 a, .int .i64 b]] w fun e w' => e = .returned (.int .i64 v) ∧ Below w.heap.size w w' := by subst hv; exact length_any a b w h
end Go.Proofs.Ytgpgmndjkcpaoaa
