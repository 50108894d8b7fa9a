/-
  Spots that are right; Extreme: the program's and the spec's.
-/
import Derived.Test.YtocfdmlkicndoaaHM
import Derived.Test.YtocfdmlkicndoaaA3
import Derived.Deep.CutBlock
import Derived.Deep.QuietTactic
import Derived.BigQuiet
namespace Go.Proofs.Ytocfdmlkicndoaa
open Go.RowKit Go.Joins
attribute [local go_sem ↓] Go.wp_at_zero Go.wp_at_succ

def okS (L : List T2) : Bool := decide (L.length ≤ 40) && L.all T2.ok
theorem okS_len {L : List T2} (h : okS L = true) : L.length ≤ 40 := of_decide_eq_true ((Bool.and_eq_true _ _).mp h).1
theorem okS_all {L : List T2} (h : okS L = true) : ∀ c ∈ L, c.ok = true := List.all_eq_true.mp ((Bool.and_eq_true _ _).mp h).2
theorem okS_no {L : List T2} (h : ¬ L.length ≤ 40) : okS L = false := by unfold okS; rw [decide_eq_false h]; rfl

set_option maxHeartbeats 1000000 in
theorem areRight_any (p : Option Addr) (cap : Nat) (L : List T2) (w : World) (hL : Sl w p L) (hn : L.length ≤ 1048576) :
    Calls Try.prog 37 #[.slice p L.length cap] w fun e w' => e = .returned (.bool (okS L)) ∧ Below w.heap.size w w' := by
  by_cases h40 : L.length ≤ 40
  · have hi : ¬ (40 : Int) < L.length := by omega
    go_enter Try.func37, Try.ntmps37
    go_wp2
    go_loopw [10] (fun i wr => ∃ k : Nat, k ≤ L.length ∧ i = .int .i64 k ∧ (L.take k).all T2.ok = true ∧ Below w.heap.size w wr) (fun i _ => L.length - (intOf i).toNat)
    case atStart => exact ⟨0, by omega, rfl, rfl, Below.refl _ _⟩
    case round =>
      obtain ⟨k, hk, rfl, hall, hb⟩ := hrel
      by_cases hlt : k < L.length
      · have hki : (k : Int) < L.length := by omega
        obtain ⟨g, off, rfl, hC⟩ := (hL.step hb).at hlt
        obtain ⟨c0, c1⟩ := hC.2 k L[k] (List.getElem?_eq_getElem hlt)
        cases hv : T2.ok L[k]
        · go_wp2_with (go_at_call 42; refine (spRight_v hv _).mono ?_; rintro e w1 ⟨rfl, hb2⟩)
          go_ret
          exact ⟨ret_bool (by rw [okS, all_no hlt hv, Bool.and_false]), bstepA hb hb2 (Nat.le_refl _)⟩
        · go_wp2_with (go_at_call 42; refine (spRight_v hv _).mono ?_; rintro e w1 ⟨rfl, hb2⟩)
          go_roundw
          case rel => exact ⟨k + 1, by omega, by go_num, by rw [all_take hlt, hall, hv]; rfl, bstepA hb hb2 (Nat.le_refl _)⟩
          case measure => simp [intOf]; omega
      · obtain rfl : k = L.length := by omega
        go_wp2
        go_ret
        rw [List.take_length] at hall
        exact ⟨ret_bool (by rw [okS, hall, decide_eq_true h40]; rfl), hb⟩
  · have hi : (40 : Int) < L.length := by omega
    go_enter Try.func37, Try.ntmps37
    go_wp2
    go_ret
    exact ⟨ret_bool (by rw [okS_no h40]), Below.refl _ _⟩
theorem areRight_v {L : List T2} {v : Bool} (hv : okS L = v) (p : Option Addr) (cap : Nat) (w : World) (hL : Sl w p L) (hn : L.length ≤ 1048576) :
    Calls Try.prog 37 #[.slice p L.length cap] w fun e w' => e = .returned (.bool v) ∧ Below w.heap.size w w' := by subst hv; exact areRight_any p cap L w hL hn
set_option maxHeartbeats 1000000 in
theorem l5Spots_any (p : Option Addr) (cap : Nat) (L : List T2) (w : World) (hL : Sl w p L) (hn : L.length ≤ 1048576) :
    Calls Try.prog 38 #[.slice p L.length cap] w fun e w' => e = .returned (.bool (okS L)) ∧ Below w.heap.size w w' := by
  go_enter Try.func38, Try.ntmps38
  go_wp2
  go_loopw [3] (fun i wr => ∃ k : Nat, k ≤ L.length ∧ i = .int .i64 k ∧ (L.take k).all T2.ok = true ∧ Below w.heap.size w wr) (fun i _ => L.length - (intOf i).toNat)
  case atStart => exact ⟨0, by omega, rfl, rfl, Below.refl _ _⟩
  case round =>
    obtain ⟨k, hk, rfl, hall, hb⟩ := hrel
    by_cases hlt : k < L.length
    · have hki : (k : Int) < L.length := by omega
      obtain ⟨g, off, rfl, hC⟩ := (hL.step hb).at hlt
      obtain ⟨c0, c1⟩ := hC.2 k L[k] (List.getElem?_eq_getElem hlt)
      cases hv : T2.ok L[k]
      · go_wp2_with (go_at_call 59; refine (sSpot_v hv _).mono ?_; rintro e w1 ⟨rfl, hb2⟩)
        go_ret
        exact ⟨ret_bool (by rw [okS, all_no hlt hv, Bool.and_false]), bstep hb hb2 (Nat.le_refl _)⟩
      · go_wp2_with (go_at_call 59; refine (sSpot_v hv _).mono ?_; rintro e w1 ⟨rfl, hb2⟩)
        go_roundw
        case rel => exact ⟨k + 1, by omega, by go_num, by rw [all_take hlt, hall, hv]; rfl, bstep hb hb2 (Nat.le_refl _)⟩
        case measure => simp [intOf]; omega
    · obtain rfl : k = L.length := by omega
      rw [List.take_length] at hall
      by_cases h40 : L.length ≤ 40
      · have hi : (L.length : Int) ≤ 40 := by omega
        go_wp2
        go_ret
        exact ⟨ret_bool (by rw [okS, hall, decide_eq_true h40]; rfl), hb⟩
      · have hi : ¬ (L.length : Int) ≤ 40 := by omega
        go_wp2
        go_ret
        exact ⟨ret_bool (by rw [okS_no h40]), hb⟩
theorem l5Spots_v {L : List T2} {v : Bool} (hv : okS L = v) (p : Option Addr) (cap : Nat) (w : World) (hL : Sl w p L) (hn : L.length ≤ 1048576) :
    Calls Try.prog 38 #[.slice p L.length cap] w fun e w' => e = .returned (.bool v) ∧ Below w.heap.size w w' := by subst hv; exact l5Spots_any p cap L w hL hn

def wgB (a : Int) : Bool := decide (-1000 ≤ a) && decide (a ≤ 1000)
theorem wgB_t {a : Int} : wgB a = true ↔ (-1000 ≤ a ∧ a ≤ 1000) := by simp [wgB]
theorem wgB_f {a : Int} : wgB a = false ↔ ¬ (-1000 ≤ a ∧ a ≤ 1000) := by rw [← wgB_t]; simp
theorem l1In_v {a : Int} {v : Bool} (hv : wgB a = v) (w : World) : Calls Try.prog 70 #[.int .i64 a, .int .i64 (-1000), .int .i64 1000] w fun e w' => e = .returned (.bool v) ∧ w' = w := by
  subst hv
  go_enter Try.func70, Try.ntmps70
  go_wp2
  all_goals (go_ret; exact ⟨ret_bool (by simp [wgB]; try omega), rfl⟩)
theorem wg_bd {a b : Int} {c : T2} (ha : wgB a = true) (hb : wgB b = true) (hc : c.ok = true) : (-255000 ≤ a * c.x ∧ a * c.x ≤ 255000) ∧ (-255000 ≤ b * c.y ∧ b * c.y ≤ 255000) := by
  have k1 := wgB_t.mp ha
  have k2 := wgB_t.mp hb
  have k := spB_t.mp hc
  have m : ∀ u v : Int, -1000 ≤ u → u ≤ 1000 → 0 ≤ v → v ≤ 255 → -255000 ≤ u * v ∧ u * v ≤ 255000 := by
    intro u v h1 h2 h3 h4
    have a1 := Int.mul_nonneg (show 0 ≤ 1000 - u by omega) h3
    have a2 := Int.mul_nonneg (show 0 ≤ 1000 + u by omega) h3
    rw [Int.sub_mul] at a1
    rw [Int.add_mul] at a2
    omega
  exact ⟨m _ _ (by omega) (by omega) (by omega) (by omega), m _ _ (by omega) (by omega) (by omega) (by omega)⟩
theorem l1Max_v (a b : Int) (w : World) : Calls Try.prog 40 #[.int .i64 a, .int .i64 b] w fun e w' => e = .returned (.int .i64 (max a b)) ∧ w' = w := by
  go_enter Try.func40, Try.ntmps40
  go_wp2
  all_goals (go_ret; exact ⟨ret_i64 (by omega), rfl⟩)

/-- The greatest of the first k. -/
def mxs (a b : Int) (L : List T2) : Nat → Int
  | 0 => lin a b (L.getD 0 zro)
  | k + 1 => max (mxs a b L k) (lin a b (L.getD k zro))
def extI (L : List T2) (a b : Int) : Int := if okS L && (decide (0 < L.length) && (wgB a && wgB b)) then mxs a b L L.length else -1
theorem getD_at {L : List T2} {k : Nat} (hk : k < L.length) : L.getD k zro = L[k] := by simp [List.getD, hk]

end Go.Proofs.Ytocfdmlkicndoaa
