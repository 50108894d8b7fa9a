/-
  What a shape is, as a plain function; the first look: three to twelve right Spots.
-/
import Derived.Test.YtipdfajojcpolaaA5
import Derived.Test.YtipdfajojcpolaaA6
namespace Go.Proofs.Ytipdfajojcpolaa
open Go.RowKit Go.Joins
attribute [local go_sem ↓] Go.wp_at_zero Go.wp_at_succ

def lenB (L : List T2) : Bool := decide (3 ≤ L.length ∧ L.length ≤ 12)
def rtB (L : List T2) : Bool := lenB L && L.all T2.ok
def nth (L : List T2) (i : Nat) : T2 := L.getD i zro
theorem nth_lt {L : List T2} {i : Nat} (h : i < L.length) : nth L i = L[i] := by simp [nth, h]
def crN (L : List T2) (i : Nat) : Int := crT (nth L i) (nth L ((i + 1) % L.length)) (nth L ((i + 2) % L.length))
def cutN (L : List T2) (i k : Nat) : Bool := cutB (nth L i) (nth L ((i + 1) % L.length)) (nth L k) (nth L ((k + 1) % L.length))
def badK (L : List T2) (i k : Nat) : Bool := decide (i + 2 ≤ k ∧ ¬ (i = 0 ∧ k + 1 = L.length)) && cutN L i k
def shB (L : List T2) : Bool := rtB L && decide (∀ i, i < L.length → crN L i ≠ 0 ∧ ∀ k, k < L.length → badK L i k = false)
theorem sh_no1 {L : List T2} (h : rtB L = false) : shB L = false := by rw [shB, h]; rfl
theorem sh_no2 {L : List T2} {i : Nat} (hi : i < L.length) (h : crN L i = 0) : shB L = false := by
  rw [shB, Bool.and_eq_false_iff]; right
  exact decide_eq_false (fun k => (k i hi).1 h)
theorem sh_no3 {L : List T2} {i k : Nat} (hi : i < L.length) (hk : k < L.length) (h : badK L i k = true) : shB L = false := by
  rw [shB, Bool.and_eq_false_iff]; right
  exact decide_eq_false (fun q => by have := (q i hi).2 k hk; rw [h] at this; cases this)
theorem sh_yes {L : List T2} (h : rtB L = true) (hi : ∀ i, i < L.length → crN L i ≠ 0 ∧ ∀ k, k < L.length → badK L i k = false) : shB L = true := by
  rw [shB, h, Bool.true_and]; exact decide_eq_true hi
theorem lenB_t {L : List T2} : lenB L = true ↔ (3 ≤ L.length ∧ L.length ≤ 12) := by unfold lenB; exact decide_eq_true_iff
theorem rt_all {L : List T2} (h : rtB L = true) : ∀ c ∈ L, c.ok = true := List.all_eq_true.mp ((Bool.and_eq_true _ _).mp h).2
theorem rt_len {L : List T2} (h : rtB L = true) : 3 ≤ L.length ∧ L.length ≤ 12 := lenB_t.mp ((Bool.and_eq_true _ _).mp h).1
theorem nth_ok {L : List T2} (h : rtB L = true) {i : Nat} (hi : i < L.length) : (nth L i).ok = true := by rw [nth_lt hi]; exact rt_all h _ (List.getElem_mem hi)

set_option maxHeartbeats 1000000 in
theorem areRight_any (p : Option Addr) (cap : Nat) (L : List T2) (w : World) (hL : Sl w p L) (hn : L.length ≤ 1048576) :
    Calls Try.prog 37 #[.slice p L.length cap] w fun e w' => e = .returned (.bool (rtB L)) ∧ Below w.heap.size w w' := by
  by_cases h3 : L.length < 3
  · have hi : (L.length : Int) < 3 := by omega
    have hf : lenB L = false := by rw [Bool.eq_false_iff]; intro h; have := lenB_t.mp h; omega
    go_enter Try.func37, Try.ntmps37
    go_wp2
    go_ret
    exact ⟨ret_bool (by rw [rtB, hf]; rfl), Below.refl _ _⟩
  by_cases h12 : 12 < L.length
  · have hi : ¬ (L.length : Int) < 3 := by omega
    have hi2 : (12 : Int) < L.length := by omega
    have hf : lenB L = false := by rw [Bool.eq_false_iff]; intro h; have := lenB_t.mp h; omega
    go_enter Try.func37, Try.ntmps37
    go_wp2
    go_ret
    exact ⟨ret_bool (by rw [rtB, hf]; rfl), Below.refl _ _⟩
  · have hi : ¬ (L.length : Int) < 3 := by omega
    have hi2 : ¬ (12 : Int) < L.length := by omega
    have hf : lenB L = true := lenB_t.mpr (by omega)
    go_enter Try.func37, Try.ntmps37
    go_wp2
    go_loopw [15] (fun i wr => ∃ k : Nat, k ≤ L.length ∧ i = .int .i64 k ∧ (L.take k).all T2.ok = true ∧ Below w.heap.size w wr) (fun i _ => L.length - (intOf i).toNat)
    case atStart => exact ⟨0, by omega, rfl, rfl, Below.refl _ _⟩
    case round =>
      obtain ⟨k, hk, rfl, hall, hb⟩ := hrel
      by_cases hlt : k < L.length
      · have hki : (k : Int) < L.length := by omega
        obtain ⟨g, off, rfl, hC⟩ := (hL.step hb).at hlt
        obtain ⟨c0, c1⟩ := hC.2 k L[k] (List.getElem?_eq_getElem hlt)
        cases hv : T2.ok L[k]
        · go_wp2_with (go_at_call 44; refine (spRight_v hv _).mono ?_; rintro e w1 ⟨rfl, hb2⟩)
          go_ret
          exact ⟨ret_bool (by rw [rtB, all_no hlt hv, Bool.and_false]), bstepA hb hb2 (Nat.le_refl _)⟩
        · go_wp2_with (go_at_call 44; refine (spRight_v hv _).mono ?_; rintro e w1 ⟨rfl, hb2⟩)
          go_roundw
          case rel => exact ⟨k + 1, by omega, by go_num, by rw [all_take hlt, hall, hv]; rfl, bstepA hb hb2 (Nat.le_refl _)⟩
          case measure => simp [intOf]; omega
      · obtain rfl : k = L.length := by omega
        go_wp2
        go_ret
        rw [List.take_length] at hall
        exact ⟨ret_bool (by rw [rtB, hall, hf]; rfl), hb⟩
theorem areRight_v {L : List T2} {v : Bool} (hv : rtB L = v) (p : Option Addr) (cap : Nat) (w : World) (hL : Sl w p L) (hn : L.length ≤ 1048576) :
    Calls Try.prog 37 #[.slice p L.length cap] w fun e w' => e = .returned (.bool v) ∧ Below w.heap.size w w' := by subst hv; exact areRight_any p cap L w hL hn
end Go.Proofs.Ytipdfajojcpolaa
