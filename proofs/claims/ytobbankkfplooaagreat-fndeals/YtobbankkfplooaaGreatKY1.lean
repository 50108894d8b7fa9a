/-
  Numbers of Batches: right ones, rising ones, the program's looks and the spec's.
-/
import Derived.Test.YtobbankkfplooaaGreatKYM
import Derived.Test.YtobbankkfplooaaGreatKB2
import Derived.Test.YtobbankkfplooaaGreatKL4
import Derived.Deep.QuietTactic
import Derived.BigQuiet
namespace Go.Proofs.YtobbankkfplooaaGreat.K.Y
open Go.Shelf Go.RowKit Go.Joins
attribute [local go_sem] Oper.semAt_some

theorem wq {n : Int} (h0 : -9223372036854775808 ≤ n) (h1 : n ≤ 9223372036854775807) : IntKind.i64.wrap (n.tdiv 1000000) = n.tdiv 1000000 := by
  rw [IntKind.wrap_i64]
  have : n.tdiv 1000000 ≤ 9223372036854 ∧ -9223372036854 ≤ n.tdiv 1000000 := by
    rcases Int.le_total 0 n with h | h
    · rw [Int.tdiv_eq_ediv_of_nonneg h]; omega
    · have e : n.tdiv 1000000 = -((-n).tdiv 1000000) := by rw [Int.neg_tdiv]; omega
      rw [e, Int.tdiv_eq_ediv_of_nonneg (by omega)]; omega
  omega
theorem wr {n : Int} : IntKind.i64.wrap (n.tmod 1000000) = n.tmod 1000000 := by
  rw [IntKind.wrap_i64]
  have := Int.tmod_lt_of_pos n (show (0 : Int) < 1000000 by decide)
  have : -1000000 < n.tmod 1000000 := by
    rcases Int.le_total 0 n with h | h
    · have := Int.tmod_nonneg (a := n) 1000000 h; omega
    · have e : n.tmod 1000000 = -((-n).tmod 1000000) := by rw [Int.neg_tmod]; omega
      have := Int.tmod_lt_of_pos (-n) (show (0 : Int) < 1000000 by decide)
      omega
  omega
theorem belN {B : Nat} {a w : World} (h : Below B a w) (n : Nat) : Below B a (w.drewN n) := ⟨h.os, h.tape, h.output, h.size, h.block⟩
def i64B (n : Int) : Prop := -9223372036854775808 ≤ n ∧ n ≤ 9223372036854775807
set_option maxHeartbeats 1000000 in
theorem risesN_any (p : Option Addr) (cap : Nat) (L : List Int) (n : Nat) (hn : L.length = n) (w : World) (hL : SlG kI w p L) (hb0 : n ≤ 10000000) {fb : Bool} (hv : riseN L = fb) :
    Calls Tryz.prog 77 #[.slice p n cap, .func (.func 78) #[] #[]] w fun e w' => e = .returned (.bool fb) ∧ Below w.heap.size w w' := by
  subst hn
  go_enter Tryz.func77, Tryz.ntmps77
  go_wp2
  go_loopw [5] (fun i wr => ∃ k : Nat, i = .int .i64 ((k : Int) + 1) ∧ k ≤ L.length ∧ Hid (∀ j a b, j < k → L[j]? = some a → L[j + 1]? = some b → a < b) ∧ Below w.heap.size w wr) (fun i _ => L.length + 1 - (intOf i).toNat)
  case atStart => exact ⟨0, rfl, by omega, fun j a b hj => by omega, Below.refl _ _⟩
  case round =>
    obtain ⟨k, rfl, hk, hall, hb⟩ := hrel
    by_cases hlt : k + 1 < L.length
    · have hki : (k : Int) + 1 < L.length := by omega
      have hk0 : k < L.length := by omega
      obtain ⟨g, off, rfl, hC⟩ := (hL.step hb).at hlt
      have hg := List.getElem?_eq_getElem hlt
      have hg0 := List.getElem?_eq_getElem hk0
      generalize L[k + 1] = b at hg
      generalize L[k] = a at hg0
      have c0 := hC.int hg
      have d0 := hC.int hg0
      have HG : Hid (L[k]? = some a ∧ L[k + 1]? = some b) := ⟨hg0, hg⟩
      clear hC hg hg0
      obtain ⟨v, hc⟩ : ∃ v, cmpZ a b = v := ⟨_, rfl⟩
      have hcn : v < 0 ↔ a < b := by rw [← hc]; unfold cmpZ; split <;> (try split) <;> omega
      have hrn := @rise_no L k a b
      have hw : IntKind.i64.wrap (k : Int) = k := wrapI (by omega) (by omega)
      have hk1 : (k : Int) < L.length := by omega
      have hk2 : (0 : Int) ≤ k := by omega
      by_cases hv0 : v < 0
      · have hge : ¬ v ≥ 0 := by omega
        have hge' : ¬ 0 ≤ v := by omega
        have hlt' := Lib.hid (hcn.1 hv0)
        clear hcn
        go_wp2
        go_region_with ((go_at_call 78; refine (compare_v (a := a) (b := b) hc _).mono ?_; rintro e w1 ⟨rfl, rfl⟩))
        all_goals
          go_wp2
          go_roundw
          case rel => exact ⟨k + 1, by go_num, by omega, fun j a' b' hj h1 h2 => by
            by_cases e : j = k
            · subst e
              rw [HG.out.1] at h1; rw [HG.out.2] at h2
              cases h1; cases h2
              exact hlt'.out
            · exact hall.out j a' b' (by omega) h1 h2, hb.drew⟩
          case measure => simp [intOf]; omega
      · have hge : 0 ≤ v := by omega
        have hlt' : Hid (¬ a < b) := fun h => hv0 (hcn.2 h)
        clear hcn
        go_wp2
        go_region_with ((go_at_call 78; refine (compare_v (a := a) (b := b) hc _).mono ?_; rintro e w1 ⟨rfl, rfl⟩))
        all_goals
          go_wp2
          go_ret
          exact ⟨ret_bool (by rw [← hv, hrn HG.out.1 HG.out.2 hlt'.out]), hb.drew⟩
    · have hki : ¬ (k : Int) + 1 < L.length := by omega
      go_wp2
      go_ret
      refine ⟨ret_bool (by rw [← hv]; exact (rise_of fun j a b h1 h2 => hall.out j a b (by have := (List.getElem?_eq_some_iff.1 h2).1; omega) h1 h2).symm), hb⟩
set_option maxHeartbeats 1000000 in
theorem l1Rises_v {L : List Int} {v : Bool} (hv : riseN L = v) (p : Option Addr) (cap n : Nat) (hn : L.length = n) (w : World) (hL : SlG kI w p L) (hb0 : n ≤ 10000000) :
    Calls Tryz.prog 50 #[.slice p n cap] w fun e w' => e = .returned (.bool v) ∧ Below w.heap.size w w' := by
  subst hn
  go_enter Tryz.func50, Tryz.ntmps50
  go_wp2
  go_loopw [3] (fun i wr => ∃ k : Nat, i = .int .i64 ((k : Int) + 1) ∧ k ≤ L.length ∧ Hid (∀ j a b, j < k → L[j]? = some a → L[j + 1]? = some b → a < b) ∧ Below w.heap.size w wr) (fun i _ => L.length + 1 - (intOf i).toNat)
  case atStart => exact ⟨0, rfl, by omega, fun j a b hj => by omega, Below.refl _ _⟩
  case round =>
    obtain ⟨k, rfl, hk, hall, hb⟩ := hrel
    by_cases hlt : k + 1 < L.length
    · have hki : (k : Int) + 1 < L.length := by omega
      have hk0 : k < L.length := by omega
      obtain ⟨g, off, rfl, hC⟩ := (hL.step hb).at hlt
      have hg := List.getElem?_eq_getElem hlt
      have hg0 := List.getElem?_eq_getElem hk0
      generalize L[k + 1] = b at hg
      generalize L[k] = a at hg0
      have c0 := hC.int hg
      have d0 := hC.int hg0
      have HG : Hid (L[k]? = some a ∧ L[k + 1]? = some b) := ⟨hg0, hg⟩
      clear hC hg hg0
      have hrn := @rise_no L k a b
      have hw : IntKind.i64.wrap (k : Int) = k := wrapI (by omega) (by omega)
      have hk1 : (k : Int) < L.length := by omega
      have hk2 : (0 : Int) ≤ k := by omega
      by_cases hv0 : b ≤ a
      · go_wp2
        go_quiet (fail)
        go_wp2
        go_ret
        exact ⟨ret_bool (by rw [← hv, hrn HG.out.1 HG.out.2 (by omega)]), belN hb _⟩
      · have hlt' := Lib.hid (show a < b by omega)
        go_wp2
        go_quiet (fail)
        go_wp2
        go_roundw
        case rel => exact ⟨k + 1, by go_num, by omega, fun j a' b' hj h1 h2 => by
            by_cases e : j = k
            · subst e
              rw [HG.out.1] at h1; rw [HG.out.2] at h2
              cases h1; cases h2
              exact hlt'.out
            · exact hall.out j a' b' (by omega) h1 h2, belN hb _⟩
        case measure => simp [intOf]; omega
    · have hki : ¬ (k : Int) + 1 < L.length := by omega
      go_wp2
      go_ret
      refine ⟨ret_bool (by rw [← hv]; exact (rise_of fun j a b h1 h2 => hall.out j a b (by have := (List.getElem?_eq_some_iff.1 h2).1; omega) h1 h2).symm), hb⟩
end Go.Proofs.YtobbankkfplooaaGreat.K.Y
