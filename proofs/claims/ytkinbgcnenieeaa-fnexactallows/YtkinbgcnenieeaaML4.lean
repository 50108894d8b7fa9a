/-
  Whether one of a list of Cells has another Cell: the program's and the spec's looks; the lists are right.
-/
import Derived.Test.YtkinbgcnenieeaaML3
import Derived.Test.YtkinbgcnenieeaaMZ3
namespace Go.Proofs.Ytkinbgcnenieeaa.M
open Go.RowKit Go.Joins

def insT (a b : T3) : Bool := insB a.l a.x a.y b.l b.x b.y
def haveB (L : List T3) (c : T3) : Bool := L.any (insT c)
theorem any_take {L : List T3} {f : T3 → Bool} {k : Nat} (hk : k < L.length) : (L.take (k + 1)).any f = ((L.take k).any f || f L[k]) := by
  rw [List.take_succ_eq_append_getElem hk, List.any_append]; simp
theorem any_yes {L : List T3} {f : T3 → Bool} {k : Nat} (hk : k < L.length) (h : f L[k] = true) : L.any f = true := List.any_eq_true.mpr ⟨_, List.getElem_mem hk, h⟩
theorem iInside_v {a b : T3} {v : Bool} (hv : insT a b = v) (w : World) :
    Calls Try.prog 59 #[.agg #[.int .i64 a.l, .int .i64 a.x, .int .i64 a.y], .agg #[.int .i64 b.l, .int .i64 b.x, .int .i64 b.y]] w fun e w' => e = .returned (.bool v) ∧ Below w.heap.size w w' := by
  subst hv; exact iInside_any a.l a.x a.y b.l b.x b.y w

set_option maxHeartbeats 1000000 in
theorem have_any (p : Option Addr) (cap : Nat) (L : List T3) (c : T3) (w : World) (hL : Sl w p L) (hn : L.length ≤ 10000000) :
    Calls Try.prog 55 #[.slice p L.length cap, .agg #[.int .i64 c.l, .int .i64 c.x, .int .i64 c.y]] w fun e w' => e = .returned (.bool (haveB L c)) ∧ Below w.heap.size w w' := by
  have hs0 := (St.nil w).push [.int .i64 c.l, .int .i64 c.x, .int .i64 c.y] 62
  go_enter Try.func55, Try.ntmps55
  go_wp2
  go_loopw [9] (fun i wr => ∃ k : Nat, k ≤ L.length ∧ i = .int .i64 k ∧ (L.take k).any (insT c) = false ∧ St w wr [(w.heap.size, [.int .i64 c.l, .int .i64 c.x, .int .i64 c.y])]) (fun i _ => L.length - (intOf i).toNat)
  case atStart => exact ⟨0, by omega, rfl, rfl, hs0⟩
  case round =>
    obtain ⟨k, hk, rfl, hall, hst⟩ := hrel
    have hk1 := hst.has
    simp [Has, HasAt] at hk1
    by_cases hlt : k < L.length
    · have hki : (k : Int) < L.length := by omega
      obtain ⟨g, off, rfl, hC⟩ := (hL.step hst.bel).at hlt
      obtain ⟨c0, c1, c2⟩ := hC.2 k L[k] (List.getElem?_eq_getElem hlt)
      cases hv : insT c L[k]
      · go_wp2_with (go_at_call 59; refine (iInside_v hv _).mono ?_; rintro e w1 ⟨rfl, hb2⟩)
        go_roundw
        case rel => exact ⟨k + 1, by omega, by go_num, by rw [any_take hlt, hall, hv]; rfl, ((hst.push _ _).step hb2).sub (by simp)⟩
        case measure => simp [intOf]; omega
      · go_wp2_with (go_at_call 59; refine (iInside_v hv _).mono ?_; rintro e w1 ⟨rfl, hb2⟩)
        go_ret
        exact ⟨ret_bool (by rw [haveB, any_yes hlt hv]), ((hst.push _ _).step hb2).bel⟩
    · obtain rfl : k = L.length := by omega
      go_wp2
      go_ret
      rw [List.take_length] at hall
      exact ⟨ret_bool (by rw [haveB, hall]), hst.bel⟩

set_option maxHeartbeats 1000000 in
theorem l3Cells_any (p : Option Addr) (cap : Nat) (L : List T3) (w : World) (hL : Sl w p L) (hn : L.length ≤ 10000000) :
    Calls Try.prog 49 #[.slice p L.length cap] w fun e w' => e = .returned (.bool (okL L)) ∧ Below w.heap.size w w' := by
  go_enter Try.func49, Try.ntmps49
  go_wp2
  go_loopw [3] (fun i wr => ∃ k : Nat, k ≤ L.length ∧ i = .int .i64 k ∧ (L.take k).all T3.ok = true ∧ Below w.heap.size w wr) (fun i _ => L.length - (intOf i).toNat)
  case atStart => exact ⟨0, by omega, rfl, rfl, Below.refl _ _⟩
  case round =>
    obtain ⟨k, hk, rfl, hall, hb⟩ := hrel
    by_cases hlt : k < L.length
    · have hki : (k : Int) < L.length := by omega
      obtain ⟨g, off, rfl, hC⟩ := (hL.step hb).at hlt
      obtain ⟨c0, c1, c2⟩ := hC.2 k L[k] (List.getElem?_eq_getElem hlt)
      cases hv : T3.ok L[k]
      · go_wp2_with (go_at_call 60; refine (sCellOk_v hv _).mono ?_; rintro e w1 ⟨rfl, hb2⟩)
        go_ret
        exact ⟨ret_bool (by rw [okL, all_no hlt hv, Bool.and_false]), bstep hb hb2 (Nat.le_refl _)⟩
      · go_wp2_with (go_at_call 60; refine (sCellOk_v hv _).mono ?_; rintro e w1 ⟨rfl, hb2⟩)
        go_roundw
        case rel => exact ⟨k + 1, by omega, by go_num, by rw [all_take hlt, hall, hv]; rfl, bstep hb hb2 (Nat.le_refl _)⟩
        case measure => simp [intOf]; omega
    · obtain rfl : k = L.length := by omega
      go_wp2
      go_ret
      rw [List.take_length] at hall
      exact ⟨ret_bool (by rw [okL, hall, Bool.and_true]; exact decide_eq_decide.mpr (by omega)), hb⟩
end Go.Proofs.Ytkinbgcnenieeaa.M
