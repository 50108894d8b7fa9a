/-
  Lists of Cells in memory, and the looks whether they are right.
-/
import Derived.Test.YtkinbgcnenieeaaMC3
import Derived.Test.YtkinbgcnenieeaaMS0
namespace Go.Proofs.Ytkinbgcnenieeaa.M
open Go.RowKit Go.Joins

structure T3 where
  l : Int
  x : Int
  y : Int
def T3.ok (c : T3) : Bool := cellB c.l c.x c.y
def T3.v (c : T3) : Value := .agg #[.int .i64 c.l, .int .i64 c.x, .int .i64 c.y]
def T3.vs (c : T3) : List Value := [.int .i64 c.l, .int .i64 c.x, .int .i64 c.y]

/-- From the cell at off on block g holds the Cells of L, three numbers each. -/
def Cs (w : World) (g off : Nat) (L : List T3) : Prop := g < w.heap.size ∧ ∀ k c, L[k]? = some c → w.cell? ⟨g, off + k * 3, none⟩ = some (.int .i64 c.l) ∧ w.cell? ⟨g, off + k * 3 + 1, none⟩ = some (.int .i64 c.x) ∧ w.cell? ⟨g, off + k * 3 + 2, none⟩ = some (.int .i64 c.y)
/-- A slice at p, as long as L, reads as L. -/
def Sl (w : World) (p : Option Addr) (L : List T3) : Prop := L = [] ∨ ∃ g off, p = some ⟨g, off, none⟩ ∧ Cs w g off L
theorem Cs.step {w w' : World} {g off : Nat} {L : List T3} (h : Cs w g off L) (hb : Below w.heap.size w w') : Cs w' g off L :=
  ⟨Nat.lt_of_lt_of_le h.1 hb.size, fun k c hk => ⟨(hb.cell (p := ⟨g, _, none⟩) h.1).trans (h.2 k c hk).1, (hb.cell (p := ⟨g, _, none⟩) h.1).trans (h.2 k c hk).2.1, (hb.cell (p := ⟨g, _, none⟩) h.1).trans (h.2 k c hk).2.2⟩⟩
theorem Sl.step {w w' : World} {p : Option Addr} {L : List T3} (h : Sl w p L) (hb : Below w.heap.size w w') : Sl w' p L := by
  rcases h with h | ⟨g, off, h1, h2⟩
  · exact .inl h
  · exact .inr ⟨g, off, h1, h2.step hb⟩
theorem Sl.at {w : World} {p : Option Addr} {L : List T3} (h : Sl w p L) {k : Nat} (hk : k < L.length) : ∃ g off, p = some ⟨g, off, none⟩ ∧ Cs w g off L := by
  rcases h with rfl | h
  · simp at hk
  · exact h

def okL (L : List T3) : Bool := decide (L.length ≤ 100) && L.all T3.ok
theorem all_take {L : List T3} {f : T3 → Bool} {k : Nat} (hk : k < L.length) : (L.take (k + 1)).all f = ((L.take k).all f && f L[k]) := by
  rw [List.take_succ_eq_append_getElem hk, List.all_append]; simp
theorem all_no {L : List T3} {f : T3 → Bool} {k : Nat} (hk : k < L.length) (h : f L[k] = false) : L.all f = false := by
  rw [Bool.eq_false_iff]; intro h2; rw [List.all_eq_true] at h2; have := h2 L[k] (List.getElem_mem hk); rw [h] at this; cases this

set_option maxHeartbeats 1000000 in
theorem areRight_any (p : Option Addr) (cap : Nat) (L : List T3) (w : World) (hL : Sl w p L) (hn : L.length ≤ 1048576) :
    Calls Try.prog 53 #[.slice p L.length cap] w fun e w' => e = .returned (.bool (okL L)) ∧ Below w.heap.size w w' := by
  by_cases h100 : L.length ≤ 100
  · have hi : (L.length : Int) ≤ 100 := by omega
    go_enter Try.func53, Try.ntmps53
    go_wp2
    go_loopw [10] (fun i wr => ∃ k : Nat, k ≤ L.length ∧ i = .int .i64 k ∧ (L.take k).all T3.ok = true ∧ Below w.heap.size w wr) (fun i _ => L.length - (intOf i).toNat)
    case atStart => exact ⟨0, by omega, rfl, rfl, Below.refl _ _⟩
    case round =>
      obtain ⟨k, hk, rfl, hall, hb⟩ := hrel
      by_cases hlt : k < L.length
      · have hki : (k : Int) < L.length := by omega
        obtain ⟨g, off, rfl, hC⟩ := (hL.step hb).at hlt
        obtain ⟨c0, c1, c2⟩ := hC.2 k L[k] (List.getElem?_eq_getElem hlt)
        cases hv : T3.ok L[k]
        · go_wp2_with (go_at_call 63; refine (isRight_v hv _).mono ?_; rintro e w1 ⟨rfl, hb2⟩)
          go_ret
          exact ⟨ret_bool (by rw [okL, all_no hlt hv, Bool.and_false]), bstepA hb hb2 (Nat.le_refl _)⟩
        · go_wp2_with (go_at_call 63; refine (isRight_v hv _).mono ?_; rintro e w1 ⟨rfl, hb2⟩)
          go_roundw
          case rel => exact ⟨k + 1, by omega, by go_num, by rw [all_take hlt, hall, hv]; rfl, bstepA hb hb2 (Nat.le_refl _)⟩
          case measure => simp [intOf]; omega
      · obtain rfl : k = L.length := by omega
        go_wp2
        go_ret
        rw [List.take_length] at hall
        exact ⟨ret_bool (by rw [okL, hall, decide_eq_true h100]; rfl), hb⟩
  · have hi : ¬ (L.length : Int) ≤ 100 := by omega
    go_enter Try.func53, Try.ntmps53
    go_wp2
    go_ret
    exact ⟨ret_bool (by rw [okL, decide_eq_false h100]; rfl), Below.refl _ _⟩
end Go.Proofs.Ytkinbgcnenieeaa.M
