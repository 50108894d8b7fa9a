/-
  Lists of Rects in memory.
-/
import Derived.Test.YtgpgmndjkcpaoaaN2
namespace Go.Proofs.Ytgpgmndjkcpaoaa
open Go.RowKit Go.Joins

theorem info35 : (Try.prog.info? 35).map (fun i => (i.zero, i.size, i.bytes)) = some (some (.agg #[.int .i64 0, .int .i64 0, .int .i64 0, .int .i64 0]), 4, 32) := by kernel_rfl
def T4.v (c : T4) : Value := .agg #[.int .i64 c.x, .int .i64 c.y, .int .i64 c.w, .int .i64 c.h]
def T4.vs (c : T4) : List Value := [.int .i64 c.x, .int .i64 c.y, .int .i64 c.w, .int .i64 c.h]
/-- From the cell at off on block g holds the Rects of L, four numbers each. -/
def Cs4 (w : World) (g off : Nat) (L : List T4) : Prop := g < w.heap.size ∧ ∀ k c, L[k]? = some c → w.cell? ⟨g, off + k * 4, none⟩ = some (.int .i64 c.x) ∧ w.cell? ⟨g, off + k * 4 + 1, none⟩ = some (.int .i64 c.y) ∧ w.cell? ⟨g, off + k * 4 + 2, none⟩ = some (.int .i64 c.w) ∧ w.cell? ⟨g, off + k * 4 + 3, none⟩ = some (.int .i64 c.h)
def Sl4 (w : World) (p : Option Addr) (L : List T4) : Prop := L = [] ∨ ∃ g off, p = some ⟨g, off, none⟩ ∧ Cs4 w g off L
theorem Cs4.step {w w' : World} {g off : Nat} {L : List T4} (h : Cs4 w g off L) (hb : Below w.heap.size w w') : Cs4 w' g off L :=
  ⟨Nat.lt_of_lt_of_le h.1 hb.size, fun k c hk => ⟨(hb.cell (p := ⟨g, _, none⟩) h.1).trans (h.2 k c hk).1, (hb.cell (p := ⟨g, _, none⟩) h.1).trans (h.2 k c hk).2.1, (hb.cell (p := ⟨g, _, none⟩) h.1).trans (h.2 k c hk).2.2.1, (hb.cell (p := ⟨g, _, none⟩) h.1).trans (h.2 k c hk).2.2.2⟩⟩
theorem Sl4.step {w w' : World} {p : Option Addr} {L : List T4} (h : Sl4 w p L) (hb : Below w.heap.size w w') : Sl4 w' p L := by
  rcases h with h | ⟨g, off, h1, h2⟩
  · exact .inl h
  · exact .inr ⟨g, off, h1, h2.step hb⟩
theorem Sl4.at {w : World} {p : Option Addr} {L : List T4} (h : Sl4 w p L) {k : Nat} (hk : k < L.length) : ∃ g off, p = some ⟨g, off, none⟩ ∧ Cs4 w g off L := by
  rcases h with rfl | h
  · simp at hk
  · exact h
theorem get4 {L : List T4} {k : Nat} (hk : k < L.length) : L[k]? = some (L.getD k zr4) := by simp [List.getD, hk]
theorem all_take4 {L : List T4} {f : T4 → Bool} {k : Nat} (hk : k < L.length) : (L.take (k + 1)).all f = ((L.take k).all f && f (L.getD k zr4)) := by
  rw [List.take_succ_eq_append_getElem hk, List.all_append]; simp [List.getD, hk]
theorem all_no4 {L : List T4} {f : T4 → Bool} {k : Nat} (hk : k < L.length) (h : f (L.getD k zr4) = false) : L.all f = false := by
  rw [Bool.eq_false_iff]; intro h2; rw [List.all_eq_true] at h2
  have e : L.getD k zr4 = L[k] := by simp [List.getD, hk]
  rw [e] at h
  have := h2 L[k] (List.getElem_mem hk); rw [h] at this; cases this
def flat4 (L : List T4) : List Value := L.flatMap T4.vs
theorem flat4_len : ∀ L : List T4, (flat4 L).length = L.length * 4
  | [] => rfl
  | a :: t => by have := flat4_len t; simp only [flat4, List.flatMap_cons, List.length_append, List.length_cons] at this ⊢; rw [this]; simp [T4.vs]; omega
theorem flat4_append (A B : List T4) : flat4 (A ++ B) = flat4 A ++ flat4 B := List.flatMap_append ..
theorem flat4_get : ∀ {L : List T4} {k : Nat} {c : T4}, L[k]? = some c → (flat4 L)[k * 4]? = some (.int .i64 c.x) ∧ (flat4 L)[k * 4 + 1]? = some (.int .i64 c.y) ∧ (flat4 L)[k * 4 + 2]? = some (.int .i64 c.w) ∧ (flat4 L)[k * 4 + 3]? = some (.int .i64 c.h)
  | [], k, c, h => by simp at h
  | a :: t, 0, c, h => by simp at h; subst h; simp [flat4, T4.vs]
  | a :: t, k + 1, c, h => by
    have ih := flat4_get (L := t) (k := k) (c := c) (by simpa using h)
    have e : flat4 (a :: t) = a.vs ++ flat4 t := by simp [flat4]
    have hl : a.vs.length = 4 := rfl
    rw [e, List.getElem?_append_right (by omega), List.getElem?_append_right (by omega), List.getElem?_append_right (by omega), List.getElem?_append_right (by omega), hl]
    rw [show (k + 1) * 4 - 4 = k * 4 by omega, show (k + 1) * 4 + 1 - 4 = k * 4 + 1 by omega, show (k + 1) * 4 + 2 - 4 = k * 4 + 2 by omega, show (k + 1) * 4 + 3 - 4 = k * 4 + 3 by omega]
    exact ih
theorem flat4_set : ∀ {L : List T4} {k : Nat} (c : T4), k < L.length → ((((flat4 L).set (k * 4) (.int .i64 c.x)).set (k * 4 + 1) (.int .i64 c.y)).set (k * 4 + 2) (.int .i64 c.w)).set (k * 4 + 3) (.int .i64 c.h) = flat4 (L.set k c)
  | [], k, c, h => by simp at h
  | a :: t, 0, c, _ => by simp [flat4, T4.vs]
  | a :: t, k + 1, c, h => by
    have ih := flat4_set (L := t) (k := k) c (by simpa using h)
    have e : ∀ b, flat4 (b :: t) = b.vs ++ flat4 t := fun b => by simp [flat4]
    have hl : a.vs.length = 4 := rfl
    have e2 : flat4 ((a :: t).set (k + 1) c) = a.vs ++ flat4 (t.set k c) := by simp [flat4]
    rw [e, e2, ← ih, List.set_append_right _ _ (by omega), List.set_append_right _ _ (by omega), List.set_append_right _ _ (by omega), List.set_append_right _ _ (by omega), hl]
    rw [show (k + 1) * 4 - 4 = k * 4 by omega, show (k + 1) * 4 + 1 - 4 = k * 4 + 1 by omega, show (k + 1) * 4 + 2 - 4 = k * 4 + 2 by omega, show (k + 1) * 4 + 3 - 4 = k * 4 + 3 by omega]
theorem made_flat4 (n : Nat) : (madeCells #[.int .i64 0, .int .i64 0, .int .i64 0, .int .i64 0] (n * 4)).toList = flat4 (List.replicate n zr4) := by
  have hr : flat4 (List.replicate n zr4) = List.replicate (n * 4) (.int .i64 0) := by
    induction n with
    | zero => rfl
    | succ n ih => rw [List.replicate_succ, show flat4 (zr4 :: List.replicate n zr4) = zr4.vs ++ flat4 (List.replicate n zr4) by simp [flat4], ih, show (n + 1) * 4 = n * 4 + 4 by omega]; simp [T4.vs, zr4, List.replicate_succ]
  rw [hr]
  refine List.ext_getElem? fun i => ?_
  by_cases hi : i < n * 4
  · have hm : i % 4 = 0 ∨ i % 4 = 1 ∨ i % 4 = 2 ∨ i % 4 = 3 := by omega
    rcases hm with hm | hm | hm | hm <;> simp [madeCells, hi, hm]
  · simp [madeCells, hi]
/-- A list of the base's own or later memory. -/
abbrev Ow4 (W : World) (base : Nat) (v : Value) (L : List T4) : Prop := W.ownsRow base 35 4 v L.length (flat4 L)
theorem Ow4.cs {W : World} {base : Nat} {g n cap : Nat} {L : List T4} (h : Ow4 W base (.slice (some ⟨g, 0, none⟩) n cap) L) : Cs4 W g 0 L := by
  have hn : n = L.length := by rcases h.2 with ⟨h1, _⟩ | ⟨_, _, _, h1, _⟩ <;> cases h1; rfl
  subst hn
  refine ⟨(h.lt g rfl).2, fun k c hk => ?_⟩
  have hlt : k < L.length := (List.getElem?_eq_some_iff.1 hk).1
  obtain ⟨a, b, c, d⟩ := flat4_get hk
  simp only [Nat.zero_add]
  exact ⟨(h.cellAt _ (by omega)).trans a, (h.cellAt _ (by omega)).trans b, (h.cellAt _ (by omega)).trans c, (h.cellAt _ (by omega)).trans d⟩
theorem Ow4.form {W : World} {base : Nat} {v : Value} {L : List T4} (h : Ow4 W base v L) : ∃ p cap, v = .slice p L.length cap ∧ Sl4 W p L := by
  rcases h.2 with ⟨rfl, h0⟩ | ⟨g, cap, cur, rfl, _⟩
  · exact ⟨none, 0, by rw [h0], .inl (List.eq_nil_of_length_eq_zero h0)⟩
  · exact ⟨_, _, rfl, .inr ⟨g, 0, rfl, Ow4.cs h⟩⟩
theorem Ow4.sl {W : World} {base : Nat} {p : Option Addr} {n cap : Nat} {L : List T4} (h : Ow4 W base (.slice p n cap) L) : Sl4 W p L := by
  obtain ⟨p', cap', e, hs⟩ := h.form
  cases e; exact hs
theorem Ow4.mono {W : World} {b b' : Nat} {v : Value} {L : List T4} (h : Ow4 W b v L) (hb : b' ≤ b) : Ow4 W b' v L := by
  rcases h with ⟨h0, h1 | ⟨g, cap, cur, e, hg, r⟩⟩
  · exact ⟨h0, .inl h1⟩
  · exact ⟨h0, .inr ⟨g, cap, cur, e, Nat.le_trans hb hg, r⟩⟩
theorem ba4 {w w1 : World} {o p q r : Obj} (hb : Below ((((w.alloc o).alloc p).alloc q).alloc r).heap.size ((((w.alloc o).alloc p).alloc q).alloc r) w1) : Below w.heap.size w w1 := ((below_alloc3 w o p q).trans ((below_alloc1 _ r).mono (by simp; omega))).trans (hb.mono (by simp; omega))
end Go.Proofs.Ytgpgmndjkcpaoaa
