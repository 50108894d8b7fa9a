/-
  Pairs in memory: three numbers each; a list of them in a block of one's own; the heap's own header.
-/
import Derived.Test.YtocfdmlkicndoaaN2
import Derived.Deep.RegionHeld3
import Derived.Deep.AppendLies
namespace Go.Proofs.Ytocfdmlkicndoaa
open Go.RowKit Go.Joins

structure P3 where
  a : Int
  i : Int
  j : Int
def P3.v (c : P3) : Value := .agg #[.int .i64 c.a, .int .i64 c.i, .int .i64 c.j]
def P3.vs (c : P3) : List Value := [.int .i64 c.a, .int .i64 c.i, .int .i64 c.j]
def flat3 (L : List P3) : List Value := L.flatMap P3.vs
theorem flat3_cons (a : P3) (t : List P3) : flat3 (a :: t) = a.vs ++ flat3 t := by simp [flat3]
theorem flat3_len : ∀ L : List P3, (flat3 L).length = L.length * 3
  | [] => rfl
  | a :: t => by have := flat3_len t; rw [flat3_cons, List.length_append, this]; simp [P3.vs]; omega
theorem flat3_append (A B : List P3) : flat3 (A ++ B) = flat3 A ++ flat3 B := List.flatMap_append ..
theorem flat3_get : ∀ {L : List P3} {k : Nat} {c : P3}, L[k]? = some c → (flat3 L)[k * 3]? = some (.int .i64 c.a) ∧ (flat3 L)[k * 3 + 1]? = some (.int .i64 c.i) ∧ (flat3 L)[k * 3 + 2]? = some (.int .i64 c.j)
  | [], k, c, h => by simp at h
  | a :: t, 0, c, h => by simp at h; subst h; simp [flat3, P3.vs]
  | a :: t, k + 1, c, h => by
    have ih := flat3_get (L := t) (k := k) (c := c) (by simpa using h)
    have hl : a.vs.length = 3 := rfl
    rw [flat3_cons, List.getElem?_append_right (by omega), List.getElem?_append_right (by omega), List.getElem?_append_right (by omega), hl]
    rw [show (k + 1) * 3 - 3 = k * 3 by omega, show (k + 1) * 3 + 1 - 3 = k * 3 + 1 by omega, show (k + 1) * 3 + 2 - 3 = k * 3 + 2 by omega]
    exact ih
theorem flat3_set : ∀ {L : List P3} {k : Nat} (c : P3), k < L.length → (((flat3 L).set (k * 3) (.int .i64 c.a)).set (k * 3 + 1) (.int .i64 c.i)).set (k * 3 + 2) (.int .i64 c.j) = flat3 (L.set k c)
  | [], k, c, h => by simp at h
  | a :: t, 0, c, _ => by simp [flat3, P3.vs]
  | a :: t, k + 1, c, h => by
    have ih := flat3_set (L := t) (k := k) c (by simpa using h)
    have hl : a.vs.length = 3 := rfl
    rw [List.set_cons_succ, flat3_cons, flat3_cons, ← ih, List.set_append_right _ _ (by omega), List.set_append_right _ _ (by omega), List.set_append_right _ _ (by omega), hl]
    rw [show (k + 1) * 3 - 3 = k * 3 by omega, show (k + 1) * 3 + 1 - 3 = k * 3 + 1 by omega, show (k + 1) * 3 + 2 - 3 = k * 3 + 2 by omega]
theorem flat3_one (Q : List P3) : ∀ u ∈ flat3 Q, u.oneCell' = true := by
  intro u hu
  unfold flat3 at hu
  obtain ⟨c, _, hu⟩ := List.mem_flatMap.mp hu
  simp [P3.vs] at hu
  rcases hu with rfl | rfl | rfl <;> rfl
theorem flat3_take (L : List P3) (k : Nat) : (flat3 L).take (k * 3) = flat3 (L.take k) := by
  induction L generalizing k with
  | nil => simp [flat3]
  | cons a t ih =>
    cases k with
    | zero => simp [flat3]
    | succ k =>
      rw [List.take_succ_cons, flat3_cons, flat3_cons, ← ih, show (k + 1) * 3 = a.vs.length + k * 3 by simp [P3.vs]; omega, List.take_length_add_append]

/-- Block g holds the pairs of L from its start on. -/
def Cs3 (w : World) (g : Nat) (L : List P3) : Prop := g < w.heap.size ∧ ∀ k c, L[k]? = some c → w.cell? ⟨g, k * 3, none⟩ = some (.int .i64 c.a) ∧ w.cell? ⟨g, k * 3 + 1, none⟩ = some (.int .i64 c.i) ∧ w.cell? ⟨g, k * 3 + 2, none⟩ = some (.int .i64 c.j)
abbrev Ow3 (W : World) (g n cap : Nat) (L : List P3) : Prop := W.ownsRow 0 53 3 (.slice (some ⟨g, 0, none⟩) n cap) L.length (flat3 L)
theorem Ow3.len {W : World} {g n cap : Nat} {L : List P3} (h : Ow3 W g n cap L) : n = L.length := by
  rcases h.2 with ⟨h1, _⟩ | ⟨_, _, _, h1, _⟩ <;> cases h1; rfl
theorem Ow3.cs {W : World} {g n cap : Nat} {L : List P3} (h : Ow3 W g n cap L) : Cs3 W g L := by
  have hn := h.len
  subst hn
  refine ⟨(h.lt g rfl).2, fun k c hk => ?_⟩
  have hlt : k < L.length := (List.getElem?_eq_some_iff.1 hk).1
  obtain ⟨a, b, c⟩ := flat3_get hk
  exact ⟨(h.cellAt _ (by omega)).trans a, (h.cellAt _ (by omega)).trans b, (h.cellAt _ (by omega)).trans c⟩

/-- At block b lies a heap's header: a slice that owns the pairs of L in block g. -/
structure Hp (W : World) (b g cap : Nat) (L : List P3) : Prop where
  lt : b < W.heap.size
  fz : ∀ o, W.frozen? ⟨b, o, none⟩ = false
  hd : W.cell? ⟨b, 0, none⟩ = some (.slice (some ⟨g, 0, none⟩) L.length cap)
  ow : Ow3 W g L.length cap L
  ne : g ≠ b
theorem Hp.step {W W' : World} {b g cap : Nat} {L : List P3} (h : Hp W b g cap L) (hb : Below W.heap.size W W') : Hp W' b g cap L :=
  ⟨Nat.lt_of_lt_of_le h.lt hb.size, fun o => (hb.frozen (p := ⟨b, o, none⟩) h.lt).trans (h.fz o), (hb.cell (p := ⟨b, 0, none⟩) h.lt).trans h.hd, own_of_below h.ow hb, h.ne⟩
theorem Hp.glt {W : World} {b g cap : Nat} {L : List P3} (h : Hp W b g cap L) : g < W.heap.size := h.ow.cs.1

/-- Only blocks b and g, and new ones, may have turned; g' is g or new. -/
structure Tn (b g : Nat) (w : World) (g' : Nat) (w' : World) : Prop where
  os : w'.os = w.os
  tape : w'.tape = w.tape
  output : w'.output = w.output
  size : w.heap.size ≤ w'.heap.size
  block : ∀ k, k < w.heap.size → k ≠ b → k ≠ g → w'.heap[k]? = w.heap[k]?
  own : g' = g ∨ w.heap.size ≤ g'
theorem Tn.refl (b g : Nat) (w : World) : Tn b g w g w := ⟨rfl, rfl, rfl, Nat.le_refl _, fun _ _ _ _ => rfl, .inl rfl⟩
theorem Tn.trans {b g g1 g2 : Nat} {w w1 w2 : World} (h : Tn b g w g1 w1) (k : Tn b g1 w1 g2 w2) : Tn b g w g2 w2 := by
  refine ⟨k.os.trans h.os, k.tape.trans h.tape, k.output.trans h.output, Nat.le_trans h.size k.size, fun i hi hb hg => ?_, ?_⟩
  · refine (k.block i (Nat.lt_of_lt_of_le hi h.size) hb ?_).trans (h.block i hi hb hg)
    rcases h.own with e | e
    · rw [e]; exact hg
    · omega
  · have := h.size
    rcases k.own with e | e
    · rw [e]; exact h.own
    · right; omega
theorem Tn.step {b g g1 : Nat} {w w1 w2 : World} (h : Tn b g w g1 w1) (k : Below w1.heap.size w1 w2) : Tn b g w g1 w2 :=
  h.trans ⟨k.os, k.tape, k.output, k.size, fun i hi _ _ => k.block i hi, .inl rfl⟩
theorem Tn.of {b g : Nat} {w w' : World} (k : Below w.heap.size w w') : Tn b g w g w' := (Tn.refl b g w).step k
theorem Tn.below {b g g' B : Nat} {w w' : World} (h : Tn b g w g' w') (h1 : B ≤ b) (h2 : B ≤ g) (h3 : B ≤ w.heap.size) : Below B w w' := ⟨h.os, h.tape, h.output, h.size, fun k hk => h.block k (by omega) (by omega) (by omega)⟩
theorem Tn.cell {b g g' : Nat} {w w' : World} (h : Tn b g w g' w') {k o : Nat} (hk : k < w.heap.size) (hb : k ≠ b) (hg : k ≠ g) : w'.cell? ⟨k, o, none⟩ = w.cell? ⟨k, o, none⟩ := World.cell?_of_block (w := w) (h.block k hk hb hg)
theorem Tn.frozen {b g g' : Nat} {w w' : World} (h : Tn b g w g' w') {k o : Nat} (hk : k < w.heap.size) (hb : k ≠ b) (hg : k ≠ g) : w'.frozen? ⟨k, o, none⟩ = w.frozen? ⟨k, o, none⟩ := World.frozen?_of_block (w := w) (h.block k hk hb hg)

/-- A pair is stored at a place of the heap's array. -/
theorem Ow3.stored {W : World} {g n cap k : Nat} {L : List P3} (h : Ow3 W g n cap L) (hk : k < L.length) (c : P3) :
    Ow3 (((W.setCell ⟨g, k * 3, none⟩ (.int .i64 c.a)).setCell ⟨g, k * 3 + 1, none⟩ (.int .i64 c.i)).setCell ⟨g, k * 3 + 2, none⟩ (.int .i64 c.j)) g n cap (L.set k c) ∧ W.grownBy (((W.setCell ⟨g, k * 3, none⟩ (.int .i64 c.a)).setCell ⟨g, k * 3 + 1, none⟩ (.int .i64 c.i)).setCell ⟨g, k * 3 + 2, none⟩ (.int .i64 c.j)) (some g) := by
  have hn := h.len
  subst hn
  obtain ⟨h1, g1⟩ := World.ownsRow.stored h (k * 3) (.int .i64 c.a)
  obtain ⟨h2, g2⟩ := World.ownsRow.stored h1 (k * 3 + 1) (.int .i64 c.i)
  obtain ⟨h3, g3⟩ := World.ownsRow.stored h2 (k * 3 + 2) (.int .i64 c.j)
  rw [flat3_set c hk] at h3
  refine ⟨?_, gtrans (gtrans g1 g2) g3⟩
  unfold Ow3
  rw [List.length_set]
  exact h3
theorem Hp.turned {W W' : World} {b g cap : Nat} {L M : List P3} (h : Hp W b g cap L) (ho : Ow3 W' g L.length cap M) (hl : M.length = L.length) (hg : W.grownBy W' (some g)) : Hp W' b g cap M ∧ Tn b g W g W' := by
  have hb := hg.block b h.lt (fun e => h.ne (by injection e with e; exact e.symm))
  refine ⟨⟨Nat.lt_of_lt_of_le h.lt hg.size, fun o => (World.frozen?_of_block (w := W) hb).trans (h.fz o), ?_, by rw [hl]; exact ho, h.ne⟩, ⟨hg.os, hg.tape, hg.output, hg.size, fun k hk _ hne => hg.block k hk (fun e => hne (by injection e)), .inl rfl⟩⟩
  rw [hl]
  exact (World.cell?_of_block (w := W) hb).trans h.hd
end Go.Proofs.Ytocfdmlkicndoaa
