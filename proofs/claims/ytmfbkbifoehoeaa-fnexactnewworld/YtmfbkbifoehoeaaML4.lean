/-
  Whether one of a list of Cells has another Cell: the program's and the spec's looks; the lists are right.
-/
import Derived.Test.YtmfbkbifoehoeaaMC3
import Derived.Test.YtmfbkbifoehoeaaMX2
import Derived.Maps.AppendAt
import Derived.Laws.OwnMore
import Derived.Deep.RegionHeld3
import Derived.Test.YtmfbkbifoehoeaaMO1
namespace Go.Proofs.Ytmfbkbifoehoeaa.M
open Go.RowKit Go.Joins

structure T3 where
  l : Int
  x : Int
  y : Int
def T3.ok (c : T3) : Bool := cellB c.l c.x c.y
def T3.v (c : T3) : Value := .agg #[.int .i64 c.l, .int .i64 c.x, .int .i64 c.y]
def T3.vs (c : T3) : List Value := [.int .i64 c.l, .int .i64 c.x, .int .i64 c.y]

/-- From the cell at off on block g holds the Cells of L, three numbers each. -/
def Cs (w : World) (g off : Nat) (L : List T3) : Prop := g < w.heap.size ∧ ∀ k c, L[k]? = some c → w.cell? ⟨g, off + k * 3, none⟩ = some (.int .i64 c.l) ∧ w.cell? ⟨g, off + k * 3 + 1, none⟩ = some (.int .i64 c.x) ∧ w.cell? ⟨g, off + k * 3 + 2, none⟩ = some (.int .i64 c.y)
/-- A slice at p, as long as L, reads as L. -/
def Sl (w : World) (p : Option Addr) (L : List T3) : Prop := L = [] ∨ ∃ g off, p = some ⟨g, off, none⟩ ∧ Cs w g off L
theorem Cs.step {w w' : World} {g off : Nat} {L : List T3} (h : Cs w g off L) (hb : Below w.heap.size w w') : Cs w' g off L :=
  ⟨Nat.lt_of_lt_of_le h.1 hb.size, fun k c hk => ⟨(hb.cell (p := ⟨g, _, none⟩) h.1).trans (h.2 k c hk).1, (hb.cell (p := ⟨g, _, none⟩) h.1).trans (h.2 k c hk).2.1, (hb.cell (p := ⟨g, _, none⟩) h.1).trans (h.2 k c hk).2.2⟩⟩
theorem Sl.step {w w' : World} {p : Option Addr} {L : List T3} (h : Sl w p L) (hb : Below w.heap.size w w') : Sl w' p L := by
  rcases h with h | ⟨g, off, h1, h2⟩
  · exact .inl h
  · exact .inr ⟨g, off, h1, h2.step hb⟩
theorem Sl.at {w : World} {p : Option Addr} {L : List T3} (h : Sl w p L) {k : Nat} (hk : k < L.length) : ∃ g off, p = some ⟨g, off, none⟩ ∧ Cs w g off L := by
  rcases h with rfl | h
  · simp at hk
  · exact h

def okL (L : List T3) : Bool := decide (L.length ≤ 100) && L.all T3.ok
theorem all_take {L : List T3} {f : T3 → Bool} {k : Nat} (hk : k < L.length) : (L.take (k + 1)).all f = ((L.take k).all f && f L[k]) := by
  rw [List.take_succ_eq_append_getElem hk, List.all_append]; simp
theorem all_no {L : List T3} {f : T3 → Bool} {k : Nat} (hk : k < L.length) (h : f L[k] = false) : L.all f = false := by
  rw [Bool.eq_false_iff]; intro h2; rw [List.all_eq_true] at h2; have := h2 L[k] (List.getElem_mem hk); rw [h] at this; cases this

end Go.Proofs.Ytmfbkbifoehoeaa.M
namespace Go.Proofs.Ytmfbkbifoehoeaa.M
open Go.RowKit Go.Joins

theorem info36 : (Try.prog.info? 36).map (fun i => (i.zero, i.size, i.bytes)) = some (some (.agg #[.int .i64 0, .int .i64 0, .int .i64 0]), 3, 24) := by kernel_rfl
def qc (l x y : Int) (i : Nat) : List Value := [.int .i64 (l + 1), .int .i64 (2 * x + ((i % 2 : Nat) : Int)), .int .i64 (2 * y + ((i / 2 : Nat) : Int))]
def qs (l x y : Int) : Nat → List Value
  | 0 => []
  | k + 1 => qs l x y k ++ qc l x y k
theorem cell_three_new (w : World) (a b c : Value) (t : TypeId) : ∀ j u, [a, b, c][j]? = some u → (w.alloc (.cells #[a, b, c] t)).cell? ((⟨w.heap.size, 0, none⟩ : Addr).add j) = some u := by
  intro j u hj
  match j, hj with
  | 0, hj => simp at hj; subst hj; simp [Addr.add, go_sem]
  | 1, hj => simp at hj; subst hj; simp [Addr.add, go_sem]
  | 2, hj => simp at hj; subst hj; simp [Addr.add, go_sem]
theorem St.grown {w X Y : World} {l : List (Nat × List Value)} {row : Option Nat} (h : St w X l) (hg : X.grownBy Y row) (hr : ∀ r, row = some r → w.heap.size ≤ r ∧ ∀ p ∈ l, p.1 ≠ r) : St w Y l := by
  obtain ⟨hb, hh⟩ := h
  refine ⟨⟨hg.os.trans hb.os, hg.tape.trans hb.tape, hg.output.trans hb.output, Nat.le_trans hb.size hg.size, fun k hk => ?_⟩, ?_⟩
  · refine (hg.block k (Nat.lt_of_lt_of_le hk hb.size) (fun e => ?_)).trans (hb.block k hk)
    have := (hr k e.symm).1
    omega
  · clear hb
    induction l with
    | nil => trivial
    | cons p t ih =>
      obtain ⟨⟨h1, h2, h3⟩, h4⟩ := hh
      have hp : Y.heap[p.1]? = X.heap[p.1]? := hg.block p.1 h1 (fun e => (hr p.1 e.symm).2 p (List.mem_cons_self ..) rfl)
      refine ⟨⟨Nat.lt_of_lt_of_le h1 hg.size, fun o => (World.frozen?_of_block hp).trans (h2 o), ?_⟩, ih (fun r e => ⟨(hr r e).1, fun q hq => (hr r e).2 q (List.mem_cons_of_mem _ hq)⟩) h4⟩
      have : ∀ (i : Nat) (vs : List Value), HasAt X p.1 i vs → HasAt Y p.1 i vs := by
        intro i vs
        induction vs generalizing i with
        | nil => intro _; trivial
        | cons v vs ihv => intro hv; exact ⟨(World.cell?_of_block hp).trans hv.1, ihv _ hv.2⟩
      exact this _ _ h3
theorem row_St {w X : World} {base : Nat} {v : Value} {n : Nat} {xs : List Value} (h : X.ownsRow base 36 3 v (n + 1) xs) (hB : Below w.heap.size w X) :
    ∃ g cap, v = .slice (some ⟨g, 0, none⟩) (n + 1) cap ∧ base ≤ g ∧ n + 1 ≤ cap ∧ St w X [(g, xs)] := by
  obtain ⟨hl, ⟨_, h0⟩ | ⟨g, cap, cur, rfl, hg, hh, hc, _, _, ht⟩⟩ := h
  · omega
  · refine ⟨g, cap, rfl, hg, hc, hB, ⟨(Array.getElem?_eq_some_iff.1 hh).1, fun o => by simp [World.frozen?, hh], hasAt_of _ _ (fun j u hj => ?_)⟩, trivial⟩
    have hj' : cur[j]? = some u := by
      have : j < (n + 1) * 3 := by rw [← hl]; exact (List.getElem?_eq_some_iff.1 hj).1
      rw [← ht, List.getElem?_take_of_lt this] at hj
      simpa using hj
    simp [World.cell?, hh, hj']

set_option maxHeartbeats 1000000 in
theorem l2Quarter_any {l x y : Int} (h : cellB l x y = true) {k : Nat} (hk : k < 4) (w : World) :
    Calls Try.prog 10 #[.agg #[.int .i64 l, .int .i64 x, .int .i64 y], .int .i64 k] w fun e w' => e = .returned (.agg #[.int .i64 (l + 1), .int .i64 (2 * x + ((k % 2 : Nat) : Int)), .int .i64 (2 * y + ((k / 2 : Nat) : Int))]) ∧ Below w.heap.size w w' := by
  obtain ⟨h0, h8, hx, hx1, hy, hy1⟩ := cellB_t.mp h
  obtain ⟨p1, p2⟩ := pw h0 h8
  have : k = 0 ∨ k = 1 ∨ k = 2 ∨ k = 3 := by omega
  have f1 : wrap64 (l + 1) = l + 1 := w64 (by omega) (by omega)
  have f2 : wrap64 (2 * x) = 2 * x := w64 (by omega) (by omega)
  have f3 : wrap64 (2 * y) = 2 * y := w64 (by omega) (by omega)
  have f4 : wrap64 (2 * x + 1) = 2 * x + 1 := w64 (by omega) (by omega)
  have f5 : wrap64 (2 * y + 1) = 2 * y + 1 := w64 (by omega) (by omega)
  rcases this with rfl | rfl | rfl | rfl
  all_goals
    go_enter Try.func10, Try.ntmps10
    go_wp2
  · refine bodyPost_ret (v := .agg #[.int .i64 (l + 1), .int .i64 (2 * x), .int .i64 (2 * y)]) (by simp [results, Try.results10, go_sem]) rfl ⟨by simp, below_alloc2 _ _ _⟩
  · refine bodyPost_ret (v := .agg #[.int .i64 (l + 1), .int .i64 (2 * x + 1), .int .i64 (2 * y)]) (by simp [results, Try.results10, go_sem]) rfl ⟨by simp, below_alloc2 _ _ _⟩
  · refine bodyPost_ret (v := .agg #[.int .i64 (l + 1), .int .i64 (2 * x), .int .i64 (2 * y + 1)]) (by simp [results, Try.results10, go_sem]) rfl ⟨by simp, below_alloc2 _ _ _⟩
  · refine bodyPost_ret (v := .agg #[.int .i64 (l + 1), .int .i64 (2 * x + 1), .int .i64 (2 * y + 1)]) (by simp [results, Try.results10, go_sem]) rfl ⟨by simp, below_alloc2 _ _ _⟩

theorem own_of_below {X Y : World} {base size n : Nat} {e : TypeId} {v : Value} {xs : List Value} (h : X.ownsRow base e size v n xs) (hb : Below X.heap.size X Y) : Y.ownsRow base e size v n xs :=
  h.kept (row := none) ⟨hb.os, hb.tape, hb.output, hb.size, fun k hk _ => hb.block k hk⟩ (by cases hv : v.ownBlock <;> simp)

end Go.Proofs.Ytmfbkbifoehoeaa.M
namespace Go.Proofs.Ytmfbkbifoehoeaa.M
open Go.RowKit Go.Joins

def flat (L : List T3) : List Value := L.flatMap T3.vs
theorem flat_len : ∀ L : List T3, (flat L).length = L.length * 3
  | [] => rfl
  | a :: t => by have := flat_len t; simp only [flat, List.flatMap_cons, List.length_append, List.length_cons] at this ⊢; rw [this]; simp [T3.vs]; omega
theorem flat_append (A B : List T3) : flat (A ++ B) = flat A ++ flat B := List.flatMap_append ..
theorem flat_get : ∀ {L : List T3} {k : Nat} {c : T3}, L[k]? = some c → (flat L)[k * 3]? = some (.int .i64 c.l) ∧ (flat L)[k * 3 + 1]? = some (.int .i64 c.x) ∧ (flat L)[k * 3 + 2]? = some (.int .i64 c.y)
  | [], k, c, h => by simp at h
  | a :: t, 0, c, h => by simp at h; subst h; simp [flat, T3.vs]
  | a :: t, k + 1, c, h => by
    have ih := flat_get (L := t) (k := k) (c := c) (by simpa using h)
    have e : flat (a :: t) = a.vs ++ flat t := by simp [flat]
    have hl : a.vs.length = 3 := rfl
    rw [e, List.getElem?_append_right (by omega), List.getElem?_append_right (by omega), List.getElem?_append_right (by omega), hl]
    rw [show (k + 1) * 3 - 3 = k * 3 by omega, show (k + 1) * 3 + 1 - 3 = k * 3 + 1 by omega, show (k + 1) * 3 + 2 - 3 = k * 3 + 2 by omega]
    exact ih
theorem flat_set : ∀ {L : List T3} {k : Nat} (c : T3), k < L.length → (((flat L).set (k * 3) (.int .i64 c.l)).set (k * 3 + 1) (.int .i64 c.x)).set (k * 3 + 2) (.int .i64 c.y) = flat (L.set k c)
  | [], k, c, h => by simp at h
  | a :: t, 0, c, _ => by simp [flat, T3.vs]
  | a :: t, k + 1, c, h => by
    have ih := flat_set (L := t) (k := k) c (by simpa using h)
    have e : ∀ b, flat (b :: t) = b.vs ++ flat t := fun b => by simp [flat]
    have hl : a.vs.length = 3 := rfl
    have e2 : flat ((a :: t).set (k + 1) c) = a.vs ++ flat (t.set k c) := by simp [flat]
    rw [e, e2, ← ih, List.set_append_right _ _ (by omega), List.set_append_right _ _ (by omega), List.set_append_right _ _ (by omega), hl]
    rw [show (k + 1) * 3 - 3 = k * 3 by omega, show (k + 1) * 3 + 1 - 3 = k * 3 + 1 by omega, show (k + 1) * 3 + 2 - 3 = k * 3 + 2 by omega]
def zro : T3 := ⟨0, 0, 0⟩
theorem made_flat (n : Nat) : (madeCells #[.int .i64 0, .int .i64 0, .int .i64 0] (n * 3)).toList = flat (List.replicate n zro) := by
  have hr : flat (List.replicate n zro) = List.replicate (n * 3) (.int .i64 0) := by
    induction n with
    | zero => rfl
    | succ n ih => rw [List.replicate_succ, show flat (zro :: List.replicate n zro) = zro.vs ++ flat (List.replicate n zro) by simp [flat], ih, show (n + 1) * 3 = n * 3 + 3 by omega]; simp [T3.vs, zro, List.replicate_succ]
  rw [hr]
  refine List.ext_getElem? fun i => ?_
  by_cases hi : i < n * 3
  · have hm : i % 3 = 0 ∨ i % 3 = 1 ∨ i % 3 = 2 := by omega
    rcases hm with hm | hm | hm <;> simp [madeCells, hi, hm]
  · simp [madeCells, hi]

/-- A list of the base's own or later memory. -/
abbrev Ow (W : World) (base : Nat) (v : Value) (L : List T3) : Prop := W.ownsRow base 36 3 v L.length (flat L)
theorem Ow.cs {W : World} {base : Nat} {g n cap : Nat} {L : List T3} (h : Ow W base (.slice (some ⟨g, 0, none⟩) n cap) L) : Cs W g 0 L := by
  have hn : n = L.length := by rcases h.2 with ⟨h1, _⟩ | ⟨_, _, _, h1, _⟩ <;> cases h1; rfl
  subst hn
  refine ⟨(h.lt g rfl).2, fun k c hk => ?_⟩
  have hlt : k < L.length := (List.getElem?_eq_some_iff.1 hk).1
  obtain ⟨a, b, d⟩ := flat_get hk
  simp only [Nat.zero_add]
  exact ⟨(h.cellAt _ (by omega)).trans a, (h.cellAt _ (by omega)).trans b, (h.cellAt _ (by omega)).trans d⟩
theorem Ow.form {W : World} {base : Nat} {v : Value} {L : List T3} (h : Ow W base v L) : ∃ p cap, v = .slice p L.length cap ∧ Sl W p L := by
  rcases h.2 with ⟨rfl, h0⟩ | ⟨g, cap, cur, rfl, _⟩
  · exact ⟨none, 0, by rw [h0], .inl (List.eq_nil_of_length_eq_zero h0)⟩
  · exact ⟨_, _, rfl, .inr ⟨g, 0, rfl, Ow.cs h⟩⟩
theorem Ow.nil (W : World) (base : Nat) : Ow W base (.slice none 0 0) [] := World.ownsRow_nil ..
theorem Ow.sl {W : World} {base : Nat} {p : Option Addr} {n cap : Nat} {L : List T3} (h : Ow W base (.slice p n cap) L) : Sl W p L := by
  obtain ⟨p', cap', e, hs⟩ := h.form
  cases e; exact hs

theorem sc3o {B : Nat} {w w1 : World} {g i j m : Nat} (h : Below B w w1) (hg : B ≤ g) {v0 v1 v2 : Value} : Below B w (((w1.setCell ⟨g, i, none⟩ v0).setCell ⟨g, j, none⟩ v1).setCell ⟨g, m, none⟩ v2) :=
  ((h.setCell (p := ⟨g, i, none⟩) hg v0).setCell (p := ⟨g, j, none⟩) hg v1).setCell (p := ⟨g, m, none⟩) hg v2
theorem gtrans {X Y Z : World} {row : Option Nat} (h : X.grownBy Y row) (k : Y.grownBy Z row) : X.grownBy Z row :=
  ⟨k.os.trans h.os, k.tape.trans h.tape, k.output.trans h.output, Nat.le_trans h.size k.size, fun b hb hr => (k.block b (Nat.lt_of_lt_of_le hb h.size) hr).trans (h.block b hb hr)⟩

def mk (k : Int) (n : Nat) : List T3 := (List.range n).map fun i : Nat => ⟨k + 3 * (i : Int), k + 3 * (i : Int) + 1, k + 3 * (i : Int) + 2⟩
theorem mk_get {k : Int} {n i : Nat} (h : i < n) : (mk k n)[i]? = some ⟨k + 3 * i, k + 3 * i + 1, k + 3 * i + 2⟩ := by simp [mk, h]
theorem mk_len (k : Int) (n : Nat) : (mk k n).length = n := by simp [mk]

end Go.Proofs.Ytmfbkbifoehoeaa.M
namespace Go.Proofs.Ytmfbkbifoehoeaa.M
open Go.RowKit Go.Joins


/-- Behind w nothing old has turned; the listed values are lists of new memory, no two share any. -/
structure Sx (w W : World) (ls : List (Value × List T3)) : Prop where
  bel : Below w.heap.size w W
  own : ∀ p ∈ ls, Ow W w.heap.size p.1 p.2
  dis : ls.Pairwise fun p q => p.1.ownBlock = none ∨ p.1.ownBlock ≠ q.1.ownBlock
theorem Ow.mono {W : World} {b b' : Nat} {v : Value} {L : List T3} (h : Ow W b v L) (hb : b' ≤ b) : Ow W b' v L := by
  rcases h with ⟨h0, h1 | ⟨g, cap, cur, e, hg, r⟩⟩
  · exact ⟨h0, .inl h1⟩
  · exact ⟨h0, .inr ⟨g, cap, cur, e, Nat.le_trans hb hg, r⟩⟩
theorem Sx.nil (w : World) : Sx w w [] := ⟨Below.refl _ _, by simp, .nil⟩
theorem Sx.step {w W W' : World} {ls : List (Value × List T3)} (h : Sx w W ls) (hb : Below W.heap.size W W') : Sx w W' ls :=
  ⟨bstep h.bel hb (Nat.le_refl _), fun p hp => own_of_below (h.own p hp) hb, h.dis⟩
theorem Sx.add {w W W' : World} {ls : List (Value × List T3)} {v : Value} {M : List T3} (h : Sx w W ls) (hr : Ow W' W.heap.size v M) (hb : Below W.heap.size W W') : Sx w W' ((v, M) :: ls) := by
  have h' := h.step hb
  refine ⟨h'.bel, fun p hp => ?_, .cons (fun q hq => ?_) h'.dis⟩
  · rcases List.mem_cons.mp hp with rfl | hp
    · exact Ow.mono hr h.bel.size
    · exact h'.own p hp
  · cases hv : v.ownBlock with
    | none => exact .inl rfl
    | some g =>
      refine .inr fun e => ?_
      have h1 := hr.lt g hv
      have h2 := (h.own q hq).lt g e.symm
      omega
theorem Sx.sub {w W : World} {ls ls' : List (Value × List T3)} (h : Sx w W ls) (hs : ls'.Sublist ls) : Sx w W ls' := ⟨h.bel, fun p hp => h.own p (hs.subset hp), h.dis.sublist hs⟩
/-- One of the lists is written into. -/
theorem Sx.put {w W W' : World} {A B : List (Value × List T3)} {v : Value} {L M : List T3} (h : Sx w W (A ++ (v, L) :: B)) (hr : Ow W' w.heap.size v M) (hg : W.grownBy W' v.ownBlock) : Sx w W' (A ++ (v, M) :: B) := by
  have hv := h.own (v, L) (by simp)
  have hd := h.dis
  rw [List.pairwise_append, List.pairwise_cons] at hd
  obtain ⟨dA, ⟨dv, dB⟩, dAB⟩ := hd
  refine ⟨⟨hg.os.trans h.bel.os, hg.tape.trans h.bel.tape, hg.output.trans h.bel.output, Nat.le_trans h.bel.size hg.size, fun k hk => ?_⟩, fun p hp => ?_, ?_⟩
  · refine (hg.block k (Nat.lt_of_lt_of_le hk h.bel.size) (fun e => ?_)).trans (h.bel.block k hk)
    have := hv.lt k e.symm
    omega
  · simp only [List.mem_append, List.mem_cons] at hp
    rcases hp with hp | rfl | hp
    · refine (h.own p (by simp [hp])).kept hg ?_
      exact dAB p hp (v, L) (by simp)
    · exact hr
    · refine (h.own p (by simp [hp])).kept hg ?_
      rcases dv p hp with e | e
      · rw [e]; cases hp' : p.1.ownBlock <;> simp
      · exact .inr (fun e' => e e'.symm)
  · rw [List.pairwise_append, List.pairwise_cons]
    exact ⟨dA, ⟨dv, dB⟩, fun a ha b hb => by
      rcases List.mem_cons.mp hb with rfl | hb
      · exact dAB a ha (v, L) (by simp)
      · exact dAB a ha b (by simp [hb])⟩
end Go.Proofs.Ytmfbkbifoehoeaa.M
namespace Go.Proofs.Ytmfbkbifoehoeaa.M
open Go.RowKit Go.Joins

def insT (a b : T3) : Bool := insB a.l a.x a.y b.l b.x b.y
def haveB (L : List T3) (c : T3) : Bool := L.any (insT c)
theorem any_take {L : List T3} {f : T3 → Bool} {k : Nat} (hk : k < L.length) : (L.take (k + 1)).any f = ((L.take k).any f || f L[k]) := by
  rw [List.take_succ_eq_append_getElem hk, List.any_append]; simp
theorem any_yes {L : List T3} {f : T3 → Bool} {k : Nat} (hk : k < L.length) (h : f L[k] = true) : L.any f = true := List.any_eq_true.mpr ⟨_, List.getElem_mem hk, h⟩
end Go.Proofs.Ytmfbkbifoehoeaa.M
