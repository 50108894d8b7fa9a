/-
  What lies where: a state that is carried through a walk; lists of stretches in memory.
-/
import Derived.Test.YtgpgmndjkcpaoaaM7
import Derived.Laws.OwnMore
import Derived.Maps.AppendAt
namespace Go.Proofs.Ytgpgmndjkcpaoaa
open Go.RowKit Go.Joins

def HasAt (wx : World) (b : Nat) : Nat → List Value → Prop
  | _, [] => True
  | i, v :: vs => wx.cell? ⟨b, i, none⟩ = some v ∧ HasAt wx b (i + 1) vs
def Has (wx : World) : List (Nat × List Value) → Prop
  | [] => True
  | p :: l => (p.1 < wx.heap.size ∧ (∀ o, wx.frozen? ⟨p.1, o, none⟩ = false) ∧ HasAt wx p.1 0 p.2) ∧ Has wx l
theorem HasAt.step {wx w1 : World} {b : Nat} (hb : Below wx.heap.size wx w1) (hlt : b < wx.heap.size) : ∀ {i : Nat} {vs : List Value}, HasAt wx b i vs → HasAt w1 b i vs
  | _, [], _ => trivial
  | i, _ :: _, ⟨h, t⟩ => ⟨(hb.cell (p := ⟨b, i, none⟩) hlt).trans h, HasAt.step hb hlt t⟩
theorem Has.step {wx w1 : World} (hb : Below wx.heap.size wx w1) : ∀ {l : List (Nat × List Value)}, Has wx l → Has w1 l
  | [], _ => trivial
  | p :: _, ⟨⟨h1, h2, h3⟩, t⟩ => ⟨⟨Nat.lt_of_lt_of_le h1 hb.size, fun o => (hb.frozen (p := ⟨p.1, o, none⟩) h1).trans (h2 o), HasAt.step hb h1 h3⟩, Has.step hb t⟩
theorem Has.mem {wx : World} {p : Nat × List Value} : ∀ {l : List (Nat × List Value)}, Has wx l → p ∈ l → (p.1 < wx.heap.size ∧ (∀ o, wx.frozen? ⟨p.1, o, none⟩ = false) ∧ HasAt wx p.1 0 p.2)
  | _ :: _, ⟨h, t⟩, hm => by
    rcases List.mem_cons.mp hm with rfl | hm
    · exact h
    · exact Has.mem t hm
theorem Has.sub {wx : World} {l : List (Nat × List Value)} (h : Has wx l) : ∀ {l' : List (Nat × List Value)}, (∀ p ∈ l', p ∈ l) → Has wx l'
  | [], _ => trivial
  | p :: _, hs => ⟨h.mem (hs p (List.mem_cons_self ..)), Has.sub h (fun q hq => hs q (List.mem_cons_of_mem _ hq))⟩
theorem hasAt_of {wx : World} {b : Nat} : ∀ (vs : List Value) (i : Nat), (∀ j v, vs[j]? = some v → wx.cell? ⟨b, i + j, none⟩ = some v) → HasAt wx b i vs
  | [], _, _ => trivial
  | v :: vs, i, h => ⟨h 0 v rfl, hasAt_of vs (i + 1) (fun j u hj => by have := h (j + 1) u hj; rwa [show i + (j + 1) = i + 1 + j by omega] at this)⟩

/-- Behind w nothing old has turned; each listed block holds its values. -/
structure St (w wx : World) (l : List (Nat × List Value)) : Prop where
  bel : Below w.heap.size w wx
  has : Has wx l
theorem St.nil (w : World) : St w w [] := ⟨Below.refl _ _, trivial⟩
theorem St.step {w wx w1 : World} {l : List (Nat × List Value)} (h : St w wx l) (hb : Below wx.heap.size wx w1) : St w w1 l := ⟨bstep h.bel hb (Nat.le_refl _), h.has.step hb⟩
theorem St.al {w wx : World} {l : List (Nat × List Value)} (h : St w wx l) (o : Obj) : St w (wx.alloc o) l := h.step (below_alloc1 wx o)
theorem St.dr {w wx : World} {l : List (Nat × List Value)} (h : St w wx l) : St w wx.drew l := h.step (Below.refl _ _).drew
theorem St.sub {w wx : World} {l l' : List (Nat × List Value)} (h : St w wx l) (hs : ∀ p ∈ l', p ∈ l) : St w wx l' := ⟨h.bel, h.has.sub hs⟩
theorem St.push {w wx : World} {l : List (Nat × List Value)} (h : St w wx l) (vs : List Value) (t : TypeId) : St w (wx.alloc (.cells vs.toArray t)) ((wx.heap.size, vs) :: l) := by
  refine ⟨(h.al _).bel, ⟨by simp, fun o => World.frozen?_alloc_at _ _ _ _ rfl, hasAt_of _ _ (fun j v hj => ?_)⟩, (h.al _).has⟩
  rw [Nat.zero_add, World.cell?_alloc_at _ _ _ _ rfl]
  simpa using hj
theorem St.size {w wx : World} {l : List (Nat × List Value)} (h : St w wx l) : w.heap.size ≤ wx.heap.size := h.bel.size


theorem own_of_below {X Y : World} {base size n : Nat} {e : TypeId} {v : Value} {xs : List Value} (h : X.ownsRow base e size v n xs) (hb : Below X.heap.size X Y) : Y.ownsRow base e size v n xs :=
  h.kept (row := none) ⟨hb.os, hb.tape, hb.output, hb.size, fun k hk _ => hb.block k hk⟩ (by cases hv : v.ownBlock <;> simp)
theorem info83 : (Try.prog.info? 83).map (fun i => (i.zero, i.size, i.bytes)) = some (some (.agg #[.int .i64 0, .int .i64 0]), 2, 16) := by kernel_rfl

def T2.v (c : T2) : Value := .agg #[.int .i64 c.x, .int .i64 c.y]
def T2.vs (c : T2) : List Value := [.int .i64 c.x, .int .i64 c.y]

/-- From the cell at off on block g holds the Spots of L, two numbers each. -/
def Cs (w : World) (g off : Nat) (L : List T2) : Prop := g < w.heap.size ∧ ∀ k c, L[k]? = some c → w.cell? ⟨g, off + k * 2, none⟩ = some (.int .i64 c.x) ∧ w.cell? ⟨g, off + k * 2 + 1, none⟩ = some (.int .i64 c.y)
/-- A slice at p, as long as L, reads as L. -/
def Sl (w : World) (p : Option Addr) (L : List T2) : Prop := L = [] ∨ ∃ g off, p = some ⟨g, off, none⟩ ∧ Cs w g off L
theorem Cs.step {w w' : World} {g off : Nat} {L : List T2} (h : Cs w g off L) (hb : Below w.heap.size w w') : Cs w' g off L :=
  ⟨Nat.lt_of_lt_of_le h.1 hb.size, fun k c hk => ⟨(hb.cell (p := ⟨g, _, none⟩) h.1).trans (h.2 k c hk).1, (hb.cell (p := ⟨g, _, none⟩) h.1).trans (h.2 k c hk).2⟩⟩
theorem Sl.step {w w' : World} {p : Option Addr} {L : List T2} (h : Sl w p L) (hb : Below w.heap.size w w') : Sl w' p L := by
  rcases h with h | ⟨g, off, h1, h2⟩
  · exact .inl h
  · exact .inr ⟨g, off, h1, h2.step hb⟩
theorem Sl.at {w : World} {p : Option Addr} {L : List T2} (h : Sl w p L) {k : Nat} (hk : k < L.length) : ∃ g off, p = some ⟨g, off, none⟩ ∧ Cs w g off L := by
  rcases h with rfl | h
  · simp at hk
  · exact h
theorem all_take {L : List T2} {f : T2 → Bool} {k : Nat} (hk : k < L.length) : (L.take (k + 1)).all f = ((L.take k).all f && f L[k]) := by
  rw [List.take_succ_eq_append_getElem hk, List.all_append]; simp
theorem all_no {L : List T2} {f : T2 → Bool} {k : Nat} (hk : k < L.length) (h : f L[k] = false) : L.all f = false := by
  rw [Bool.eq_false_iff]; intro h2; rw [List.all_eq_true] at h2; have := h2 L[k] (List.getElem_mem hk); rw [h] at this; cases this

def flat (L : List T2) : List Value := L.flatMap T2.vs
theorem flat_len : ∀ L : List T2, (flat L).length = L.length * 2
  | [] => rfl
  | a :: t => by have := flat_len t; simp only [flat, List.flatMap_cons, List.length_append, List.length_cons] at this ⊢; rw [this]; simp [T2.vs]; omega
theorem flat_append (A B : List T2) : flat (A ++ B) = flat A ++ flat B := List.flatMap_append ..
theorem flat_get : ∀ {L : List T2} {k : Nat} {c : T2}, L[k]? = some c → (flat L)[k * 2]? = some (.int .i64 c.x) ∧ (flat L)[k * 2 + 1]? = some (.int .i64 c.y)
  | [], k, c, h => by simp at h
  | a :: t, 0, c, h => by simp at h; subst h; simp [flat, T2.vs]
  | a :: t, k + 1, c, h => by
    have ih := flat_get (L := t) (k := k) (c := c) (by simpa using h)
    have e : flat (a :: t) = a.vs ++ flat t := by simp [flat]
    have hl : a.vs.length = 2 := rfl
    rw [e, List.getElem?_append_right (by omega), List.getElem?_append_right (by omega), hl]
    rw [show (k + 1) * 2 - 2 = k * 2 by omega, show (k + 1) * 2 + 1 - 2 = k * 2 + 1 by omega]
    exact ih
theorem flat_set : ∀ {L : List T2} {k : Nat} (c : T2), k < L.length → ((flat L).set (k * 2) (.int .i64 c.x)).set (k * 2 + 1) (.int .i64 c.y) = flat (L.set k c)
  | [], k, c, h => by simp at h
  | a :: t, 0, c, _ => by simp [flat, T2.vs]
  | a :: t, k + 1, c, h => by
    have ih := flat_set (L := t) (k := k) c (by simpa using h)
    have e : ∀ b, flat (b :: t) = b.vs ++ flat t := fun b => by simp [flat]
    have hl : a.vs.length = 2 := rfl
    have e2 : flat ((a :: t).set (k + 1) c) = a.vs ++ flat (t.set k c) := by simp [flat]
    rw [e, e2, ← ih, List.set_append_right _ _ (by omega), List.set_append_right _ _ (by omega), hl]
    rw [show (k + 1) * 2 - 2 = k * 2 by omega, show (k + 1) * 2 + 1 - 2 = k * 2 + 1 by omega]
def zro : T2 := ⟨0, 0⟩
theorem made_flat (n : Nat) : (madeCells #[.int .i64 0, .int .i64 0] (n * 2)).toList = flat (List.replicate n zro) := by
  have hr : flat (List.replicate n zro) = List.replicate (n * 2) (.int .i64 0) := by
    induction n with
    | zero => rfl
    | succ n ih => rw [List.replicate_succ, show flat (zro :: List.replicate n zro) = zro.vs ++ flat (List.replicate n zro) by simp [flat], ih, show (n + 1) * 2 = n * 2 + 2 by omega]; simp [T2.vs, zro, List.replicate_succ]
  rw [hr]
  refine List.ext_getElem? fun i => ?_
  by_cases hi : i < n * 2
  · have hm : i % 2 = 0 ∨ i % 2 = 1 := by omega
    rcases hm with hm | hm <;> simp [madeCells, hi, hm]
  · simp [madeCells, hi]

/-- A list of the base's own or later memory. -/
abbrev Ow (W : World) (base : Nat) (v : Value) (L : List T2) : Prop := W.ownsRow base 83 2 v L.length (flat L)
theorem Ow.cs {W : World} {base : Nat} {g n cap : Nat} {L : List T2} (h : Ow W base (.slice (some ⟨g, 0, none⟩) n cap) L) : Cs W g 0 L := by
  have hn : n = L.length := by rcases h.2 with ⟨h1, _⟩ | ⟨_, _, _, h1, _⟩ <;> cases h1; rfl
  subst hn
  refine ⟨(h.lt g rfl).2, fun k c hk => ?_⟩
  have hlt : k < L.length := (List.getElem?_eq_some_iff.1 hk).1
  obtain ⟨a, b⟩ := flat_get hk
  simp only [Nat.zero_add]
  exact ⟨(h.cellAt _ (by omega)).trans a, (h.cellAt _ (by omega)).trans b⟩
theorem Ow.form {W : World} {base : Nat} {v : Value} {L : List T2} (h : Ow W base v L) : ∃ p cap, v = .slice p L.length cap ∧ Sl W p L := by
  rcases h.2 with ⟨rfl, h0⟩ | ⟨g, cap, cur, rfl, _⟩
  · exact ⟨none, 0, by rw [h0], .inl (List.eq_nil_of_length_eq_zero h0)⟩
  · exact ⟨_, _, rfl, .inr ⟨g, 0, rfl, Ow.cs h⟩⟩
theorem Ow.nil (W : World) (base : Nat) : Ow W base (.slice none 0 0) [] := World.ownsRow_nil ..
theorem Ow.sl {W : World} {base : Nat} {p : Option Addr} {n cap : Nat} {L : List T2} (h : Ow W base (.slice p n cap) L) : Sl W p L := by
  obtain ⟨p', cap', e, hs⟩ := h.form
  cases e; exact hs
theorem sc2o {B : Nat} {w w1 : World} {g i j : Nat} (h : Below B w w1) (hg : B ≤ g) {v0 v1 : Value} : Below B w ((w1.setCell ⟨g, i, none⟩ v0).setCell ⟨g, j, none⟩ v1) :=
  (h.setCell (p := ⟨g, i, none⟩) hg v0).setCell (p := ⟨g, j, none⟩) hg v1
theorem gtrans {X Y Z : World} {row : Option Nat} (h : X.grownBy Y row) (k : Y.grownBy Z row) : X.grownBy Z row :=
  ⟨k.os.trans h.os, k.tape.trans h.tape, k.output.trans h.output, Nat.le_trans h.size k.size, fun b hb hr => (k.block b (Nat.lt_of_lt_of_le hb h.size) hr).trans (h.block b hb hr)⟩
/-- Behind w nothing old has turned; the listed values are lists of new memory, no two share any. -/
structure Sx (w W : World) (ls : List (Value × List T2)) : Prop where
  bel : Below w.heap.size w W
  own : ∀ p ∈ ls, Ow W w.heap.size p.1 p.2
  dis : ls.Pairwise fun p q => p.1.ownBlock = none ∨ p.1.ownBlock ≠ q.1.ownBlock
theorem Ow.mono {W : World} {b b' : Nat} {v : Value} {L : List T2} (h : Ow W b v L) (hb : b' ≤ b) : Ow W b' v L := by
  rcases h with ⟨h0, h1 | ⟨g, cap, cur, e, hg, r⟩⟩
  · exact ⟨h0, .inl h1⟩
  · exact ⟨h0, .inr ⟨g, cap, cur, e, Nat.le_trans hb hg, r⟩⟩
theorem Sx.nil (w : World) : Sx w w [] := ⟨Below.refl _ _, by simp, .nil⟩
theorem Sx.step {w W W' : World} {ls : List (Value × List T2)} (h : Sx w W ls) (hb : Below W.heap.size W W') : Sx w W' ls :=
  ⟨bstep h.bel hb (Nat.le_refl _), fun p hp => own_of_below (h.own p hp) hb, h.dis⟩
theorem Sx.add {w W W' : World} {ls : List (Value × List T2)} {v : Value} {M : List T2} (h : Sx w W ls) (hr : Ow W' W.heap.size v M) (hb : Below W.heap.size W W') : Sx w W' ((v, M) :: ls) := by
  have h' := h.step hb
  refine ⟨h'.bel, fun p hp => ?_, .cons (fun q hq => ?_) h'.dis⟩
  · rcases List.mem_cons.mp hp with rfl | hp
    · exact Ow.mono hr h.bel.size
    · exact h'.own p hp
  · cases hv : v.ownBlock with
    | none => exact .inl rfl
    | some g =>
      refine .inr fun e => ?_
      have h1 := hr.lt g hv
      have h2 := (h.own q hq).lt g e.symm
      omega
theorem Sx.sub {w W : World} {ls ls' : List (Value × List T2)} (h : Sx w W ls) (hs : ls'.Sublist ls) : Sx w W ls' := ⟨h.bel, fun p hp => h.own p (hs.subset hp), h.dis.sublist hs⟩
/-- One of the lists is written into. -/
theorem Sx.put {w W W' : World} {A B : List (Value × List T2)} {v : Value} {L M : List T2} (h : Sx w W (A ++ (v, L) :: B)) (hr : Ow W' w.heap.size v M) (hg : W.grownBy W' v.ownBlock) : Sx w W' (A ++ (v, M) :: B) := by
  have hv := h.own (v, L) (by simp)
  have hd := h.dis
  rw [List.pairwise_append, List.pairwise_cons] at hd
  obtain ⟨dA, ⟨dv, dB⟩, dAB⟩ := hd
  refine ⟨⟨hg.os.trans h.bel.os, hg.tape.trans h.bel.tape, hg.output.trans h.bel.output, Nat.le_trans h.bel.size hg.size, fun k hk => ?_⟩, fun p hp => ?_, ?_⟩
  · refine (hg.block k (Nat.lt_of_lt_of_le hk h.bel.size) (fun e => ?_)).trans (h.bel.block k hk)
    have := hv.lt k e.symm
    omega
  · simp only [List.mem_append, List.mem_cons] at hp
    rcases hp with hp | rfl | hp
    · refine (h.own p (by simp [hp])).kept hg ?_
      exact dAB p hp (v, L) (by simp)
    · exact hr
    · refine (h.own p (by simp [hp])).kept hg ?_
      rcases dv p hp with e | e
      · rw [e]; cases hp' : p.1.ownBlock <;> simp
      · exact .inr (fun e' => e e'.symm)
  · rw [List.pairwise_append, List.pairwise_cons]
    exact ⟨dA, ⟨dv, dB⟩, fun a ha b hb => by
      rcases List.mem_cons.mp hb with rfl | hb
      · exact dAB a ha (v, L) (by simp)
      · exact dAB a ha b (by simp [hb])⟩
end Go.Proofs.Ytgpgmndjkcpaoaa
