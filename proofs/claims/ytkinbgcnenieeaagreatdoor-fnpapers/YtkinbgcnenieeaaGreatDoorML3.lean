/-
  The law's own looks at lists of Cells, second part: alike, still marked, not too long; a state that carries several lists.
-/
import Derived.Test.YtkinbgcnenieeaaGreatDoorML1
import Derived.Test.YtkinbgcnenieeaaGreatDoorMQ1
import Derived.Laws.OwnMore
import Derived.Deep.RegionHeld3
namespace Go.Proofs.YtkinbgcnenieeaaGreatDoor.M
open Go.RowKit Go.Joins

def flat (L : List T3) : List Value := L.flatMap T3.vs
theorem flat_len : ∀ L : List T3, (flat L).length = L.length * 3
  | [] => rfl
  | a :: t => by have := flat_len t; simp only [flat, List.flatMap_cons, List.length_append, List.length_cons] at this ⊢; rw [this]; simp [T3.vs]; omega
theorem flat_append (A B : List T3) : flat (A ++ B) = flat A ++ flat B := List.flatMap_append ..
theorem flat_get : ∀ {L : List T3} {k : Nat} {c : T3}, L[k]? = some c → (flat L)[k * 3]? = some (.int .i64 c.l) ∧ (flat L)[k * 3 + 1]? = some (.int .i64 c.x) ∧ (flat L)[k * 3 + 2]? = some (.int .i64 c.y)
  | [], k, c, h => by simp at h
  | a :: t, 0, c, h => by simp at h; subst h; simp [flat, T3.vs]
  | a :: t, k + 1, c, h => by
    have ih := flat_get (L := t) (k := k) (c := c) (by simpa using h)
    have e : flat (a :: t) = a.vs ++ flat t := by simp [flat]
    have hl : a.vs.length = 3 := rfl
    rw [e, List.getElem?_append_right (by omega), List.getElem?_append_right (by omega), List.getElem?_append_right (by omega), hl]
    rw [show (k + 1) * 3 - 3 = k * 3 by omega, show (k + 1) * 3 + 1 - 3 = k * 3 + 1 by omega, show (k + 1) * 3 + 2 - 3 = k * 3 + 2 by omega]
    exact ih
theorem flat_set : ∀ {L : List T3} {k : Nat} (c : T3), k < L.length → (((flat L).set (k * 3) (.int .i64 c.l)).set (k * 3 + 1) (.int .i64 c.x)).set (k * 3 + 2) (.int .i64 c.y) = flat (L.set k c)
  | [], k, c, h => by simp at h
  | a :: t, 0, c, _ => by simp [flat, T3.vs]
  | a :: t, k + 1, c, h => by
    have ih := flat_set (L := t) (k := k) c (by simpa using h)
    have e : ∀ b, flat (b :: t) = b.vs ++ flat t := fun b => by simp [flat]
    have hl : a.vs.length = 3 := rfl
    have e2 : flat ((a :: t).set (k + 1) c) = a.vs ++ flat (t.set k c) := by simp [flat]
    rw [e, e2, ← ih, List.set_append_right _ _ (by omega), List.set_append_right _ _ (by omega), List.set_append_right _ _ (by omega), hl]
    rw [show (k + 1) * 3 - 3 = k * 3 by omega, show (k + 1) * 3 + 1 - 3 = k * 3 + 1 by omega, show (k + 1) * 3 + 2 - 3 = k * 3 + 2 by omega]
def zro : T3 := ⟨0, 0, 0⟩
theorem made_flat (n : Nat) : (madeCells #[.int .i64 0, .int .i64 0, .int .i64 0] (n * 3)).toList = flat (List.replicate n zro) := by
  have hr : flat (List.replicate n zro) = List.replicate (n * 3) (.int .i64 0) := by
    induction n with
    | zero => rfl
    | succ n ih => rw [List.replicate_succ, show flat (zro :: List.replicate n zro) = zro.vs ++ flat (List.replicate n zro) by simp [flat], ih, show (n + 1) * 3 = n * 3 + 3 by omega]; simp [T3.vs, zro, List.replicate_succ]
  rw [hr]
  refine List.ext_getElem? fun i => ?_
  by_cases hi : i < n * 3
  · have hm : i % 3 = 0 ∨ i % 3 = 1 ∨ i % 3 = 2 := by omega
    rcases hm with hm | hm | hm <;> simp [madeCells, hi, hm]
  · simp [madeCells, hi]

/-- A list of the base's own or later memory. -/
abbrev Ow (W : World) (base : Nat) (v : Value) (L : List T3) : Prop := W.ownsRow base 89 3 v L.length (flat L)
theorem Ow.cs {W : World} {base : Nat} {g n cap : Nat} {L : List T3} (h : Ow W base (.slice (some ⟨g, 0, none⟩) n cap) L) : Cs W g 0 L := by
  have hn : n = L.length := by rcases h.2 with ⟨h1, _⟩ | ⟨_, _, _, h1, _⟩ <;> cases h1; rfl
  subst hn
  refine ⟨(h.lt g rfl).2, fun k c hk => ?_⟩
  have hlt : k < L.length := (List.getElem?_eq_some_iff.1 hk).1
  obtain ⟨a, b, d⟩ := flat_get hk
  simp only [Nat.zero_add]
  exact ⟨(h.cellAt _ (by omega)).trans a, (h.cellAt _ (by omega)).trans b, (h.cellAt _ (by omega)).trans d⟩
theorem Ow.form {W : World} {base : Nat} {v : Value} {L : List T3} (h : Ow W base v L) : ∃ p cap, v = .slice p L.length cap ∧ Sl W p L := by
  rcases h.2 with ⟨rfl, h0⟩ | ⟨g, cap, cur, rfl, _⟩
  · exact ⟨none, 0, by rw [h0], .inl (List.eq_nil_of_length_eq_zero h0)⟩
  · exact ⟨_, _, rfl, .inr ⟨g, 0, rfl, Ow.cs h⟩⟩
theorem Ow.nil (W : World) (base : Nat) : Ow W base (.slice none 0 0) [] := World.ownsRow_nil ..
theorem Ow.sl {W : World} {base : Nat} {p : Option Addr} {n cap : Nat} {L : List T3} (h : Ow W base (.slice p n cap) L) : Sl W p L := by
  obtain ⟨p', cap', e, hs⟩ := h.form
  cases e; exact hs

theorem sc3o {B : Nat} {w w1 : World} {g i j m : Nat} (h : Below B w w1) (hg : B ≤ g) {v0 v1 v2 : Value} : Below B w (((w1.setCell ⟨g, i, none⟩ v0).setCell ⟨g, j, none⟩ v1).setCell ⟨g, m, none⟩ v2) :=
  ((h.setCell (p := ⟨g, i, none⟩) hg v0).setCell (p := ⟨g, j, none⟩) hg v1).setCell (p := ⟨g, m, none⟩) hg v2
theorem gtrans {X Y Z : World} {row : Option Nat} (h : X.grownBy Y row) (k : Y.grownBy Z row) : X.grownBy Z row :=
  ⟨k.os.trans h.os, k.tape.trans h.tape, k.output.trans h.output, Nat.le_trans h.size k.size, fun b hb hr => (k.block b (Nat.lt_of_lt_of_le hb h.size) hr).trans (h.block b hb hr)⟩

def mk (k : Int) (n : Nat) : List T3 := (List.range n).map fun i : Nat => ⟨k + 3 * (i : Int), k + 3 * (i : Int) + 1, k + 3 * (i : Int) + 2⟩
theorem mk_get {k : Int} {n i : Nat} (h : i < n) : (mk k n)[i]? = some ⟨k + 3 * i, k + 3 * i + 1, k + 3 * i + 2⟩ := by simp [mk, h]
theorem mk_len (k : Int) (n : Nat) : (mk k n).length = n := by simp [mk]

end Go.Proofs.YtkinbgcnenieeaaGreatDoor.M
namespace Go.Proofs.YtkinbgcnenieeaaGreatDoor.M
open Go.RowKit Go.Joins

theorem keepS {P C : World → Prop} (hS : ∀ w', P w' → C w') {w' : World} (h : P w') : P w' ∧ C w' := ⟨h, hS _ h⟩
def lInB (l x y m p q : Int) : Bool := decide (m ≤ l ∧ x / 2 ^ (l - m).toNat = p ∧ y / 2 ^ (l - m).toNat = q)
theorem half_eq (x : Int) : ∀ k : Nat, half x k = x / 2 ^ k
  | 0 => by simp [half]
  | k + 1 => by
    rw [half, half_eq x k, Int.pow_succ]
    exact Int.ediv_ediv_of_nonneg (Int.pow_nonneg (by decide))
theorem isUp_iff {l x y m p q : Int} : ∀ {n : Nat}, isUp l x y m p q n = true ↔ ∃ k : Nat, k < n ∧ l - k = m ∧ half x k = p ∧ half y k = q
  | 0 => by simp [isUp]
  | n + 1 => by
    rw [isUp, Bool.or_eq_true, isUp_iff]
    simp only [Bool.and_eq_true, beq_iff_eq]
    constructor
    · rintro (⟨k, h1, h2⟩ | ⟨⟨h1, h2⟩, h3⟩)
      · exact ⟨k, by omega, h2⟩
      · exact ⟨n, by omega, h1, h2, h3⟩
    · rintro ⟨k, h1, h2, h3, h4⟩
      by_cases e : k = n
      · subst e; exact .inr ⟨⟨h2, h3⟩, h4⟩
      · exact .inl ⟨k, by omega, h2, h3, h4⟩
theorem insB_eq (l x y m p q : Int) : insB l x y m p q = ((cellB l x y && cellB m p q) && lInB l x y m p q) := by
  cases hv : (cellB l x y && cellB m p q)
  · simp [insB, hv]
  · obtain ⟨g1, g2⟩ := (Bool.and_eq_true _ _).mp hv
    have h1 := cell_lev g1
    have h2 := cell_lev g2
    rw [insB, hv, Bool.true_and, Bool.true_and, Bool.eq_iff_iff, isUp_iff, lInB, decide_eq_true_iff]
    constructor
    · rintro ⟨k, a, b, c, d⟩
      have : (l - m).toNat = k := by omega
      rw [this, ← half_eq, ← half_eq]
      exact ⟨by omega, c, d⟩
    · rintro ⟨a, b, c⟩
      exact ⟨(l - m).toNat, by omega, by omega, by rw [half_eq]; exact b, by rw [half_eq]; exact c⟩

end Go.Proofs.YtkinbgcnenieeaaGreatDoor.M
namespace Go.Proofs.YtkinbgcnenieeaaGreatDoor.M
open Go.RowKit Go.Joins


/-- Behind w nothing old has turned; the listed values are lists of new memory, no two share any. -/
structure Sx (w W : World) (ls : List (Value × List T3)) : Prop where
  bel : Below w.heap.size w W
  own : ∀ p ∈ ls, Ow W w.heap.size p.1 p.2
  dis : ls.Pairwise fun p q => p.1.ownBlock = none ∨ p.1.ownBlock ≠ q.1.ownBlock
theorem Ow.mono {W : World} {b b' : Nat} {v : Value} {L : List T3} (h : Ow W b v L) (hb : b' ≤ b) : Ow W b' v L := by
  rcases h with ⟨h0, h1 | ⟨g, cap, cur, e, hg, r⟩⟩
  · exact ⟨h0, .inl h1⟩
  · exact ⟨h0, .inr ⟨g, cap, cur, e, Nat.le_trans hb hg, r⟩⟩
theorem Sx.nil (w : World) : Sx w w [] := ⟨Below.refl _ _, by simp, .nil⟩
theorem Sx.step {w W W' : World} {ls : List (Value × List T3)} (h : Sx w W ls) (hb : Below W.heap.size W W') : Sx w W' ls :=
  ⟨bstep h.bel hb (Nat.le_refl _), fun p hp => own_of_below (h.own p hp) hb, h.dis⟩
theorem Sx.add {w W W' : World} {ls : List (Value × List T3)} {v : Value} {M : List T3} (h : Sx w W ls) (hr : Ow W' W.heap.size v M) (hb : Below W.heap.size W W') : Sx w W' ((v, M) :: ls) := by
  have h' := h.step hb
  refine ⟨h'.bel, fun p hp => ?_, .cons (fun q hq => ?_) h'.dis⟩
  · rcases List.mem_cons.mp hp with rfl | hp
    · exact Ow.mono hr h.bel.size
    · exact h'.own p hp
  · cases hv : v.ownBlock with
    | none => exact .inl rfl
    | some g =>
      refine .inr fun e => ?_
      have h1 := hr.lt g hv
      have h2 := (h.own q hq).lt g e.symm
      omega
theorem Sx.sub {w W : World} {ls ls' : List (Value × List T3)} (h : Sx w W ls) (hs : ls'.Sublist ls) : Sx w W ls' := ⟨h.bel, fun p hp => h.own p (hs.subset hp), h.dis.sublist hs⟩
/-- One of the lists is written into. -/
theorem Sx.put {w W W' : World} {A B : List (Value × List T3)} {v : Value} {L M : List T3} (h : Sx w W (A ++ (v, L) :: B)) (hr : Ow W' w.heap.size v M) (hg : W.grownBy W' v.ownBlock) : Sx w W' (A ++ (v, M) :: B) := by
  have hv := h.own (v, L) (by simp)
  have hd := h.dis
  rw [List.pairwise_append, List.pairwise_cons] at hd
  obtain ⟨dA, ⟨dv, dB⟩, dAB⟩ := hd
  refine ⟨⟨hg.os.trans h.bel.os, hg.tape.trans h.bel.tape, hg.output.trans h.bel.output, Nat.le_trans h.bel.size hg.size, fun k hk => ?_⟩, fun p hp => ?_, ?_⟩
  · refine (hg.block k (Nat.lt_of_lt_of_le hk h.bel.size) (fun e => ?_)).trans (h.bel.block k hk)
    have := hv.lt k e.symm
    omega
  · simp only [List.mem_append, List.mem_cons] at hp
    rcases hp with hp | rfl | hp
    · refine (h.own p (by simp [hp])).kept hg ?_
      exact dAB p hp (v, L) (by simp)
    · exact hr
    · refine (h.own p (by simp [hp])).kept hg ?_
      rcases dv p hp with e | e
      · rw [e]; cases hp' : p.1.ownBlock <;> simp
      · exact .inr (fun e' => e e'.symm)
  · rw [List.pairwise_append, List.pairwise_cons]
    exact ⟨dA, ⟨dv, dB⟩, fun a ha b hb => by
      rcases List.mem_cons.mp hb with rfl | hb
      · exact dAB a ha (v, L) (by simp)
      · exact dAB a ha b (by simp [hb])⟩
end Go.Proofs.YtkinbgcnenieeaaGreatDoor.M
