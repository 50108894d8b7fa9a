/-
  Cells by quarters of quarters: the list that a recursion makes of a Cell; a list that a call makes longer.
-/
import Derived.Test.YthmpemamagjeeaaM1
import Derived.Test.YthmpemamagjeeaaR1
import Derived.Maps.AppendAt
namespace Go.Proofs.Ythmpemamagjeeaa
open Go.RowKit Go.Joins

/-- What is left out (0), taken whole (2) or cut into quarters. -/
def dec (f : T3 → Int) : Nat → T3 → List T3
  | 0, c => if f c = 0 then [] else [c]
  | n + 1, c => if f c = 0 then [] else if f c = 2 then [c] else (((dec f n (c.q 0) ++ dec f n (c.q 1)) ++ dec f n (c.q 2)) ++ dec f n (c.q 3))
/-- The first k quarters' lists. -/
def decs (f : T3 → Int) (n : Nat) (c : T3) : Nat → List T3
  | 0 => []
  | k + 1 => decs f n c k ++ dec f n (c.q k)
theorem dec_no {f : T3 → Int} {n : Nat} {c : T3} (h : f c = 0) : dec f n c = [] := by cases n <;> simp [dec, h]
theorem dec_full {f : T3 → Int} {n : Nat} {c : T3} (h : f c = 2) : dec f n c = [c] := by cases n <;> simp [dec, h]
theorem dec_part {f : T3 → Int} {n : Nat} {c : T3} (h0 : f c ≠ 0) (h2 : f c ≠ 2) : dec f (n + 1) c = decs f n c 4 := by simp [dec, decs, h0, h2]
theorem dec_len (f : T3 → Int) : ∀ n c, (dec f n c).length ≤ 4 ^ n
  | 0, c => by simp only [dec]; split <;> simp
  | n + 1, c => by
    have hp : 1 ≤ 4 ^ n := Nat.one_le_pow _ _ (by decide)
    simp only [dec]
    split
    · simp
    · split
      · simp; omega
      · have := dec_len f n (c.q 0); have := dec_len f n (c.q 1); have := dec_len f n (c.q 2); have := dec_len f n (c.q 3)
        simp only [List.length_append, Nat.pow_succ]; omega
theorem decs_len (f : T3 → Int) (n : Nat) (c : T3) : ∀ k, (decs f n c k).length ≤ k * 4 ^ n
  | 0 => by simp [decs]
  | k + 1 => by have := decs_len f n c k; have := dec_len f n (c.q k); simp only [decs, List.length_append, Nat.succ_mul]; omega

/-- From W to W' the list v has become v', which reads M; nothing else of W has turned. -/
structure Ext (base : Nat) (W : World) (v : Value) (W' : World) (v' : Value) (M : List T3) : Prop where
  own : Ow W' base v' M
  gr : W.grownBy W' v.ownBlock
  lies : ∀ g, v'.ownBlock = some g → v.ownBlock = some g ∨ W.heap.size ≤ g
theorem Ext.refl {base : Nat} {W : World} {v : Value} {M : List T3} (h : Ow W base v M) : Ext base W v W v M := ⟨h, .refl _ _, fun _ e => .inl e⟩
theorem gr_below {W W' : World} (hb : Below W.heap.size W W') (row : Option Nat) : W.grownBy W' row := ⟨hb.os, hb.tape, hb.output, hb.size, fun k hk _ => hb.block k hk⟩
theorem Ext.trans {base : Nat} {A B C : World} {u v z : Value} {M N : List T3} (h : Ext base A u B v M) (k : Ext base B v C z N) : Ext base A u C z N := by
  refine ⟨k.own, ⟨k.gr.os.trans h.gr.os, k.gr.tape.trans h.gr.tape, k.gr.output.trans h.gr.output, Nat.le_trans h.gr.size k.gr.size, fun i hi hne => ?_⟩, fun g e => ?_⟩
  · refine (k.gr.block i (Nat.lt_of_lt_of_le hi h.gr.size) (fun e => ?_)).trans (h.gr.block i hi hne)
    rcases h.lies i e.symm with e2 | e2
    · exact hne e2.symm
    · omega
  · rcases k.lies g e with e2 | e2
    · exact h.lies g e2
    · exact .inr (Nat.le_trans h.gr.size e2)
/-- Steps that turn nothing, ahead and behind. -/
theorem Ext.ahead {base : Nat} {W W1 W' : World} {v v' : Value} {M : List T3} (hb : Below W.heap.size W W1) (h : Ext base W1 v W' v' M) : Ext base W v W' v' M := by
  refine ⟨h.own, World.grownBy.trans (gr_below hb _) h.gr, fun g e => ?_⟩
  rcases h.lies g e with e2 | e2
  · exact .inl e2
  · exact .inr (Nat.le_trans hb.size e2)
theorem Ext.behind {base : Nat} {W W1 W' : World} {v v' : Value} {M : List T3} (h : Ext base W v W1 v' M) (hb : Below W1.heap.size W1 W') : Ext base W v W' v' M := by
  refine ⟨own_of_below h.own hb, ⟨hb.os.trans h.gr.os, hb.tape.trans h.gr.tape, hb.output.trans h.gr.output, Nat.le_trans h.gr.size hb.size, fun i hi hne => (hb.block i (Nat.lt_of_lt_of_le hi h.gr.size)).trans (h.gr.block i hi hne)⟩, h.lies⟩
theorem HasAt.grown {X Y : World} {b : Nat} (hp : Y.heap[b]? = X.heap[b]?) : ∀ {i : Nat} {vs : List Value}, HasAt X b i vs → HasAt Y b i vs
  | _, [], _ => trivial
  | _, _ :: _, ⟨h, t⟩ => ⟨(World.cell?_of_block hp).trans h, HasAt.grown hp t⟩
theorem Has.grown {X Y : World} {row : Option Nat} (hg : X.grownBy Y row) : ∀ {l : List (Nat × List Value)}, Has X l → (∀ p ∈ l, row ≠ some p.1) → Has Y l
  | [], _, _ => trivial
  | p :: _, ⟨⟨h1, h2, h3⟩, t⟩, hd => by
    have hp : Y.heap[p.1]? = X.heap[p.1]? := hg.block p.1 h1 (fun e => hd p (List.mem_cons_self ..) e.symm)
    exact ⟨⟨Nat.lt_of_lt_of_le h1 hg.size, fun o => (World.frozen?_of_block hp).trans (h2 o), HasAt.grown hp h3⟩, Has.grown hg t (fun q hq => hd q (List.mem_cons_of_mem _ hq))⟩
/-- Boxes that are no part of the list stay so. -/
theorem Ext.far {base : Nat} {W W' : World} {v v' : Value} {M : List T3} (h : Ext base W v W' v' M) {l : List (Nat × List Value)} (hh : Has W l) (hd : ∀ p ∈ l, v.ownBlock ≠ some p.1) : Has W' l ∧ ∀ p ∈ l, v'.ownBlock ≠ some p.1 := by
  refine ⟨hh.grown h.gr hd, fun p hp e => ?_⟩
  rcases h.lies _ e with e2 | e2
  · exact hd p hp e2
  · have := (hh.mem hp).1; omega
end Go.Proofs.Ythmpemamagjeeaa
