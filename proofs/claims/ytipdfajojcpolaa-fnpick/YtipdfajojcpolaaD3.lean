/-
  Lists of Spots drawn: the cursor, a list of one's own.
-/
import Derived.Test.YtipdfajojcpolaaD2
import Derived.Test.YtipdfajojcpolaaPK13
import Derived.Test.YtipdfajojcpolaaN2
namespace Go.Proofs.Ytipdfajojcpolaa
open Go.RowKit Go.Joins
attribute [local go_sem ↓] Go.wp_at_zero Go.wp_at_succ
theorem run_app {W : World} {base : Nat} {ty : TypeId} {g0 cap0 : Nat} {M B : List T2} (hown : Ow W base (.slice (some ⟨g0, 0, none⟩) M.length cap0) M) (ad : Addr) (c : Nat) (hnews : ∀ j u, (flat B)[j]? = some u → W.cell? (ad.add j) = some u) (hl : M.length + B.length ≤ 1000000) (hbase : base ≤ W.heap.size) :
    ∃ g cap w', (Builtin.append_ #[24, 24] ty #[.slice (some ⟨g0, 0, none⟩) M.length cap0, .slice (some ad) B.length c]).run Try.prog W = .ok (.slice (some ⟨g, 0, none⟩) (M ++ B).length cap) w' ∧ Ow w' base (.slice (some ⟨g, 0, none⟩) (M ++ B).length cap) (M ++ B) ∧ W.grownBy w' (some g0) ∧ (g = g0 ∨ g = W.heap.size) := by
  obtain ⟨i0, hi, hz0, hz1, hz2⟩ := info_parts info28
  obtain ⟨v', w', h1, h2, h3, h4, h5⟩ := run_append_own_at (P := Try.prog) W base 24 ty 28 i0 (.agg #[.int .i64 0, .int .i64 0]) 2 16 Try.underlying24 hi hz0 hz1 hz2 rfl (by decide) _ _ _ hown ad B.length c (flat B) (flat_len B) hnews (flat_one B) (by unfold maxLen; omega) (by omega) hbase
  have hne : ¬ v' = .slice none 0 0 := fun e => by have := (h4.mp e).1; cases this
  rcases h2.2 with ⟨e, _⟩ | ⟨g, cap, cur, e, _⟩
  · exact absurd e hne
  · subst e
    rw [← List.length_append] at h1 h2
    rw [← flat_append] at h2
    refine ⟨g, cap, w', h1, h2, h3, ?_⟩
    rcases h5 with h5 | h5
    · left; injection h5
    · right; injection h5
theorem wp_app {W : World} {o : Oper} {a : Act} {K : Act → World → Prop} {Q : Exit → Act → World → Prop} (s x : Operand) (ho : o.op = .call { callee := .builtin .append, args := #[s, x], argTypes := #[24, 24] }) {base g0 cap0 : Nat} {M B : List T2} (hs : a.eval s = .slice (some ⟨g0, 0, none⟩) M.length cap0) (hown : Ow W base (.slice (some ⟨g0, 0, none⟩) M.length cap0) M) (ad : Addr) (c : Nat) (hx : a.eval x = .slice (some ad) B.length c) (hnews : ∀ j u, (flat B)[j]? = some u → W.cell? (ad.add j) = some u) (hl : M.length + B.length ≤ 1000000) (hbase : base ≤ W.heap.size)
    (h : ∀ g cap w', Ow w' base (.slice (some ⟨g, 0, none⟩) (M ++ B).length cap) (M ++ B) → W.grownBy w' (some g0) → (g = g0 ∨ g = W.heap.size) → K (a.put o.dst (.slice (some ⟨g, 0, none⟩) (M ++ B).length cap)) w') : o.wp Try.prog a W K Q := by
  obtain ⟨g, cap, w', hr, h2, h3, h4⟩ := run_app (ty := o.type) hown ad c hnews hl hbase
  unfold Oper.wp execOp
  simp only [ho, resolve, invoke, builtin, Sem.run_bind, Sem.run_pure, Result.andThen_ok, List.map_toArray, List.map_cons, List.map_nil, hs, hx, hr]
  exact h g cap w' h2 h3 h4
theorem wpList_app {W : World} {ops : Array Oper} {rest : List Oper} {o : Oper} {a : Act} {Q : Exit → Act → World → Prop} (hgd : o.guard = none) (s x : Operand) (ho : o.op = .call { callee := .builtin .append, args := #[s, x], argTypes := #[24, 24] }) {base g0 cap0 : Nat} {M B : List T2} (hs : a.eval s = .slice (some ⟨g0, 0, none⟩) M.length cap0) (hown : Ow W base (.slice (some ⟨g0, 0, none⟩) M.length cap0) M) (ad : Addr) (c : Nat) (hx : a.eval x = .slice (some ad) B.length c) (hnews : ∀ j u, (flat B)[j]? = some u → W.cell? (ad.add j) = some u) (hl : M.length + B.length ≤ 1000000) (hbase : base ≤ W.heap.size)
    (h : ∀ g cap w', Ow w' base (.slice (some ⟨g, 0, none⟩) (M ++ B).length cap) (M ++ B) → W.grownBy w' (some g0) → (g = g0 ∨ g = W.heap.size) → wpList Try.prog ops Q rest (a.put o.dst (.slice (some ⟨g, 0, none⟩) (M ++ B).length cap)) w') : wpList Try.prog ops Q (o :: rest) a W :=
  wpList_plain hgd fun _ hK => wp_app s x ho hs hown ad c hx hnews hl hbase fun g cap w' h2 h3 h4 => hK _ _ (h g cap w' h2 h3 h4)
theorem Has.grown {X Y : World} {g0 : Nat} (hg : X.grownBy Y (some g0)) : ∀ {l : List (Nat × List Value)}, (∀ p ∈ l, p.1 ≠ g0) → Has X l → Has Y l
  | [], _, _ => trivial
  | p :: l, hl, ⟨⟨h1, h2, h3⟩, t⟩ => by
    have hb := hg.block p.1 h1 (fun e => hl p (by simp) (by injection e))
    refine ⟨⟨Nat.lt_of_lt_of_le h1 hg.size, fun o => ?_, hasAt_of _ _ (fun j v hj => ?_)⟩, Has.grown hg (fun q hq => hl q (List.mem_cons_of_mem _ hq)) t⟩
    · have := h2 o
      unfold World.frozen? at this ⊢
      rw [hb]; exact this
    · have := HasAt.get h3 j v hj
      exact (World.cell?_of_block (w := X) hb).trans this
theorem Turn.gr {g : Nat} {w w' : World} (h : Turn g w w') : w.grownBy w' (some g) := ⟨h.os, h.tape, h.output, h.size, fun k hk hne => h.block k hk (fun e => hne (by rw [e]))⟩
theorem Ow.turn {g base : Nat} {W W' : World} {v : Value} {M : List T2} (h : Ow W base v M) (t : Turn g W W') (hg : g < base) : Ow W' base v M :=
  h.kept t.gr (.inr fun e => by have := (h.lt g e).1; omega)
theorem Has.turn {g : Nat} {W W' : World} {l : List (Nat × List Value)} (h : Has W l) (t : Turn g W W') (hl : ∀ p ∈ l, p.1 ≠ g) : Has W' l := h.grown t.gr hl
theorem Turn.row {g : Nat} {w W W' : World} {v : Value} {M : List T2} (h : Turn g w W) (ho : Ow W w.heap.size v M) (hg : W.grownBy W' v.ownBlock) : Turn g w W' :=
  ⟨hg.os.trans h.os, hg.tape.trans h.tape, hg.output.trans h.output, Nat.le_trans h.size hg.size, fun k hk hne => (hg.block k (Nat.lt_of_lt_of_le hk h.size) (fun e => by have := (ho.lt k e.symm).1; omega)).trans (h.block k hk hne)⟩
/-- What a drawing call leaves: the cursor, a list of one's own. -/
structure Dr (w W : World) (g : Nat) (a : Option Addr) (len cap : Nat) (zs : List Int) (v : Value) (M : List T2) : Prop where
  turn : Turn g w W
  cur : Cur W g a len cap zs
  own : Ow W w.heap.size v M
theorem Dr.call {w W W' : World} {g : Nat} {a : Option Addr} {len cap : Nat} {zs : List Int} {v : Value} {M : List T2} (h : Dr w W g a len cap zs v M) (hg : g < w.heap.size) (t : Turn g W W') (c : Cur W' g a len cap zs) : Dr w W' g a len cap zs v M :=
  ⟨h.turn.trans t, c, h.own.turn t hg⟩
theorem Dr.below {w W W' : World} {g : Nat} {a : Option Addr} {len cap : Nat} {zs : List Int} {v : Value} {M : List T2} (h : Dr w W g a len cap zs v M) (hb : Below W.heap.size W W') : Dr w W' g a len cap zs v M :=
  ⟨h.turn.trans (Turn.of hb), h.cur.below hb, own_of_below h.own hb⟩
theorem Dr.row {w W W' : World} {g : Nat} {a : Option Addr} {len cap : Nat} {zs : List Int} {v v' : Value} {M M' : List T2} (h : Dr w W g a len cap zs v M) (hw : Rd w g a len zs) (hg : g < w.heap.size) (hgr : W.grownBy W' v.ownBlock) (ho : Ow W' w.heap.size v' M') : Dr w W' g a len cap zs v' M' := by
  have t := h.turn.row h.own hgr
  refine ⟨t, ?_, ho⟩
  exact Cur.keep2 h.cur hw t (hgr.block g h.cur.hg (fun e => by have := (h.own.lt g e.symm).1; omega)) (Nat.lt_of_lt_of_le h.cur.hg hgr.size)
theorem grown_set (W : World) (b o : Nat) (u : Value) : W.grownBy (W.setCell ⟨b, o, none⟩ u) (some b) :=
  ⟨rfl, rfl, rfl, by simp, fun k _ hne => Below.heap_setCell W ⟨b, o, none⟩ u k (fun e => hne (by rw [show k = b from e]))⟩
theorem Dr.set {w W : World} {g b o : Nat} {a : Option Addr} {len cap : Nat} {zs : List Int} {v : Value} {M : List T2} (h : Dr w W g a len cap zs v M) (hw : Rd w g a len zs) (hb : w.heap.size ≤ b) (hbg : b ≠ g) (hbo : v.ownBlock ≠ some b) (u : Value) : Dr w (W.setCell ⟨b, o, none⟩ u) g a len cap zs v M :=
  ⟨h.turn.setNew hb u, Cur.keep2 h.cur hw (h.turn.setNew hb u) (Below.heap_setCell W ⟨b, o, none⟩ u g (fun e => hbg e.symm)) (by simpa using h.cur.hg), h.own.kept (grown_set W b o u) (.inr hbo)⟩
theorem Has.set {W : World} {b : Nat} {vs : List Value} (h : Has W [(b, vs)]) (i : Nat) (hi : i < vs.length) (v : Value) : Has (W.setCell ⟨b, i, none⟩ v) [(b, vs.set i v)] := by
  obtain ⟨⟨h2, h3, h4⟩, _⟩ := h
  refine ⟨⟨by simpa using h2, fun o => (World.frozen?_setCell ..).trans (h3 o), hasAt_of _ _ (fun j u hj => ?_)⟩, trivial⟩
  have hg := HasAt.get h4
  by_cases e : i = j
  · subst e
    have hu : u = v := by rw [List.getElem?_set_self hi] at hj; exact (Option.some.inj hj).symm
    subst hu
    have := hg i _ (List.getElem?_eq_getElem hi)
    rw [Nat.zero_add] at this ⊢
    exact World.cell?_setCell_same' _ _ _ (by rw [this]; rfl)
  · rw [List.getElem?_set_ne e] at hj
    have := hg j u hj
    rw [Nat.zero_add] at this ⊢
    refine (World.cell?_setCell_other _ _ _ _ (fun q => e ?_)).trans this
    injection q
end Go.Proofs.Ytipdfajojcpolaa
