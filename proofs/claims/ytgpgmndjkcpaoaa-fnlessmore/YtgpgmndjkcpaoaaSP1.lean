/-
  Lists of numbers in memory of one's own; copy.
-/
import Derived.Test.YtgpgmndjkcpaoaaN2
import Derived.Laws.CopyRow
import Derived.Deep.RegionLaw
import Derived.Deep.AppendLies
namespace Go.Proofs.Ytgpgmndjkcpaoaa
open Go.RowKit Go.Joins

def flat1 (L : List Int) : List Value := L.map fun z => .int .i64 z
theorem flat1_len (L : List Int) : (flat1 L).length = L.length := by simp [flat1]
theorem flat1_append (A B : List Int) : flat1 (A ++ B) = flat1 A ++ flat1 B := by simp [flat1]
theorem flat1_one (L : List Int) : ∀ u ∈ flat1 L, u.oneCell' = true := by
  intro u hu
  obtain ⟨z, _, rfl⟩ := List.mem_map.mp hu
  rfl
theorem flat1_get {L : List Int} {k : Nat} {z : Int} (h : L[k]? = some z) : (flat1 L)[k]? = some (.int .i64 z) := by simp [flat1, h]
abbrev Ow1 (W : World) (base : Nat) (v : Value) (L : List Int) : Prop := W.ownsRow base 2 1 v L.length (flat1 L)
/-- Block g holds the numbers of L from off on. -/
def Cs1 (w : World) (g off : Nat) (L : List Int) : Prop := g < w.heap.size ∧ ∀ k z, L[k]? = some z → w.cell? ⟨g, off + k, none⟩ = some (.int .i64 z)
def Sl1 (w : World) (p : Option Addr) (L : List Int) : Prop := L = [] ∨ ∃ g off, p = some ⟨g, off, none⟩ ∧ Cs1 w g off L
theorem Cs1.step {w w' : World} {g off : Nat} {L : List Int} (h : Cs1 w g off L) (hb : Below w.heap.size w w') : Cs1 w' g off L :=
  ⟨Nat.lt_of_lt_of_le h.1 hb.size, fun k c hk => (hb.cell (p := ⟨g, _, none⟩) h.1).trans (h.2 k c hk)⟩
theorem Sl1.step {w w' : World} {p : Option Addr} {L : List Int} (h : Sl1 w p L) (hb : Below w.heap.size w w') : Sl1 w' p L := by
  rcases h with h | ⟨g, off, h1, h2⟩
  · exact .inl h
  · exact .inr ⟨g, off, h1, h2.step hb⟩
theorem Sl1.at {w : World} {p : Option Addr} {L : List Int} (h : Sl1 w p L) {k : Nat} (hk : k < L.length) : ∃ g off, p = some ⟨g, off, none⟩ ∧ Cs1 w g off L := by
  rcases h with rfl | h
  · simp at hk
  · exact h
theorem Ow1.cs {W : World} {base : Nat} {g n cap : Nat} {L : List Int} (h : Ow1 W base (.slice (some ⟨g, 0, none⟩) n cap) L) : Cs1 W g 0 L := by
  have hn : n = L.length := by rcases h.2 with ⟨h1, _⟩ | ⟨_, _, _, h1, _⟩ <;> cases h1; rfl
  subst hn
  refine ⟨(h.lt g rfl).2, fun k z hk => ?_⟩
  have hlt : k < L.length := (List.getElem?_eq_some_iff.1 hk).1
  rw [Nat.zero_add]
  exact (h.cellAt k (by omega)).trans (flat1_get hk)
theorem Ow1.form {W : World} {base : Nat} {v : Value} {L : List Int} (h : Ow1 W base v L) : ∃ p cap, v = .slice p L.length cap ∧ Sl1 W p L := by
  rcases h.2 with ⟨rfl, h0⟩ | ⟨g, cap, cur, rfl, _⟩
  · exact ⟨none, 0, by rw [h0], .inl (List.eq_nil_of_length_eq_zero h0)⟩
  · exact ⟨_, _, rfl, .inr ⟨g, 0, rfl, Ow1.cs h⟩⟩
theorem Ow1.sl {W : World} {base : Nat} {p : Option Addr} {n cap : Nat} {L : List Int} (h : Ow1 W base (.slice p n cap) L) : Sl1 W p L := by
  obtain ⟨p', cap', e, hs⟩ := h.form
  cases e; exact hs
theorem Ow1.mono {W : World} {b b' : Nat} {v : Value} {L : List Int} (h : Ow1 W b v L) (hb : b' ≤ b) : Ow1 W b' v L := by
  rcases h with ⟨h0, h1 | ⟨g, cap, cur, e, hg, r⟩⟩
  · exact ⟨h0, .inl h1⟩
  · exact ⟨h0, .inr ⟨g, cap, cur, e, Nat.le_trans hb hg, r⟩⟩
theorem Ow1.stored {W : World} {base g n cap k : Nat} {L : List Int} (h : Ow1 W base (.slice (some ⟨g, 0, none⟩) n cap) L) (z : Int) :
    Ow1 (W.setCell ⟨g, k, none⟩ (.int .i64 z)) base (.slice (some ⟨g, 0, none⟩) n cap) (L.set k z) ∧ W.grownBy (W.setCell ⟨g, k, none⟩ (.int .i64 z)) (some g) := by
  have hn : n = L.length := by rcases h.2 with ⟨h1, _⟩ | ⟨_, _, _, h1, _⟩ <;> cases h1; rfl
  subst hn
  obtain ⟨h1, g1⟩ := World.ownsRow.stored h k (.int .i64 z)
  refine ⟨?_, g1⟩
  unfold Ow1
  rw [List.length_set]
  have e : flat1 (L.set k z) = (flat1 L).set k (.int .i64 z) := by simp [flat1, List.map_set]
  rw [e]; exact h1
theorem info2 : (Try.prog.info? 2).map (fun i => (i.zero, i.size, i.bytes)) = some (some (.int .i64 0), 1, 8) := by kernel_rfl
theorem made_flat1 (n : Nat) : (madeCells #[.int .i64 0] n).toList = flat1 (List.replicate n 0) := by
  refine List.ext_getElem? fun i => ?_
  by_cases hi : i < n
  · simp [madeCells, hi, flat1, Nat.mod_one]
  · simp [madeCells, hi, flat1]
theorem put1_len {M B : List Int} {k : Nat} (hk : k + B.length ≤ M.length) : (M.take k ++ B ++ M.drop (k + B.length)).length = M.length := by simp; omega
theorem own_put1 {W : World} {base g n cap k : Nat} {M B : List Int} (h : Ow1 W base (.slice (some ⟨g, 0, none⟩) n cap) M) (hk : k + B.length ≤ M.length) :
    ∃ W', (storeCells ⟨g, k, none⟩ (flat1 B) 0).run Try.prog W = .ok () W' ∧ Ow1 W' base (.slice (some ⟨g, 0, none⟩) n cap) (M.take k ++ B ++ M.drop (k + B.length)) ∧ W.grownBy W' (some g) := by
  obtain ⟨h0, ⟨h1, _⟩ | ⟨g', cap', cur, e, hg, hh, hc, hm, hs, ht⟩⟩ := h
  · cases h1
  · injection e with e1 e2 e3
    injection e1 with e1
    injection e1 with e1
    subst e1 e2 e3
    have hfl := flat1_len B
    have hst := run_storeCells_at Try.prog g k 2 (flat1 B) 0 cur W hh (by rw [hfl, hs]; omega) (flat1_one B)
    refine ⟨_, hst, ?_, ⟨rfl, rfl, rfl, by simp, fun j _ hj => setRow_other W g j _ (fun e => hj (by simp [e]))⟩⟩
    unfold Ow1
    rw [put1_len hk]
    refine ⟨by rw [flat1_len, put1_len hk, Nat.mul_one], .inr ⟨g, cap, _, rfl, hg, setRow_heap W g cur _ 2 _ hh, hc, hm, ?_, ?_⟩⟩
    · simp only [List.size_toArray, List.length_append, List.length_take, List.length_drop, Array.length_toList, hfl]
      omega
    · have ea : flat1 (M.take k) = (flat1 M).take k := by simp [flat1, List.map_take]
      have eb : flat1 (M.drop (k + B.length)) = (flat1 M).drop (k + B.length) := by simp [flat1, List.map_drop]
      rw [flat1_append, flat1_append, ea, eb, ← ht]
      refine List.ext_getElem? fun j => ?_
      have hcl : cur.toList.length = cap * 1 := by simpa using hs
      simp only [List.getElem?_take, List.getElem?_append, List.length_append, List.length_take, List.getElem?_drop, hfl, hcl, Nat.add_zero]
      have e1 : min k (cap * 1) = k := by omega
      have e2 : min k (min (M.length * 1) (cap * 1)) = k := by omega
      rw [e1, e2]
      by_cases j1 : j < M.length * 1
      · rw [if_pos j1]
        by_cases j2 : j < k
        · rw [if_pos (by omega), if_pos j2, if_pos j2, if_pos (by omega), if_pos j2, if_pos j2, if_pos j1]
        · rw [if_neg j2]
          by_cases j3 : j < k + B.length
          · rw [if_pos j3, if_pos j3, if_neg j2]
          · rw [if_neg j3, if_neg j3, if_pos (by omega)]
      · rw [if_neg j1, if_neg (by omega), if_neg (by omega)]
/-- copy of the first numbers of a slice at a into a list of one's own, from its place k on. -/
theorem run_copy1 {W : World} {base g n cap k c c2 m : Nat} {M B : List Int} {a : Addr} (h : Ow1 W base (.slice (some ⟨g, 0, none⟩) n cap) M) (hd : k + m = M.length) (hB : B.length ≤ m) (hsrc : ∀ j u, (flat1 B)[j]? = some u → W.cell? (a.add j) = some u) {l : Nat} (hl : Nat.min l m = B.length) :
    ∃ W', (∀ ty, (Builtin.copy_ #[27, 27] ty #[.slice (some ⟨g, k, none⟩) m c2, .slice (some a) l c]).run Try.prog W = .ok (goInt B.length) W') ∧ Ow1 W' base (.slice (some ⟨g, 0, none⟩) n cap) (M.take k ++ B ++ M.drop (k + B.length)) ∧ W.grownBy W' (some g) := by
  obtain ⟨i0, hi, hz0, hz1, hz2⟩ := info_parts info2
  obtain ⟨W', h1, h2, h3⟩ := own_put1 (k := k) (B := B) h (by omega)
  have hld := run_loadCells_list (P := Try.prog) W a (flat1 B) hsrc
  rw [flat1_len] at hld
  refine ⟨W', fun ty => ?_, h2, h3⟩
  simp [Builtin.copy_, run_underlying Try.underlying27, Builtin.lenOf, Builtin.firstCells, sizeOf, typeInfo, hi, hz1, hl, hld, h1]
theorem step_copy {W W' : World} {ops : Array Oper} {o : Oper} {a : Act} {K : Act → World → Prop} {Q : Exit → Act → World → Prop} {E : Prop} (hgd : o.guard = none) (d x : Operand) (ho : o.op = .call { callee := .builtin .copy, args := #[d, x], argTypes := #[27, 27] }) {vd vx r : Value} (hs : a.eval d = vd) (hx : a.eval x = vx) (hr : ∀ ty, (Builtin.copy_ #[27, 27] ty #[vd, vx]).run Try.prog W = .ok r W')
    (h : K (a.put o.dst r) W') : if Region.wanted o (yielded ops a.tmps) = true then Oper.wp Try.prog o a W K Q else E := by
  have hw : Region.wanted o (yielded ops a.tmps) = true := by simp [Region.wanted, hgd]
  rw [if_pos hw]
  unfold Oper.wp execOp
  simp only [ho, resolve, invoke, builtin, Sem.run_bind, Sem.run_pure, Result.andThen_ok, List.map_toArray, List.map_cons, List.map_nil, hs, hx, hr]
  exact h
end Go.Proofs.Ytgpgmndjkcpaoaa
