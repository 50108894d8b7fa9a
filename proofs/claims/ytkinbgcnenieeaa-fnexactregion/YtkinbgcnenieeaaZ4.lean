/-
  A list of Clauses, as a row's reading tells it.
-/
import Derived.Test.YtkinbgcnenieeaaY4
import Derived.Test.YtkinbgcnenieeaaZ1
namespace Go.Proofs.Ytkinbgcnenieeaa
open Go.RowKit Go.Joins Go.WideShapes Go.ChangeShapes M

theorem cells69 : Try.prog.cellsOf 69 = 3 := by kernel_rfl
set_option maxRecDepth 100000 in
theorem open_Q {H : Type} {enc : TypeId × Value → H} {w : World} {base : Nat} {spare : Nat → Bool} {held : Bool} {fuel : Nat} {x : DataW H × List MemPlace} {cs : List Value}
    (h : DataW.trod enc Try.prog w base spare held fuel 22 cs = some x) : ∃ (s : Sv) (QL : List CQ), cs = [.slice s.p s.n s.c] ∧ QL.length = s.n ∧ RdLS w s.p QL ∧ (∀ q ∈ QL, q.2.1.n ≤ maxLen ∧ q.2.2.n ≤ maxLen) ∧ s.n ≤ maxLen := by
  rcases Go.Deep.open_slice Try.underlying22 h with ⟨hcs, _⟩ | ⟨a, len, cap, m, n, D, Pl, hcs, _, hl, hm, hmm, _, hx⟩
  · exact ⟨⟨none, 0, 0⟩, [], hcs, rfl, ⟨.inl rfl, by simp⟩, by simp, Nat.zero_le _⟩
  · have hlm : len ≤ m := by rw [hmm]; split <;> omega
    have each : ∀ i, i < len → ∃ q : CQ, (∀ j u, (kLQ.vs q)[j]? = some u → w.cell? (a.add (i * 3 + j)) = some u) ∧ RdL w q.1 q.2.1 q.2.2 ∧ q.2.1.n ≤ maxLen ∧ q.2.2.n ≤ maxLen := by
      intro i hi
      obtain ⟨cs', h1, h2⟩ := hx i (by omega)
      rw [cells69] at h1
      obtain ⟨_, hlen, hcell⟩ := World.cells?_some h1
      obtain ⟨xs, k, hk, hxy, _, hxl, hf⟩ := DataW.trod_struct Try.underlying69 h2
      match xs, hxl, cs', hlen with
      | [y0, y1, y2], _, [v0, v1, v2], _ =>
        have g0 := hf 0 _ rfl
        have g1 := hf 1 _ rfl
        have g2 := hf 2 _ rfl
        simp [cells67, cells2] at g0 g1 g2
        obtain ⟨s, L, e0, l0, r0, b0⟩ := open_C g0
        obtain ⟨t, M, e1, l1, r1, b1⟩ := open_C g1
        obtain ⟨u, e2, _, _⟩ := DataW.trod_int Try.underlying2 g2
        simp at e0 e1 e2
        subst e0 e1 e2
        refine ⟨(⟨L, M, u⟩, s, t), fun j u' hu => ?_, ⟨r0, l0, r1, l1⟩, b0, b1⟩
        have hj3 : j < 3 := (List.getElem?_eq_some_iff.1 hu).1
        have dj := hcell j (by omega)
        rw [Go.Deep.add_add] at dj
        have : j = 0 ∨ j = 1 ∨ j = 2 := by omega
        rcases this with rfl | rfl | rfl <;> (simp [kLQ] at hu; subst hu; simpa using dj)
    by_cases h0 : len = 0
    · subst h0; exact ⟨⟨some a, 0, cap⟩, [], hcs, rfl, ⟨.inl rfl, by simp⟩, by simp, Nat.zero_le _⟩
    obtain ⟨q, hq⟩ : ∃ q : Nat → CQ, ∀ i, i < len → (∀ j u, (kLQ.vs (q i))[j]? = some u → w.cell? (a.add (i * 3 + j)) = some u) ∧ RdL w (q i).1 (q i).2.1 (q i).2.2 ∧ (q i).2.1.n ≤ maxLen ∧ (q i).2.2.n ≤ maxLen := by
      haveI : Inhabited CQ := ⟨zq⟩
      exact Go.Deep.choose_lt each
    obtain ⟨b, off, spot⟩ := a
    have hc0 := (hq 0 (by omega)).1 0 _ rfl
    have hspot : spot = none := by simpa [Addr.add] using World.cell?_spot hc0
    subst hspot
    have hb := World.block_lt_of_cell? w _ hc0
    simp [Addr.add] at hb
    refine ⟨⟨some ⟨b, off, none⟩, len, cap⟩, (List.range len).map q, hcs, by simp, ⟨.inr ⟨b, off, rfl, cs_of (by decide) hb fun i hi j u hu => ?_⟩, fun y hy => ?_⟩, fun y hy => ?_, by show len ≤ maxLen; omega⟩
    · have := (hq i hi).1 j u hu
      rw [addr_ad] at this
      exact this
    · simp only [List.mem_map, List.mem_range] at hy
      obtain ⟨i, hi, rfl⟩ := hy
      exact (hq i hi).2.1
    · simp only [List.mem_map, List.mem_range] at hy
      obtain ⟨i, hi, rfl⟩ := hy
      exact (hq i hi).2.2
end Go.Proofs.Ytkinbgcnenieeaa
