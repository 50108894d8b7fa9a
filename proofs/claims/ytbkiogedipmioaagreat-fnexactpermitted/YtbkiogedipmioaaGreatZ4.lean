/-
  A list of Clauses, as a row's reading tells it.
-/
import Derived.Test.YtbkiogedipmioaaGreatY2
import Derived.OpenShut
import Derived.Deep.Slices
import Derived.ProofKit
import Derived.Test.YtbkiogedipmioaaGreatZ1
namespace Go.Proofs.YtbkiogedipmioaaGreat
open Go.RowKit Go.Joins Go.WideShapes Go.ChangeShapes M

theorem addr_ad (b off j : Nat) : (⟨b, off, none⟩ : Addr).add j = ⟨b, off + j, none⟩ := by unfold Addr.add; split <;> simp_all
theorem cs_of {α : Type} {K : Kd α} (hp : 0 < K.n) {w : World} {b off len : Nat} {q : Nat → α} (hb : b < w.heap.size) (hq : ∀ i, i < len → ∀ j u, (K.vs (q i))[j]? = some u → w.cell? ⟨b, off + (i * K.n + j), none⟩ = some u) : CsG K w b off ((List.range len).map q) := by
  refine ⟨hb, fun j u hj => ?_⟩
  have hl := Kd.flat_len (K := K) ((List.range len).map q)
  have hjl : j < len * K.n := by
    have := (List.getElem?_eq_some_iff.1 hj).1
    rw [hl] at this; simpa using this
  have hi : j / K.n < len := (Nat.div_lt_iff_lt_mul hp).mpr hjl
  have hk : ((List.range len).map q)[j / K.n]? = some (q (j / K.n)) := by simp [hi]
  have hg := Kd.flat_get (K := K) hk (i := j % K.n) (Nat.mod_lt _ hp)
  have e3 : j / K.n * K.n + j % K.n = j := by rw [Nat.mul_comm]; exact Nat.div_add_mod j K.n
  rw [e3, hj] at hg
  have := hq (j / K.n) hi (j % K.n) u hg.symm
  rwa [e3] at this
theorem cells184 : Tryz.prog.cellsOf 184 = 3 := by kernel_rfl
theorem cells2 : Tryz.prog.cellsOf 2 = 1 := by kernel_rfl
theorem cells130 : Tryz.prog.cellsOf 130 = 1 := by kernel_rfl
set_option maxRecDepth 100000 in
theorem open_C {H : Type} {enc : TypeId × Value → H} {w : World} {base : Nat} {spare : Nat → Bool} {held : Bool} {fuel : Nat} {x : DataW H × List MemPlace} {cs : List Value}
    (h : DataW.trod enc Tryz.prog w base spare held fuel 130 cs = some x) : ∃ (s : Sv) (L : List T3), cs = [.slice s.p s.n s.c] ∧ L.length = s.n ∧ SlG kL w s.p L ∧ s.n ≤ maxLen := by
  rcases Go.Deep.open_slice Tryz.underlying130 h with ⟨hcs, _⟩ | ⟨a, len, cap, m, n, D, Pl, hcs, _, hl, hm, hmm, _, hx⟩
  · exact ⟨⟨none, 0, 0⟩, [], hcs, rfl, .inl rfl, Nat.zero_le _⟩
  · have hlm : len ≤ m := by rw [hmm]; split <;> omega
    have each : ∀ i, i < len → ∃ c : T3, ∀ j u, (kL.vs c)[j]? = some u → w.cell? (a.add (i * 3 + j)) = some u := by
      intro i hi
      obtain ⟨cs', h1, h2⟩ := hx i (by omega)
      rw [cells184] at h1
      obtain ⟨_, hlen, hcell⟩ := World.cells?_some h1
      obtain ⟨xs, k, hk, hxy, _, hxl, hf⟩ := DataW.trod_struct Tryz.underlying184 h2
      match xs, hxl, cs', hlen with
      | [y0, y1, y2], _, [v0, v1, v2], _ =>
        have g0 := hf 0 _ rfl
        have g1 := hf 1 _ rfl
        have g2 := hf 2 _ rfl
        simp [cells2] at g0 g1 g2
        obtain ⟨a0, e0, _, _⟩ := DataW.trod_int Tryz.underlying2 g0
        obtain ⟨a1, e1, _, _⟩ := DataW.trod_int Tryz.underlying2 g1
        obtain ⟨a2, e2, _, _⟩ := DataW.trod_int Tryz.underlying2 g2
        simp at e0 e1 e2
        subst e0 e1 e2
        refine ⟨⟨a0, a1, a2⟩, fun j u hu => ?_⟩
        have hj3 : j < 3 := (List.getElem?_eq_some_iff.1 hu).1
        have dj := hcell j (by omega)
        rw [Go.Deep.add_add] at dj
        have : j = 0 ∨ j = 1 ∨ j = 2 := by omega
        rcases this with rfl | rfl | rfl <;> (simp [kL] at hu; subst hu; simpa using dj)
    by_cases h0 : len = 0
    · subst h0; exact ⟨⟨some a, 0, cap⟩, [], hcs, rfl, .inl rfl, Nat.zero_le _⟩
    obtain ⟨q, hq⟩ : ∃ q : Nat → T3, ∀ i, i < len → ∀ j u, (kL.vs (q i))[j]? = some u → w.cell? (a.add (i * 3 + j)) = some u := by
      haveI : Inhabited T3 := ⟨z3⟩
      exact Go.Deep.choose_lt each
    obtain ⟨b, off, spot⟩ := a
    have hc0 := hq 0 (by omega) 0 _ rfl
    have hspot : spot = none := by simpa [Addr.add] using World.cell?_spot hc0
    subst hspot
    have hb := World.block_lt_of_cell? w _ hc0
    simp [Addr.add] at hb
    refine ⟨⟨some ⟨b, off, none⟩, len, cap⟩, (List.range len).map q, hcs, by simp, .inr ⟨b, off, rfl, cs_of (by decide) hb fun i hi j u hu => ?_⟩, by show len ≤ maxLen; omega⟩
    have := hq i hi j u hu
    rw [addr_ad] at this
    exact this

end Go.Proofs.YtbkiogedipmioaaGreat
namespace Go.Proofs.YtbkiogedipmioaaGreat
open Go.RowKit Go.Joins Go.WideShapes Go.ChangeShapes M

theorem cells132 : Tryz.prog.cellsOf 132 = 3 := by kernel_rfl
set_option maxRecDepth 100000 in
theorem open_Q {H : Type} {enc : TypeId × Value → H} {w : World} {base : Nat} {spare : Nat → Bool} {held : Bool} {fuel : Nat} {x : DataW H × List MemPlace} {cs : List Value}
    (h : DataW.trod enc Tryz.prog w base spare held fuel 44 cs = some x) : ∃ (s : Sv) (QL : List CQ), cs = [.slice s.p s.n s.c] ∧ QL.length = s.n ∧ RdLS w s.p QL ∧ (∀ q ∈ QL, q.2.1.n ≤ maxLen ∧ q.2.2.n ≤ maxLen) ∧ s.n ≤ maxLen := by
  rcases Go.Deep.open_slice Tryz.underlying44 h with ⟨hcs, _⟩ | ⟨a, len, cap, m, n, D, Pl, hcs, _, hl, hm, hmm, _, hx⟩
  · exact ⟨⟨none, 0, 0⟩, [], hcs, rfl, ⟨.inl rfl, by simp⟩, by simp, Nat.zero_le _⟩
  · have hlm : len ≤ m := by rw [hmm]; split <;> omega
    have each : ∀ i, i < len → ∃ q : CQ, (∀ j u, (kLQ.vs q)[j]? = some u → w.cell? (a.add (i * 3 + j)) = some u) ∧ RdL w q.1 q.2.1 q.2.2 ∧ q.2.1.n ≤ maxLen ∧ q.2.2.n ≤ maxLen := by
      intro i hi
      obtain ⟨cs', h1, h2⟩ := hx i (by omega)
      rw [cells132] at h1
      obtain ⟨_, hlen, hcell⟩ := World.cells?_some h1
      obtain ⟨xs, k, hk, hxy, _, hxl, hf⟩ := DataW.trod_struct Tryz.underlying132 h2
      match xs, hxl, cs', hlen with
      | [y0, y1, y2], _, [v0, v1, v2], _ =>
        have g0 := hf 0 _ rfl
        have g1 := hf 1 _ rfl
        have g2 := hf 2 _ rfl
        simp [cells130, cells2] at g0 g1 g2
        obtain ⟨s, L, e0, l0, r0, b0⟩ := open_C g0
        obtain ⟨t, M, e1, l1, r1, b1⟩ := open_C g1
        obtain ⟨u, e2, _, _⟩ := DataW.trod_int Tryz.underlying2 g2
        simp at e0 e1 e2
        subst e0 e1 e2
        refine ⟨(⟨L, M, u⟩, s, t), fun j u' hu => ?_, ⟨r0, l0, r1, l1⟩, b0, b1⟩
        have hj3 : j < 3 := (List.getElem?_eq_some_iff.1 hu).1
        have dj := hcell j (by omega)
        rw [Go.Deep.add_add] at dj
        have : j = 0 ∨ j = 1 ∨ j = 2 := by omega
        rcases this with rfl | rfl | rfl <;> (simp [kLQ] at hu; subst hu; simpa using dj)
    by_cases h0 : len = 0
    · subst h0; exact ⟨⟨some a, 0, cap⟩, [], hcs, rfl, ⟨.inl rfl, by simp⟩, by simp, Nat.zero_le _⟩
    obtain ⟨q, hq⟩ : ∃ q : Nat → CQ, ∀ i, i < len → (∀ j u, (kLQ.vs (q i))[j]? = some u → w.cell? (a.add (i * 3 + j)) = some u) ∧ RdL w (q i).1 (q i).2.1 (q i).2.2 ∧ (q i).2.1.n ≤ maxLen ∧ (q i).2.2.n ≤ maxLen := by
      haveI : Inhabited CQ := ⟨zq⟩
      exact Go.Deep.choose_lt each
    obtain ⟨b, off, spot⟩ := a
    have hc0 := (hq 0 (by omega)).1 0 _ rfl
    have hspot : spot = none := by simpa [Addr.add] using World.cell?_spot hc0
    subst hspot
    have hb := World.block_lt_of_cell? w _ hc0
    simp [Addr.add] at hb
    refine ⟨⟨some ⟨b, off, none⟩, len, cap⟩, (List.range len).map q, hcs, by simp, ⟨.inr ⟨b, off, rfl, cs_of (by decide) hb fun i hi j u hu => ?_⟩, fun y hy => ?_⟩, fun y hy => ?_, by show len ≤ maxLen; omega⟩
    · have := (hq i hi).1 j u hu
      rw [addr_ad] at this
      exact this
    · simp only [List.mem_map, List.mem_range] at hy
      obtain ⟨i, hi, rfl⟩ := hy
      exact (hq i hi).2.1
    · simp only [List.mem_map, List.mem_range] at hy
      obtain ⟨i, hi, rfl⟩ := hy
      exact (hq i hi).2.2
end Go.Proofs.YtbkiogedipmioaaGreat
