/-
  A list of Nodes, as a row's reading tells it.
-/
import Derived.Test.YtipfcmfcdfofmaaGreatX1
import Derived.OpenShut
import Derived.Deep.Slices
import Derived.ProofKit
import Derived.Test.YtipfcmfcdfofmaaGreatX3
namespace Go.Proofs.YtipfcmfcdfofmaaGreat
open Go.RowKit Go.Joins Go.WideShapes Go.ChangeShapes

theorem cells134 : Tryz.prog.cellsOf 134 = 3 := by kernel_rfl
theorem addr_ad (b off j : Nat) : (⟨b, off, none⟩ : Addr).add j = ⟨b, off + j, none⟩ := by unfold Addr.add; split <;> simp_all
set_option maxRecDepth 100000 in
theorem open_M {H : Type} {enc : TypeId × Value → H} {w : World} {base : Nat} {spare : Nat → Bool} {held : Bool} {fuel : Nat} {x : DataW H × List MemPlace} {p : Option Addr} {len cap : Nat}
    (h : DataW.trod enc Tryz.prog w base spare held fuel 52 [.slice p len cap] = some x) : ∃ L : List Mk, L.length = len ∧ SlG kL w p L ∧ len ≤ maxLen := by
  rcases Go.Deep.open_slice Tryz.underlying52 h with ⟨hcs, _⟩ | ⟨a, len', cap', m, n, D, Pl, hcs, _, hl, hm, hmm, _, hx⟩
  · simp at hcs
    obtain ⟨_, rfl, _⟩ := hcs
    exact ⟨[], rfl, .inl rfl, by omega⟩
  · simp at hcs
    obtain ⟨rfl, rfl, rfl⟩ := hcs
    have hlm : len ≤ m := by rw [hmm]; split <;> omega
    have each : ∀ i, i < len → ∃ c : Mk, w.cell? (a.add (i * 3)) = some (.int .i64 c.i) ∧ w.cell? (a.add (i * 3 + 1)) = some (.int .i64 c.x) ∧ w.cell? (a.add (i * 3 + 2)) = some (.int .i64 c.y) := by
      intro i hi
      obtain ⟨cs', h1, h2⟩ := hx i (by omega)
      rw [cells134] at h1
      obtain ⟨_, hlen, hcell⟩ := World.cells?_some h1
      obtain ⟨xs, k, hk, hxy, _, hxl, hf⟩ := DataW.trod_struct Tryz.underlying134 h2
      match xs, hxl, cs', hlen with
      | [y0, y1], _, [v0, v1, v2], _ =>
        have g0 := hf 0 _ rfl
        have g1 := hf 1 _ rfl
        have c2 : Tryz.prog.cellsOf 2 = 1 := by kernel_rfl
        have c79 : Tryz.prog.cellsOf 63 = 2 := by kernel_rfl
        simp [c2, c79] at g0 g1
        obtain ⟨a0, e0, _, _⟩ := DataW.trod_int Tryz.underlying2 g0
        obtain ⟨xs2, k2, hk2, hxy2, _, hxl2, hf2⟩ := DataW.trod_struct Tryz.underlying63 g1
        match xs2, hxl2 with
        | [z0, z1], _ =>
          have f0 := hf2 0 _ rfl
          have f1 := hf2 1 _ rfl
          simp [c2] at f0 f1
          obtain ⟨a1, e1, _, _⟩ := DataW.trod_int Tryz.underlying2 f0
          obtain ⟨a2, e2, _, _⟩ := DataW.trod_int Tryz.underlying2 f1
          simp at e0 e1 e2
          subst e0 e1 e2
          have d0 := hcell 0 (by omega)
          have d1 := hcell 1 (by omega)
          have d2 := hcell 2 (by omega)
          rw [Go.Deep.add_add] at d0 d1 d2
          exact ⟨⟨a0, a1, a2⟩, by simpa using d0, by simpa using d1, by simpa using d2⟩
    by_cases h0 : len = 0
    · subst h0; exact ⟨[], rfl, .inl rfl, by omega⟩
    obtain ⟨q, hq⟩ : ∃ q : Nat → Mk, ∀ i, i < len → w.cell? (a.add (i * 3)) = some (.int .i64 (q i).i) ∧ w.cell? (a.add (i * 3 + 1)) = some (.int .i64 (q i).x) ∧ w.cell? (a.add (i * 3 + 2)) = some (.int .i64 (q i).y) := by
      haveI : Inhabited Mk := ⟨zmk⟩
      exact Go.Deep.choose_lt each
    refine ⟨(List.range len).map q, by simp, .inr ?_, by omega⟩
    obtain ⟨b, off, spot⟩ := a
    have hc0 := (hq 0 (by omega)).1
    have hspot : spot = none := by simpa [Addr.add] using World.cell?_spot hc0
    subst hspot
    have hb := World.block_lt_of_cell? w _ hc0
    simp [Addr.add] at hb
    refine ⟨b, off, rfl, hb, fun j u hj => ?_⟩
    have hl := Kd.flat_len (K := kL) ((List.range len).map q)
    have hjl : j < len * 3 := by
      have := (List.getElem?_eq_some_iff.1 hj).1
      rw [hl] at this
      have e : ((List.range len).map q).length * kL.n = len * 3 := by simp [kL]
      omega
    have hj3 : j / 3 < len := by omega
    have hk : ((List.range len).map q)[j / 3]? = some (q (j / 3)) := by simp [hj3]
    have hg := Kd.flat_get (K := kL) hk (i := j % 3) (Nat.mod_lt _ (by decide))
    have e3 : j / 3 * kL.n + j % 3 = j := by show j / 3 * 3 + j % 3 = j; omega
    rw [e3, hj] at hg
    obtain ⟨r0, r1, r2⟩ := hq (j / 3) (by omega)
    rw [addr_ad] at r0 r1 r2
    have hm3 : j % 3 = 0 ∨ j % 3 = 1 ∨ j % 3 = 2 := by omega
    rcases hm3 with e | e | e
    · rw [e] at hg; simp [kL] at hg; subst hg; rw [show off + j = off + j / 3 * 3 by omega]; exact r0
    · rw [e] at hg; simp [kL] at hg; subst hg; rw [show off + j = off + (j / 3 * 3 + 1) by omega]; exact r1
    · rw [e] at hg; simp [kL] at hg; subst hg; rw [show off + j = off + (j / 3 * 3 + 2) by omega]; exact r2
end Go.Proofs.YtipfcmfcdfofmaaGreat
namespace Go.Proofs.YtipfcmfcdfofmaaGreat
open Go.RowKit Go.Joins Go.WideShapes Go.ChangeShapes

def kLN : Kd (Nd × Sv) := ⟨131, 6, fun p => [.int .i64 p.1.b.x, .int .i64 p.1.b.y, .int .i64 p.1.b.w, .int .i64 p.1.b.h, .bool p.1.lf, .slice p.2.p p.2.n p.2.c], fun _ => rfl⟩
theorem CsG.ndL {w : World} {g off : Nat} {L : List (Nd × Sv)} (h : CsG kLN w g off L) {k : Nat} {p : Nd × Sv} (hk : L[k]? = some p) :
    w.cell? ⟨g, off + k * 6, none⟩ = some (.int .i64 p.1.b.x) ∧ w.cell? ⟨g, off + k * 6 + 1, none⟩ = some (.int .i64 p.1.b.y) ∧ w.cell? ⟨g, off + k * 6 + 2, none⟩ = some (.int .i64 p.1.b.w) ∧ w.cell? ⟨g, off + k * 6 + 3, none⟩ = some (.int .i64 p.1.b.h) ∧ w.cell? ⟨g, off + k * 6 + 4, none⟩ = some (.bool p.1.lf) ∧ w.cell? ⟨g, off + k * 6 + 5, none⟩ = some (.slice p.2.p p.2.n p.2.c) :=
  ⟨h.at hk (i := 0) rfl, h.at hk (i := 1) rfl, h.at hk (i := 2) rfl, h.at hk (i := 3) rfl, h.at hk (i := 4) rfl, h.at hk (i := 5) rfl⟩
theorem cells131 : Tryz.prog.cellsOf 131 = 6 := by kernel_rfl
theorem cs_of {α : Type} {K : Kd α} (hp : 0 < K.n) {w : World} {b off len : Nat} {q : Nat → α} (hb : b < w.heap.size) (hq : ∀ i, i < len → ∀ j u, (K.vs (q i))[j]? = some u → w.cell? ⟨b, off + (i * K.n + j), none⟩ = some u) : CsG K w b off ((List.range len).map q) := by
  refine ⟨hb, fun j u hj => ?_⟩
  have hl := Kd.flat_len (K := K) ((List.range len).map q)
  have hjl : j < len * K.n := by
    have := (List.getElem?_eq_some_iff.1 hj).1
    rw [hl] at this; simpa using this
  have hi : j / K.n < len := (Nat.div_lt_iff_lt_mul hp).mpr hjl
  have hk : ((List.range len).map q)[j / K.n]? = some (q (j / K.n)) := by simp [hi]
  have hg := Kd.flat_get (K := K) hk (i := j % K.n) (Nat.mod_lt _ hp)
  have e3 : j / K.n * K.n + j % K.n = j := by rw [Nat.mul_comm]; exact Nat.div_add_mod j K.n
  rw [e3, hj] at hg
  have := hq (j / K.n) hi (j % K.n) u hg.symm
  rwa [e3] at this
theorem open_I {H : Type} {enc : TypeId × Value → H} {w : World} {base : Nat} {spare : Nat → Bool} {held : Bool} {fuel : Nat} {x : DataW H × List MemPlace} {cs : List Value}
    (h : DataW.trod enc Tryz.prog w base spare held fuel 34 cs = some x) : ∃ (s : Sv) (L : List Int), cs = [.slice s.p s.n s.c] ∧ L.length = s.n ∧ SlG kI w s.p L ∧ s.n ≤ maxLen := by
  rcases Go.Deep.open_slice1 Tryz.underlying34 (by kernel_rfl) h with ⟨hcs, _⟩ | ⟨a, len, cap, m, n, V, D, Pl, hcs, _, hl, hm, hmm, _, hx⟩
  · exact ⟨⟨none, 0, 0⟩, [], hcs, rfl, .inl rfl, Nat.zero_le _⟩
  · have hlm : len ≤ m := by rw [hmm]; split <;> omega
    have each : ∀ i, i < len → ∃ z : Int, w.cell? (a.add i) = some (.int .i64 z) := fun i hi => by
      obtain ⟨h1, h2⟩ := hx i (by omega)
      obtain ⟨z, e0, _, _⟩ := DataW.trod_int Tryz.underlying2 h2
      simp at e0
      exact ⟨z, by rw [h1, e0]⟩
    by_cases h0 : len = 0
    · subst h0; exact ⟨⟨some a, 0, cap⟩, [], hcs, rfl, .inl rfl, Nat.zero_le _⟩
    obtain ⟨q, hq⟩ : ∃ q : Nat → Int, ∀ i, i < len → w.cell? (a.add i) = some (.int .i64 (q i)) := Go.Deep.choose_lt each
    obtain ⟨b, off, spot⟩ := a
    have hc0 := hq 0 (by omega)
    have hspot : spot = none := by simpa [Addr.add] using World.cell?_spot hc0
    subst hspot
    have hb := World.block_lt_of_cell? w _ hc0
    simp [Addr.add] at hb
    refine ⟨⟨some ⟨b, off, none⟩, len, cap⟩, (List.range len).map q, hcs, by simp, .inr ⟨b, off, rfl, cs_of (by decide) hb fun i hi j u hu => ?_⟩, by show len ≤ maxLen; omega⟩
    have hj : j = 0 ∧ u = .int .i64 (q i) := by
      cases j with
      | zero => simp [kI] at hu; exact ⟨rfl, hu.symm⟩
      | succ j => simp [kI] at hu
    obtain ⟨rfl, rfl⟩ := hj
    have := hq i hi
    rw [addr_ad] at this
    simpa [kI] using this
set_option maxRecDepth 100000 in
theorem open_N {H : Type} {enc : TypeId × Value → H} {w : World} {base : Nat} {spare : Nat → Bool} {held : Bool} {fuel : Nat} {x : DataW H × List MemPlace} {cs : List Value}
    (h : DataW.trod enc Tryz.prog w base spare held fuel 53 cs = some x) : ∃ (s : Sv) (NL : List (Nd × Sv)), cs = [.slice s.p s.n s.c] ∧ NL.length = s.n ∧ SlG kLN w s.p NL ∧ (∀ y ∈ NL, SlG kI w y.2.p y.1.ps ∧ y.2.n = y.1.ps.length ∧ y.1.ps.length ≤ maxLen) ∧ s.n ≤ maxLen := by
  rcases Go.Deep.open_slice Tryz.underlying53 h with ⟨hcs, _⟩ | ⟨a, len, cap, m, n, D, Pl, hcs, _, hl, hm, hmm, _, hx⟩
  · exact ⟨⟨none, 0, 0⟩, [], hcs, rfl, .inl rfl, by simp, Nat.zero_le _⟩
  · have hlm : len ≤ m := by rw [hmm]; split <;> omega
    have each : ∀ i, i < len → ∃ c : Nd × Sv, (∀ j u, (kLN.vs c)[j]? = some u → w.cell? (a.add (i * 6 + j)) = some u) ∧ SlG kI w c.2.p c.1.ps ∧ c.2.n = c.1.ps.length ∧ c.1.ps.length ≤ maxLen := by
      intro i hi
      obtain ⟨cs', h1, h2⟩ := hx i (by omega)
      rw [cells131] at h1
      obtain ⟨_, hlen, hcell⟩ := World.cells?_some h1
      obtain ⟨xs, k, hk, hxy, _, hxl, hf⟩ := DataW.trod_struct Tryz.underlying131 h2
      match xs, hxl, cs', hlen with
      | [y0, y1, y2], _, [v0, v1, v2, v3, v4, v5], _ =>
        have g0 := hf 0 _ rfl
        have g1 := hf 1 _ rfl
        have g2 := hf 2 _ rfl
        have c2 : Tryz.prog.cellsOf 2 = 1 := by kernel_rfl
        have c4 : Tryz.prog.cellsOf 4 = 1 := by kernel_rfl
        have c32 : Tryz.prog.cellsOf 34 = 1 := by kernel_rfl
        have c111 : Tryz.prog.cellsOf 56 = 4 := by kernel_rfl
        simp [c4, c32, c111] at g0 g1 g2
        obtain ⟨bb, e4, _⟩ := DataW.trod_bool Tryz.underlying4 g1
        obtain ⟨s, L, e5, l1, l2, l3⟩ := open_I g2
        obtain ⟨xs2, k2, hk2, hxy2, _, hxl2, hf2⟩ := DataW.trod_struct Tryz.underlying56 g0
        match xs2, hxl2 with
        | [z0, z1, z2, z3], _ =>
          have f0 := hf2 0 _ rfl
          have f1 := hf2 1 _ rfl
          have f2 := hf2 2 _ rfl
          have f3 := hf2 3 _ rfl
          simp [c2] at f0 f1 f2 f3
          obtain ⟨a0, e0, _, _⟩ := DataW.trod_int Tryz.underlying2 f0
          obtain ⟨a1, e1, _, _⟩ := DataW.trod_int Tryz.underlying2 f1
          obtain ⟨a2, e2, _, _⟩ := DataW.trod_int Tryz.underlying2 f2
          obtain ⟨a3, e3, _, _⟩ := DataW.trod_int Tryz.underlying2 f3
          simp at e0 e1 e2 e3 e4 e5
          subst e0 e1 e2 e3 e4 e5
          refine ⟨(⟨⟨a0, a1, a2, a3⟩, bb, L⟩, s), fun j u hu => ?_, l2, l1.symm, by show L.length ≤ maxLen; omega⟩
          have hj6 : j < 6 := (List.getElem?_eq_some_iff.1 hu).1
          have dj := hcell j (by omega)
          rw [Go.Deep.add_add] at dj
          have : j = 0 ∨ j = 1 ∨ j = 2 ∨ j = 3 ∨ j = 4 ∨ j = 5 := by omega
          rcases this with rfl | rfl | rfl | rfl | rfl | rfl <;> (simp [kLN] at hu; subst hu; simpa using dj)
    by_cases h0 : len = 0
    · subst h0; exact ⟨⟨some a, 0, cap⟩, [], hcs, rfl, .inl rfl, by simp, Nat.zero_le _⟩
    obtain ⟨q, hq⟩ : ∃ q : Nat → Nd × Sv, ∀ i, i < len → (∀ j u, (kLN.vs (q i))[j]? = some u → w.cell? (a.add (i * 6 + j)) = some u) ∧ SlG kI w (q i).2.p (q i).1.ps ∧ (q i).2.n = (q i).1.ps.length ∧ (q i).1.ps.length ≤ maxLen := by
      haveI : Inhabited (Nd × Sv) := ⟨zn⟩
      exact Go.Deep.choose_lt each
    obtain ⟨b, off, spot⟩ := a
    have hc0 := (hq 0 (by omega)).1 0 _ rfl
    have hspot : spot = none := by simpa [Addr.add] using World.cell?_spot hc0
    subst hspot
    have hb := World.block_lt_of_cell? w _ hc0
    simp [Addr.add] at hb
    refine ⟨⟨some ⟨b, off, none⟩, len, cap⟩, (List.range len).map q, hcs, by simp, .inr ⟨b, off, rfl, cs_of (by decide) hb fun i hi j u hu => ?_⟩, fun y hy => ?_, by show len ≤ maxLen; omega⟩
    · have := (hq i hi).1 j u hu
      rw [addr_ad] at this
      exact this
    · simp only [List.mem_map, List.mem_range] at hy
      obtain ⟨i, hi, rfl⟩ := hy
      exact (hq i hi).2
end Go.Proofs.YtipfcmfcdfofmaaGreat
