/-
  A Deal as an argument's reading tells it.
-/
import Derived.Test.YtobbankkfplooaaKB1
import Derived.OpenShut
import Derived.Deep.Slices
import Derived.ProofKit
import Derived.Test.YtobbankkfplooaaKIB0
import Derived.Test.YtobbankkfplooaaKY6
import Derived.Test.YtobbankkfplooaaKG1
namespace Go.Proofs.Ytobbankkfplooaa.K
open Go.RowKit Go.Joins Go.WideShapes Go.ChangeShapes

theorem addr_ad (b off j : Nat) : (⟨b, off, none⟩ : Addr).add j = ⟨b, off + j, none⟩ := by unfold Addr.add; split <;> simp_all
end Go.Proofs.Ytobbankkfplooaa.K
namespace Go.Proofs.Ytobbankkfplooaa.K.I
open Go.RowKit Go.Joins Go.WideShapes Go.ChangeShapes
attribute [local go_sem] Oper.semAt_some

theorem cells96 : Try.prog.cellsOf 96 = 5 := by kernel_rfl
set_option maxRecDepth 100000 in
theorem open_r5 {H : Type} {enc : TypeId × Value → H} {w : World} {base : Nat} {spare : Nat → Bool} {held : Bool} {fuel : Nat} {x : DataW H × List MemPlace} {cs : List Value} (hlen : cs.length = 5)
    (h2 : DataW.trod enc Try.prog w base spare held fuel 96 cs = some x) : ∃ r : Rc, cs = [.int .i64 r.t, .int .i64 r.i, .int .i64 r.x, .int .i64 r.y, .string r.s] ∧ r.s.size ≤ maxLen := by
  obtain ⟨xs, k, hk, hxy, _, hxl, hf⟩ := DataW.trod_struct Try.underlying96 h2
  match xs, hxl, cs, hlen with
  | [y0, y1, y2, y3], _, [v0, v1, v2, v3, v4], _ =>
    have g0 := hf 0 _ rfl
    have g1 := hf 1 _ rfl
    have g2 := hf 2 _ rfl
    have g3 := hf 3 _ rfl
    have c2 : Try.prog.cellsOf 2 = 1 := by kernel_rfl
    have c9 : Try.prog.cellsOf 9 = 1 := by kernel_rfl
    have c53 : Try.prog.cellsOf 94 = 2 := by kernel_rfl
    simp [c2, c9, c53] at g0 g1 g2 g3
    obtain ⟨a0, e0, _, _⟩ := DataW.trod_int Try.underlying2 g0
    obtain ⟨a1, e1, _, _⟩ := DataW.trod_int Try.underlying2 g1
    obtain ⟨s, e4, _, hs⟩ := DataW.trod_string Try.underlying9 g3
    obtain ⟨xs2, k2, hk2, hxy2, _, hxl2, hf2⟩ := DataW.trod_struct Try.underlying94 g2
    match xs2, hxl2 with
    | [z0, z1], _ =>
      have f0 := hf2 0 _ rfl
      have f1 := hf2 1 _ rfl
      simp [c2] at f0 f1
      obtain ⟨a2, e2, _, _⟩ := DataW.trod_int Try.underlying2 f0
      obtain ⟨a3, e3, _, _⟩ := DataW.trod_int Try.underlying2 f1
      simp at e0 e1 e2 e3 e4
      subst e0 e1 e2 e3 e4
      exact ⟨⟨a0, a1, a2, a3, s⟩, rfl, hs⟩
set_option maxRecDepth 100000 in
theorem open_R {H : Type} {enc : TypeId × Value → H} {w : World} {base : Nat} {spare : Nat → Bool} {held : Bool} {fuel : Nat} {x : DataW H × List MemPlace} {p : Option Addr} {len cap : Nat}
    (h : DataW.trod enc Try.prog w base spare held fuel 61 [.slice p len cap] = some x) : ∃ L : List Rc, L.length = len ∧ SlG kL w p L ∧ len ≤ maxLen ∧ ∀ r ∈ L, r.s.size ≤ maxLen := by
  rcases Go.Deep.open_slice Try.underlying61 h with ⟨hcs, _⟩ | ⟨a, len', cap', m, n, D, Pl, hcs, _, hl, hm, hmm, _, hx⟩
  · simp at hcs
    obtain ⟨_, rfl, _⟩ := hcs
    exact ⟨[], rfl, .inl rfl, by omega, by simp⟩
  · simp at hcs
    obtain ⟨rfl, rfl, rfl⟩ := hcs
    have hlm : len ≤ m := by rw [hmm]; split <;> omega
    have each : ∀ i, i < len → ∃ c : Rc, (w.cell? (a.add (i * 5)) = some (.int .i64 c.t) ∧ w.cell? (a.add (i * 5 + 1)) = some (.int .i64 c.i) ∧ w.cell? (a.add (i * 5 + 2)) = some (.int .i64 c.x) ∧ w.cell? (a.add (i * 5 + 3)) = some (.int .i64 c.y) ∧ w.cell? (a.add (i * 5 + 4)) = some (.string c.s)) ∧ c.s.size ≤ maxLen := by
      intro i hi
      obtain ⟨cs', h1, h2⟩ := hx i (by omega)
      rw [cells96] at h1
      obtain ⟨_, hlen, hcell⟩ := World.cells?_some h1
      obtain ⟨r, rfl, hs⟩ := open_r5 hlen h2
      have d0 := hcell 0 (by omega)
      have d1 := hcell 1 (by omega)
      have d2 := hcell 2 (by omega)
      have d3 := hcell 3 (by omega)
      have d4 := hcell 4 (by omega)
      rw [Go.Deep.add_add] at d0 d1 d2 d3 d4
      exact ⟨r, ⟨by simpa using d0, by simpa using d1, by simpa using d2, by simpa using d3, by simpa using d4⟩, hs⟩
    by_cases h0 : len = 0
    · subst h0; exact ⟨[], rfl, .inl rfl, by omega, by simp⟩
    obtain ⟨q, hq⟩ : ∃ q : Nat → Rc, ∀ i, i < len → (w.cell? (a.add (i * 5)) = some (.int .i64 (q i).t) ∧ w.cell? (a.add (i * 5 + 1)) = some (.int .i64 (q i).i) ∧ w.cell? (a.add (i * 5 + 2)) = some (.int .i64 (q i).x) ∧ w.cell? (a.add (i * 5 + 3)) = some (.int .i64 (q i).y) ∧ w.cell? (a.add (i * 5 + 4)) = some (.string (q i).s)) ∧ (q i).s.size ≤ maxLen := by
      haveI : Inhabited Rc := ⟨zrc⟩
      exact Go.Deep.choose_lt each
    refine ⟨(List.range len).map q, by simp, .inr ?_, by omega, fun r hr => ?_⟩
    rotate_left
    · simp at hr
      obtain ⟨i, hi, rfl⟩ := hr
      exact (hq i hi).2
    obtain ⟨b, off, spot⟩ := a
    have hc0 := (hq 0 (by omega)).1.1
    have hspot : spot = none := by simpa [Addr.add] using World.cell?_spot hc0
    subst hspot
    have hb := World.block_lt_of_cell? w _ hc0
    simp [Addr.add] at hb
    refine ⟨b, off, rfl, hb, fun j u hj => ?_⟩
    have hl := Kd.flat_len (K := kL) ((List.range len).map q)
    have hjl : j < len * 5 := by
      have := (List.getElem?_eq_some_iff.1 hj).1
      rw [hl] at this
      have e : ((List.range len).map q).length * kL.n = len * 5 := by simp [kL]
      omega
    have hj3 : j / 5 < len := by omega
    have hk : ((List.range len).map q)[j / 5]? = some (q (j / 5)) := by simp [hj3]
    have hg := Kd.flat_get (K := kL) hk (i := j % 5) (Nat.mod_lt _ (by decide))
    have e3 : j / 5 * kL.n + j % 5 = j := by show j / 5 * 5 + j % 5 = j; omega
    rw [e3, hj] at hg
    obtain ⟨⟨r0, r1, r2, r3, r4⟩, _⟩ := hq (j / 5) (by omega)
    rw [addr_ad] at r0 r1 r2 r3 r4
    have hm3 : j % 5 = 0 ∨ j % 5 = 1 ∨ j % 5 = 2 ∨ j % 5 = 3 ∨ j % 5 = 4 := by omega
    rcases hm3 with e | e | e | e | e
    · rw [e] at hg; simp [kL] at hg; subst hg; rw [show off + j = off + j / 5 * 5 by omega]; exact r0
    · rw [e] at hg; simp [kL] at hg; subst hg; rw [show off + j = off + (j / 5 * 5 + 1) by omega]; exact r1
    · rw [e] at hg; simp [kL] at hg; subst hg; rw [show off + j = off + (j / 5 * 5 + 2) by omega]; exact r2
    · rw [e] at hg; simp [kL] at hg; subst hg; rw [show off + j = off + (j / 5 * 5 + 3) by omega]; exact r3
    · rw [e] at hg; simp [kL] at hg; subst hg; rw [show off + j = off + (j / 5 * 5 + 4) by omega]; exact r4
end Go.Proofs.Ytobbankkfplooaa.K.I
namespace Go.Proofs.Ytobbankkfplooaa.K.I
open Go.RowKit Go.Joins Go.WideShapes Go.ChangeShapes

theorem open_B {H : Type} {enc : TypeId × Value → H} {w : World} {base : Nat} {spare : Nat → Bool} {held : Bool} {fuel : Nat} {x : DataW H × List MemPlace} {v : Value}
    (h : DataW.trod enc Try.prog w base spare held fuel 61 [v] = some x) : ∃ (s : Sv) (L : List Rc), v = .slice s.p s.n s.c ∧ L.length = s.n ∧ SlG kL w s.p L ∧ s.n ≤ maxLen ∧ ∀ r ∈ L, r.s.size ≤ maxLen := by
  rcases Go.Deep.open_slice Try.underlying61 h with ⟨hcs, _⟩ | ⟨a, len', cap', m, n, D, Pl, hcs, _⟩
  · simp at hcs
    subst hcs
    obtain ⟨L, h1, h2, h3, h4⟩ := open_R h
    exact ⟨⟨none, 0, 0⟩, L, rfl, h1, h2, h3, h4⟩
  · simp at hcs
    subst hcs
    obtain ⟨L, h1, h2, h3, h4⟩ := open_R h
    exact ⟨⟨some a, len', cap'⟩, L, rfl, h1, h2, h3, h4⟩
end Go.Proofs.Ytobbankkfplooaa.K.I
namespace Go.Proofs.Ytobbankkfplooaa.K.Y
open Go.RowKit Go.Joins Go.WideShapes Go.ChangeShapes

theorem cs_of {α : Type} {K : Kd α} (hp : 0 < K.n) {w : World} {b off len : Nat} {q : Nat → α} (hb : b < w.heap.size) (hq : ∀ i, i < len → ∀ j u, (K.vs (q i))[j]? = some u → w.cell? ⟨b, off + (i * K.n + j), none⟩ = some u) : CsG K w b off ((List.range len).map q) := by
  refine ⟨hb, fun j u hj => ?_⟩
  have hl := Kd.flat_len (K := K) ((List.range len).map q)
  have hjl : j < len * K.n := by
    have := (List.getElem?_eq_some_iff.1 hj).1
    rw [hl] at this; simpa using this
  have hi : j / K.n < len := (Nat.div_lt_iff_lt_mul hp).mpr hjl
  have hk : ((List.range len).map q)[j / K.n]? = some (q (j / K.n)) := by simp [hi]
  have hg := Kd.flat_get (K := K) hk (i := j % K.n) (Nat.mod_lt _ hp)
  have e3 : j / K.n * K.n + j % K.n = j := by rw [Nat.mul_comm]; exact Nat.div_add_mod j K.n
  rw [e3, hj] at hg
  have := hq (j / K.n) hi (j % K.n) u hg.symm
  rwa [e3] at this
theorem cells2 : Try.prog.cellsOf 2 = 1 := by kernel_rfl
theorem cells9 : Try.prog.cellsOf 9 = 1 := by kernel_rfl
theorem cells22 : Try.prog.cellsOf 22 = 1 := by kernel_rfl
theorem cells23 : Try.prog.cellsOf 23 = 1 := by kernel_rfl
theorem cells61 : Try.prog.cellsOf 61 = 1 := by kernel_rfl
theorem cells63 : Try.prog.cellsOf 63 = 3 := by kernel_rfl
theorem wf_i64 {n : Int} (h : (Lit.int .i64 n).wf = true) : i64B n := by
  simp [Lit.wf, IntKind.min, IntKind.max, IntKind.bits, IntKind.signed] at h
  unfold i64B; omega
set_option maxRecDepth 100000 in
theorem open_I {H : Type} {enc : TypeId × Value → H} {w : World} {base : Nat} {spare : Nat → Bool} {held : Bool} {fuel : Nat} {x : DataW H × List MemPlace} {v : Value}
    (h : DataW.trod enc Try.prog w base spare held fuel 23 [v] = some x) : ∃ (s : Sv) (L : List Int), v = .slice s.p s.n s.c ∧ L.length = s.n ∧ SlG kI w s.p L ∧ s.n ≤ maxLen ∧ ∀ z ∈ L, i64B z := by
  rcases Go.Deep.open_slice Try.underlying23 h with ⟨hcs, _⟩ | ⟨a, len, cap, m, n, D, Pl, hcs, _, hl, hm, hmm, _, hx⟩
  · simp at hcs
    exact ⟨⟨none, 0, 0⟩, [], hcs, rfl, .inl rfl, Nat.zero_le _, by simp⟩
  · simp at hcs
    have hlm : len ≤ m := by rw [hmm]; split <;> omega
    have each : ∀ i, i < len → ∃ q : Int, (∀ j u, (kI.vs q)[j]? = some u → w.cell? (a.add (i * 1 + j)) = some u) ∧ i64B q := by
      intro i hi
      obtain ⟨cs', h1, h2⟩ := hx i (by omega)
      rw [cells2] at h1
      obtain ⟨_, hlen, hcell⟩ := World.cells?_some h1
      obtain ⟨z, e, _, hwf⟩ := DataW.trod_int Try.underlying2 h2
      subst e
      refine ⟨z, fun j u hu => ?_, wf_i64 hwf⟩
      have hj : j = 0 := by have := (List.getElem?_eq_some_iff.1 hu).1; simp [kI] at this; omega
      subst hj
      have dj := hcell 0 (by omega)
      rw [Go.Deep.add_add] at dj
      simp [kI] at hu
      subst hu
      simpa using dj
    by_cases h0 : len = 0
    · subst h0; exact ⟨⟨some a, 0, cap⟩, [], hcs, rfl, .inl rfl, Nat.zero_le _, by simp⟩
    obtain ⟨q, hq⟩ : ∃ q : Nat → Int, ∀ i, i < len → (∀ j u, (kI.vs (q i))[j]? = some u → w.cell? (a.add (i * 1 + j)) = some u) ∧ i64B (q i) := Go.Deep.choose_lt each
    obtain ⟨b, off, spot⟩ := a
    have hc0 := (hq 0 (by omega)).1 0 _ rfl
    have hspot : spot = none := by simpa [Addr.add] using World.cell?_spot hc0
    subst hspot
    have hb := World.block_lt_of_cell? w _ hc0
    simp [Addr.add] at hb
    refine ⟨⟨some ⟨b, off, none⟩, len, cap⟩, (List.range len).map q, hcs, by simp, .inr ⟨b, off, rfl, cs_of (by decide) hb fun i hi j u hu => ?_⟩, by show len ≤ maxLen; omega, fun y hy => ?_⟩
    · have := (hq i hi).1 j u hu
      rw [addr_ad] at this
      exact this
    · simp only [List.mem_map, List.mem_range] at hy
      obtain ⟨i, hi, rfl⟩ := hy
      exact (hq i hi).2
set_option maxRecDepth 100000 in
theorem open_Y {H : Type} {enc : TypeId × Value → H} {w : World} {base : Nat} {spare : Nat → Bool} {held : Bool} {fuel : Nat} {x : DataW H × List MemPlace} {v : Value}
    (h : DataW.trod enc Try.prog w base spare held fuel 22 [v] = some x) : ∃ (s : Sv) (QL : List YQ), v = .slice s.p s.n s.c ∧ QL.length = s.n ∧ RdLY w s.p QL ∧ SmY QL ∧ s.n ≤ maxLen := by
  rcases Go.Deep.open_slice Try.underlying22 h with ⟨hcs, _⟩ | ⟨a, len, cap, m, n, D, Pl, hcs, _, hl, hm, hmm, _, hx⟩
  · simp at hcs
    exact ⟨⟨none, 0, 0⟩, [], hcs, rfl, ⟨.inl rfl, by simp⟩, by simp [SmY], Nat.zero_le _⟩
  · simp at hcs
    have hlm : len ≤ m := by rw [hmm]; split <;> omega
    have each : ∀ i, i < len → ∃ q : YQ, (∀ j u, (kLY.vs q)[j]? = some u → w.cell? (a.add (i * 3 + j)) = some u) ∧ RdI I.kL w q ∧ q.2.n ≤ maxLen ∧ ∀ r ∈ q.1.L, r.s.size ≤ maxLen := by
      intro i hi
      obtain ⟨cs', h1, h2⟩ := hx i (by omega)
      rw [cells63] at h1
      obtain ⟨_, hlen, hcell⟩ := World.cells?_some h1
      obtain ⟨xs, k, hk, hxy, _, hxl, hf⟩ := DataW.trod_struct Try.underlying63 h2
      match xs, hxl, cs', hlen with
      | [y0, y1, y2], _, [v0, v1, v2], _ =>
        have g0 := hf 0 _ rfl
        have g1 := hf 1 _ rfl
        have g2 := hf 2 _ rfl
        simp [cells61, cells2] at g0 g1 g2
        obtain ⟨t, e0, _, _⟩ := DataW.trod_int Try.underlying2 g0
        obtain ⟨q, e1, _, _⟩ := DataW.trod_int Try.underlying2 g1
        obtain ⟨s, L, e2, l2, r2, b2, m2⟩ := I.open_B g2
        simp at e0 e1
        subst e0 e1 e2
        refine ⟨(⟨t, q, L⟩, s), fun j u' hu => ?_, ⟨r2, l2⟩, b2, m2⟩
        have hj3 : j < 3 := (List.getElem?_eq_some_iff.1 hu).1
        have dj := hcell j (by omega)
        rw [Go.Deep.add_add] at dj
        have : j = 0 ∨ j = 1 ∨ j = 2 := by omega
        rcases this with rfl | rfl | rfl <;> (simp [kLY] at hu; subst hu; simpa using dj)
    by_cases h0 : len = 0
    · subst h0; exact ⟨⟨some a, 0, cap⟩, [], hcs, rfl, ⟨.inl rfl, by simp⟩, by simp [SmY], Nat.zero_le _⟩
    obtain ⟨q, hq⟩ : ∃ q : Nat → YQ, ∀ i, i < len → (∀ j u, (kLY.vs (q i))[j]? = some u → w.cell? (a.add (i * 3 + j)) = some u) ∧ RdI I.kL w (q i) ∧ (q i).2.n ≤ maxLen ∧ ∀ r ∈ (q i).1.L, r.s.size ≤ maxLen := by
      haveI : Inhabited YQ := ⟨zyq⟩
      exact Go.Deep.choose_lt each
    obtain ⟨b, off, spot⟩ := a
    have hc0 := (hq 0 (by omega)).1 0 _ rfl
    have hspot : spot = none := by simpa [Addr.add] using World.cell?_spot hc0
    subst hspot
    have hb := World.block_lt_of_cell? w _ hc0
    simp [Addr.add] at hb
    refine ⟨⟨some ⟨b, off, none⟩, len, cap⟩, (List.range len).map q, hcs, by simp, ⟨.inr ⟨b, off, rfl, cs_of (by decide) hb fun i hi j u hu => ?_⟩, fun y hy => ?_⟩, fun y hy => ?_, by show len ≤ maxLen; omega⟩
    · have := (hq i hi).1 j u hu
      rw [addr_ad] at this
      exact this
    · simp only [List.mem_map, List.mem_range] at hy
      obtain ⟨i, hi, rfl⟩ := hy
      exact (hq i hi).2.1
    · simp only [List.mem_map, List.mem_range] at hy
      obtain ⟨i, hi, rfl⟩ := hy
      exact (hq i hi).2.2
end Go.Proofs.Ytobbankkfplooaa.K.Y
namespace Go.Proofs.Ytobbankkfplooaa.K.G
open Go.RowKit Go.Joins Go.WideShapes Go.ChangeShapes Y

theorem cells25 : Try.prog.cellsOf 25 = 6 := by kernel_rfl
set_option maxRecDepth 100000 in
theorem open_D {H : Type} {enc : TypeId × Value → H} {w : World} {base : Nat} {spare : Nat → Bool} {held : Bool} {r : Reach} {b0 : Nat} {d : DataW H} {p : List MemPlace} {v : Value}
    (hv : Value.okWide Try.prog w r b0 25 v) (h : DataW.Trod enc Try.prog w base spare held 25 v d p) : ∃ (hd : Gv) (QL : List YQ) (O V : List Int), v = hd.v ∧ RdLG w hd QL O V ∧ SmG hd QL := by
  obtain ⟨cs, rfl, hsz⟩ := okWide_struct Try.underlying25 hv
  obtain ⟨fuel, hf⟩ := h
  have hl5 : cs.toList.length = 6 := by rw [Array.length_toList, hsz, cells25]
  obtain ⟨xs, k, hk, hxy, _, hxl, hf⟩ := DataW.trod_struct Try.underlying25 hf
  obtain ⟨cs⟩ := cs
  simp only at hl5
  match xs, hxl, cs, hl5 with
  | [y0, y1, y2, y3, y4, y5], _, [v0, v1, v2, v3, v4, v5], _ =>
    have g0 := hf 0 _ rfl
    have g1 := hf 1 _ rfl
    have g2 := hf 2 _ rfl
    have g3 := hf 3 _ rfl
    have g4 := hf 4 _ rfl
    have g5 := hf 5 _ rfl
    simp [cells22, cells23, cells2, Value.cells] at g0 g1 g2 g3 g4 g5
    obtain ⟨t, e0, _, _⟩ := DataW.trod_int Try.underlying2 g0
    obtain ⟨q, e1, _, _⟩ := DataW.trod_int Try.underlying2 g1
    obtain ⟨s1, QL, e2, l1, r1, m1, b1⟩ := open_Y g2
    obtain ⟨s2, O, e3, l2, r2, b2, _⟩ := open_I g3
    obtain ⟨s3, V, e4, l3, r3, b3, _⟩ := open_I g4
    obtain ⟨s, e5, _, _⟩ := DataW.trod_int Try.underlying2 g5
    simp at e0 e1 e2 e3 e4 e5
    subst e0 e1 e2 e3 e4 e5
    exact ⟨⟨t, q, s1, s2, s3, s⟩, QL, O, V, rfl, ⟨r1, l1, r2, l2, r3, l3⟩, ⟨b1, m1, b2, b3⟩⟩
end Go.Proofs.Ytobbankkfplooaa.K.G
