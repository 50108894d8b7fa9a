/-
  A Shard as an argument's reading tells it: lists of numbers, of Readies.
-/
import Derived.Test.YtppoafggiejdgaaGreatKY6
import Derived.Test.YtppoafggiejdgaaGreatKO1
import Derived.Test.YtppoafggiejdgaaGreatKIO2
namespace Go.Proofs.YtppoafggiejdgaaGreat.K.Y
open Go.RowKit Go.Joins Go.WideShapes Go.ChangeShapes

theorem cs_of {α : Type} {K : Kd α} (hp : 0 < K.n) {w : World} {b off len : Nat} {q : Nat → α} (hb : b < w.heap.size) (hq : ∀ i, i < len → ∀ j u, (K.vs (q i))[j]? = some u → w.cell? ⟨b, off + (i * K.n + j), none⟩ = some u) : CsG K w b off ((List.range len).map q) := by
  refine ⟨hb, fun j u hj => ?_⟩
  have hl := Kd.flat_len (K := K) ((List.range len).map q)
  have hjl : j < len * K.n := by
    have := (List.getElem?_eq_some_iff.1 hj).1
    rw [hl] at this; simpa using this
  have hi : j / K.n < len := (Nat.div_lt_iff_lt_mul hp).mpr hjl
  have hk : ((List.range len).map q)[j / K.n]? = some (q (j / K.n)) := by simp [hi]
  have hg := Kd.flat_get (K := K) hk (i := j % K.n) (Nat.mod_lt _ hp)
  have e3 : j / K.n * K.n + j % K.n = j := by rw [Nat.mul_comm]; exact Nat.div_add_mod j K.n
  rw [e3, hj] at hg
  have := hq (j / K.n) hi (j % K.n) u hg.symm
  rwa [e3] at this
theorem cells2 : Tryz.prog.cellsOf 2 = 1 := by kernel_rfl
theorem cells9 : Tryz.prog.cellsOf 9 = 1 := by kernel_rfl
theorem cells22 : Tryz.prog.cellsOf 22 = 1 := by kernel_rfl
theorem cells23 : Tryz.prog.cellsOf 23 = 1 := by kernel_rfl
theorem cells24 : Tryz.prog.cellsOf 24 = 1 := by kernel_rfl
theorem cells26 : Tryz.prog.cellsOf 26 = 5 := by kernel_rfl
theorem cells56 : Tryz.prog.cellsOf 56 = 1 := by kernel_rfl
theorem cells58 : Tryz.prog.cellsOf 58 = 3 := by kernel_rfl
theorem wf_i64 {n : Int} (h : (Lit.int .i64 n).wf = true) : i64B n := by
  simp [Lit.wf, IntKind.min, IntKind.max, IntKind.bits, IntKind.signed] at h
  unfold i64B; omega
set_option maxRecDepth 100000 in
theorem open_I {H : Type} {enc : TypeId × Value → H} {w : World} {base : Nat} {spare : Nat → Bool} {held : Bool} {fuel : Nat} {x : DataW H × List MemPlace} {v : Value}
    (h : DataW.trod enc Tryz.prog w base spare held fuel 24 [v] = some x) : ∃ (s : Sv) (L : List Int), v = .slice s.p s.n s.c ∧ L.length = s.n ∧ SlG kI w s.p L ∧ s.n ≤ maxLen ∧ ∀ z ∈ L, i64B z := by
  rcases Go.Deep.open_slice Tryz.underlying24 h with ⟨hcs, _⟩ | ⟨a, len, cap, m, n, D, Pl, hcs, _, hl, hm, hmm, _, hx⟩
  · simp at hcs
    exact ⟨⟨none, 0, 0⟩, [], hcs, rfl, .inl rfl, Nat.zero_le _, by simp⟩
  · simp at hcs
    have hlm : len ≤ m := by rw [hmm]; split <;> omega
    have each : ∀ i, i < len → ∃ q : Int, (∀ j u, (kI.vs q)[j]? = some u → w.cell? (a.add (i * 1 + j)) = some u) ∧ i64B q := by
      intro i hi
      obtain ⟨cs', h1, h2⟩ := hx i (by omega)
      rw [cells2] at h1
      obtain ⟨_, hlen, hcell⟩ := World.cells?_some h1
      obtain ⟨z, e, _, hwf⟩ := DataW.trod_int Tryz.underlying2 h2
      subst e
      refine ⟨z, fun j u hu => ?_, wf_i64 hwf⟩
      have hj : j = 0 := by have := (List.getElem?_eq_some_iff.1 hu).1; simp [kI] at this; omega
      subst hj
      have dj := hcell 0 (by omega)
      rw [Go.Deep.add_add] at dj
      simp [kI] at hu
      subst hu
      simpa using dj
    by_cases h0 : len = 0
    · subst h0; exact ⟨⟨some a, 0, cap⟩, [], hcs, rfl, .inl rfl, Nat.zero_le _, by simp⟩
    obtain ⟨q, hq⟩ : ∃ q : Nat → Int, ∀ i, i < len → (∀ j u, (kI.vs (q i))[j]? = some u → w.cell? (a.add (i * 1 + j)) = some u) ∧ i64B (q i) := Go.Deep.choose_lt each
    obtain ⟨b, off, spot⟩ := a
    have hc0 := (hq 0 (by omega)).1 0 _ rfl
    have hspot : spot = none := by simpa [Addr.add] using World.cell?_spot hc0
    subst hspot
    have hb := World.block_lt_of_cell? w _ hc0
    simp [Addr.add] at hb
    refine ⟨⟨some ⟨b, off, none⟩, len, cap⟩, (List.range len).map q, hcs, by simp, .inr ⟨b, off, rfl, cs_of (by decide) hb fun i hi j u hu => ?_⟩, by show len ≤ maxLen; omega, fun y hy => ?_⟩
    · have := (hq i hi).1 j u hu
      rw [addr_ad] at this
      exact this
    · simp only [List.mem_map, List.mem_range] at hy
      obtain ⟨i, hi, rfl⟩ := hy
      exact (hq i hi).2
set_option maxRecDepth 100000 in
theorem open_Y {H : Type} {enc : TypeId × Value → H} {w : World} {base : Nat} {spare : Nat → Bool} {held : Bool} {fuel : Nat} {x : DataW H × List MemPlace} {v : Value}
    (h : DataW.trod enc Tryz.prog w base spare held fuel 23 [v] = some x) : ∃ (s : Sv) (QL : List YQ), v = .slice s.p s.n s.c ∧ QL.length = s.n ∧ RdLY w s.p QL ∧ SmY QL ∧ s.n ≤ maxLen := by
  rcases Go.Deep.open_slice Tryz.underlying23 h with ⟨hcs, _⟩ | ⟨a, len, cap, m, n, D, Pl, hcs, _, hl, hm, hmm, _, hx⟩
  · simp at hcs
    exact ⟨⟨none, 0, 0⟩, [], hcs, rfl, ⟨.inl rfl, by simp⟩, by simp [SmY], Nat.zero_le _⟩
  · simp at hcs
    have hlm : len ≤ m := by rw [hmm]; split <;> omega
    have each : ∀ i, i < len → ∃ q : YQ, (∀ j u, (kLY.vs q)[j]? = some u → w.cell? (a.add (i * 3 + j)) = some u) ∧ RdI I.kL w q ∧ q.2.n ≤ maxLen ∧ ∀ r ∈ q.1.L, r.s.size ≤ maxLen := by
      intro i hi
      obtain ⟨cs', h1, h2⟩ := hx i (by omega)
      rw [cells58] at h1
      obtain ⟨_, hlen, hcell⟩ := World.cells?_some h1
      obtain ⟨xs, k, hk, hxy, _, hxl, hf⟩ := DataW.trod_struct Tryz.underlying58 h2
      match xs, hxl, cs', hlen with
      | [y0, y1, y2], _, [v0, v1, v2], _ =>
        have g0 := hf 0 _ rfl
        have g1 := hf 1 _ rfl
        have g2 := hf 2 _ rfl
        simp [cells56, cells2] at g0 g1 g2
        obtain ⟨t, e0, _, _⟩ := DataW.trod_int Tryz.underlying2 g0
        obtain ⟨q, e1, _, _⟩ := DataW.trod_int Tryz.underlying2 g1
        obtain ⟨s, L, e2, l2, r2, b2, m2⟩ := I.open_B g2
        simp at e0 e1
        subst e0 e1 e2
        refine ⟨(⟨t, q, L⟩, s), fun j u' hu => ?_, ⟨r2, l2⟩, b2, m2⟩
        have hj3 : j < 3 := (List.getElem?_eq_some_iff.1 hu).1
        have dj := hcell j (by omega)
        rw [Go.Deep.add_add] at dj
        have : j = 0 ∨ j = 1 ∨ j = 2 := by omega
        rcases this with rfl | rfl | rfl <;> (simp [kLY] at hu; subst hu; simpa using dj)
    by_cases h0 : len = 0
    · subst h0; exact ⟨⟨some a, 0, cap⟩, [], hcs, rfl, ⟨.inl rfl, by simp⟩, by simp [SmY], Nat.zero_le _⟩
    obtain ⟨q, hq⟩ : ∃ q : Nat → YQ, ∀ i, i < len → (∀ j u, (kLY.vs (q i))[j]? = some u → w.cell? (a.add (i * 3 + j)) = some u) ∧ RdI I.kL w (q i) ∧ (q i).2.n ≤ maxLen ∧ ∀ r ∈ (q i).1.L, r.s.size ≤ maxLen := by
      haveI : Inhabited YQ := ⟨zyq⟩
      exact Go.Deep.choose_lt each
    obtain ⟨b, off, spot⟩ := a
    have hc0 := (hq 0 (by omega)).1 0 _ rfl
    have hspot : spot = none := by simpa [Addr.add] using World.cell?_spot hc0
    subst hspot
    have hb := World.block_lt_of_cell? w _ hc0
    simp [Addr.add] at hb
    refine ⟨⟨some ⟨b, off, none⟩, len, cap⟩, (List.range len).map q, hcs, by simp, ⟨.inr ⟨b, off, rfl, cs_of (by decide) hb fun i hi j u hu => ?_⟩, fun y hy => ?_⟩, fun y hy => ?_, by show len ≤ maxLen; omega⟩
    · have := (hq i hi).1 j u hu
      rw [addr_ad] at this
      exact this
    · simp only [List.mem_map, List.mem_range] at hy
      obtain ⟨i, hi, rfl⟩ := hy
      exact (hq i hi).2.1
    · simp only [List.mem_map, List.mem_range] at hy
      obtain ⟨i, hi, rfl⟩ := hy
      exact (hq i hi).2.2
theorem open_Rs {H : Type} {enc : TypeId × Value → H} {w : World} {base : Nat} {spare : Nat → Bool} {held : Bool} {fuel : Nat} {x : DataW H × List MemPlace} {v : Value}
    (h : DataW.trod enc Tryz.prog w base spare held fuel 22 [v] = some x) : ∃ (s : Sv) (L : List Rc), v = .slice s.p s.n s.c ∧ L.length = s.n ∧ SlG kL w s.p L ∧ s.n ≤ maxLen ∧ ∀ r ∈ L, r.s.size ≤ maxLen := by
  rcases Go.Deep.open_slice Tryz.underlying22 h with ⟨hcs, _⟩ | ⟨a, len', cap', m, n, D, Pl, hcs, _⟩
  · simp at hcs
    subst hcs
    obtain ⟨L, h1, h2, h3, h4⟩ := open_R h
    exact ⟨⟨none, 0, 0⟩, L, rfl, h1, h2, h3, h4⟩
  · simp at hcs
    subst hcs
    obtain ⟨L, h1, h2, h3, h4⟩ := open_R h
    exact ⟨⟨some a, len', cap'⟩, L, rfl, h1, h2, h3, h4⟩
set_option maxRecDepth 100000 in
theorem open_S {H : Type} {enc : TypeId × Value → H} {w : World} {base : Nat} {spare : Nat → Bool} {held : Bool} {r : Reach} {b0 : Nat} {d : DataW H} {p : List MemPlace} {v : Value}
    (hv : Value.okWide Tryz.prog w r b0 26 v) (h : DataW.Trod enc Tryz.prog w base spare held 26 v d p) : ∃ (hd : Hv) (R : List Rc) (QL : List YQ) (O : List Int), v = hd.v ∧ RdLS w hd R QL O ∧ SmS hd R QL := by
  obtain ⟨cs, rfl, hsz⟩ := okWide_struct Tryz.underlying26 hv
  obtain ⟨fuel, hf⟩ := h
  have hl5 : cs.toList.length = 5 := by rw [Array.length_toList, hsz, cells26]
  obtain ⟨xs, k, hk, hxy, _, hxl, hf⟩ := DataW.trod_struct Tryz.underlying26 hf
  obtain ⟨cs⟩ := cs
  simp only at hl5
  match xs, hxl, cs, hl5 with
  | [y0, y1, y2, y3, y4], _, [v0, v1, v2, v3, v4], _ =>
    have g0 := hf 0 _ rfl
    have g1 := hf 1 _ rfl
    have g2 := hf 2 _ rfl
    have g3 := hf 3 _ rfl
    have g4 := hf 4 _ rfl
    simp [cells22, cells23, cells24, cells9, cells2, Value.cells] at g0 g1 g2 g3 g4
    obtain ⟨s0, R, e0, l0, r0, b0, m0⟩ := open_Rs g0
    obtain ⟨s1, QL, e1, l1, r1, m1, b1⟩ := open_Y g1
    obtain ⟨s2, O, e2, l2, r2, b2, i2⟩ := open_I g2
    obtain ⟨g, e3, _, b3⟩ := DataW.trod_string Tryz.underlying9 g3
    obtain ⟨s, e4, _, _⟩ := DataW.trod_int Tryz.underlying2 g4
    simp at e3 e4
    subst e0 e1 e2 e3 e4
    exact ⟨⟨s0, s1, s2, g, s⟩, R, QL, O, rfl, ⟨r0, l0, r1, l1, r2, l2, i2⟩, ⟨b0, m0, b1, m1, b2, b3⟩⟩
end Go.Proofs.YtppoafggiejdgaaGreat.K.Y
