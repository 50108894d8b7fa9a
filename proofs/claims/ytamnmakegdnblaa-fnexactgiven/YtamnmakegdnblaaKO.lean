/-
  A Directory as an argument's reading tells it.
-/
import Derived.Test.YtamnmakegdnblaaKD2
import Derived.OpenShut
import Derived.Deep.Slices
import Derived.ProofKit
namespace Go.Proofs.Ytamnmakegdnblaa.K.D
open Go.RowKit Go.Joins Go.WideShapes Go.ChangeShapes

theorem cells116 : Try.prog.cellsOf 116 = 4 := by kernel_rfl
theorem cells52 : Try.prog.cellsOf 52 = 2 := by kernel_rfl
theorem addr_ad (b off j : Nat) : (⟨b, off, none⟩ : Addr).add j = ⟨b, off + j, none⟩ := by unfold Addr.add; split <;> simp_all
theorem cs_of {α : Type} {K : Kd α} (hp : 0 < K.n) {w : World} {b off len : Nat} {q : Nat → α} (hb : b < w.heap.size) (hq : ∀ i, i < len → ∀ j u, (K.vs (q i))[j]? = some u → w.cell? ⟨b, off + (i * K.n + j), none⟩ = some u) : CsG K w b off ((List.range len).map q) := by
  refine ⟨hb, fun j u hj => ?_⟩
  have hl := Kd.flat_len (K := K) ((List.range len).map q)
  have hjl : j < len * K.n := by
    have := (List.getElem?_eq_some_iff.1 hj).1
    rw [hl] at this; simpa using this
  have hi : j / K.n < len := (Nat.div_lt_iff_lt_mul hp).mpr hjl
  have hk : ((List.range len).map q)[j / K.n]? = some (q (j / K.n)) := by simp [hi]
  have hg := Kd.flat_get (K := K) hk (i := j % K.n) (Nat.mod_lt _ hp)
  have e3 : j / K.n * K.n + j % K.n = j := by rw [Nat.mul_comm]; exact Nat.div_add_mod j K.n
  rw [e3, hj] at hg
  have := hq (j / K.n) hi (j % K.n) u hg.symm
  rwa [e3] at this
set_option maxRecDepth 100000 in
theorem open_o4 {H : Type} {enc : TypeId × Value → H} {w : World} {base : Nat} {spare : Nat → Bool} {held : Bool} {fuel : Nat} {x : DataW H × List MemPlace} {cs : List Value} (hlen : cs.length = 4)
    (h2 : DataW.trod enc Try.prog w base spare held fuel 116 cs = some x) : ∃ o : On, cs = [.int .i64 o.l, .int .i64 o.x, .int .i64 o.y, .int .i64 o.s] := by
  obtain ⟨xs, k, hk, hxy, _, hxl, hf⟩ := DataW.trod_struct Try.underlying116 h2
  match xs, hxl, cs, hlen with
  | [y0, y1], _, [v0, v1, v2, v3], _ =>
    have g0 := hf 0 _ rfl
    have g1 := hf 1 _ rfl
    have c2 : Try.prog.cellsOf 2 = 1 := by kernel_rfl
    have c61 : Try.prog.cellsOf 61 = 3 := by kernel_rfl
    simp [c2, c61] at g0 g1
    obtain ⟨a3, e3, _, _⟩ := DataW.trod_int Try.underlying2 g1
    obtain ⟨xs2, k2, hk2, hxy2, _, hxl2, hf2⟩ := DataW.trod_struct Try.underlying61 g0
    match xs2, hxl2 with
    | [z0, z1, z2], _ =>
      have f0 := hf2 0 _ rfl
      have f1 := hf2 1 _ rfl
      have f2 := hf2 2 _ rfl
      simp [c2] at f0 f1 f2
      obtain ⟨a0, e0, _, _⟩ := DataW.trod_int Try.underlying2 f0
      obtain ⟨a1, e1, _, _⟩ := DataW.trod_int Try.underlying2 f1
      obtain ⟨a2, e2, _, _⟩ := DataW.trod_int Try.underlying2 f2
      simp at e0 e1 e2 e3
      subst e0 e1 e2 e3
      exact ⟨⟨a0, a1, a2, a3⟩, rfl⟩
set_option maxRecDepth 100000 in
theorem open_Os {H : Type} {enc : TypeId × Value → H} {w : World} {base : Nat} {spare : Nat → Bool} {held : Bool} {fuel : Nat} {x : DataW H × List MemPlace} {v : Value}
    (h : DataW.trod enc Try.prog w base spare held fuel 50 [v] = some x) : ∃ (p : Option Addr) (n c : Nat) (L : List On), v = .slice p n c ∧ L.length = n ∧ SlG kLO w p L ∧ n ≤ maxLen := by
  rcases Go.Deep.open_slice Try.underlying50 h with ⟨hcs, _⟩ | ⟨a, len, cap, m, n, D, Pl, hcs, _, hl, hm, hmm, _, hx⟩
  · simp at hcs
    exact ⟨none, 0, 0, [], hcs, rfl, .inl rfl, Nat.zero_le _⟩
  · simp at hcs
    have hlm : len ≤ m := by rw [hmm]; split <;> omega
    have each : ∀ i, i < len → ∃ q : On, ∀ j u, (kLO.vs q)[j]? = some u → w.cell? (a.add (i * 4 + j)) = some u := by
      intro i hi
      obtain ⟨cs', h1, h2⟩ := hx i (by omega)
      rw [cells116] at h1
      obtain ⟨_, hlen, hcell⟩ := World.cells?_some h1
      obtain ⟨o, rfl⟩ := open_o4 hlen h2
      refine ⟨o, fun j u hu => ?_⟩
      have hj : j < 4 := (List.getElem?_eq_some_iff.1 hu).1
      have dj := hcell j (by omega)
      rw [Go.Deep.add_add] at dj
      have : j = 0 ∨ j = 1 ∨ j = 2 ∨ j = 3 := by omega
      rcases this with rfl | rfl | rfl | rfl <;> (simp [kLO] at hu; subst hu; simpa using dj)
    by_cases h0 : len = 0
    · subst h0; exact ⟨some a, 0, cap, [], hcs, rfl, .inl rfl, Nat.zero_le _⟩
    obtain ⟨q, hq⟩ : ∃ q : Nat → On, ∀ i, i < len → ∀ j u, (kLO.vs (q i))[j]? = some u → w.cell? (a.add (i * 4 + j)) = some u := by
      haveI : Inhabited On := ⟨zon⟩
      exact Go.Deep.choose_lt each
    obtain ⟨b, off, spot⟩ := a
    have hc0 := hq 0 (by omega) 0 _ rfl
    have hspot : spot = none := by simpa [Addr.add] using World.cell?_spot hc0
    subst hspot
    have hb := World.block_lt_of_cell? w _ hc0
    simp [Addr.add] at hb
    refine ⟨some ⟨b, off, none⟩, len, cap, (List.range len).map q, hcs, by simp, .inr ⟨b, off, rfl, cs_of (by decide) hb fun i hi j u hu => ?_⟩, by omega⟩
    have := hq i hi j u hu
    rw [addr_ad] at this
    exact this
set_option maxRecDepth 100000 in
theorem open_D {H : Type} {enc : TypeId × Value → H} {w : World} {base : Nat} {spare : Nat → Bool} {held : Bool} {r : Reach} {b0 : Nat} {d : DataW H} {p : List MemPlace} {v : Value}
    (hv : Value.okWide Try.prog w r b0 52 v) (h : DataW.Trod enc Try.prog w base spare held 52 v d p) : ∃ (e : Int) (q : Option Addr) (n c : Nat) (L : List On), v = Dv.v ⟨e, q, n, c⟩ ∧ L.length = n ∧ SlG kLO w q L ∧ n ≤ maxLen := by
  obtain ⟨cs, rfl, hsz⟩ := okWide_struct Try.underlying52 hv
  obtain ⟨fuel, hf⟩ := h
  have hl2 : cs.toList.length = 2 := by rw [Array.length_toList, hsz, cells52]
  obtain ⟨xs, k, hk, hxy, _, hxl, hf⟩ := DataW.trod_struct Try.underlying52 hf
  obtain ⟨cs⟩ := cs
  simp only at hl2
  match xs, hxl, cs, hl2 with
  | [y0, y1], _, [v0, v1], _ =>
    have g0 := hf 0 _ rfl
    have g1 := hf 1 _ rfl
    have c2 : Try.prog.cellsOf 2 = 1 := by kernel_rfl
    have c50 : Try.prog.cellsOf 50 = 1 := by kernel_rfl
    simp [c2, c50, Value.cells] at g0 g1
    obtain ⟨e, e0, _, _⟩ := DataW.trod_int Try.underlying2 g0
    obtain ⟨p, n, c, L, e1, l1, r1, b1⟩ := open_Os g1
    simp at e0
    subst e0 e1
    exact ⟨e, p, n, c, L, rfl, l1, r1, b1⟩
end Go.Proofs.Ytamnmakegdnblaa.K.D
