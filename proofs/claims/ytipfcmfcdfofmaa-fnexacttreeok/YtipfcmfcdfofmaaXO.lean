/-
  A list of Marks, as a row's reading tells it.
-/
import Derived.Test.YtipfcmfcdfofmaaX1
import Derived.OpenShut
import Derived.Deep.Slices
import Derived.ProofKit
namespace Go.Proofs.Ytipfcmfcdfofmaa
open Go.RowKit Go.Joins Go.WideShapes Go.ChangeShapes

theorem cells81 : Try.prog.cellsOf 81 = 3 := by kernel_rfl
theorem addr_ad (b off j : Nat) : (⟨b, off, none⟩ : Addr).add j = ⟨b, off + j, none⟩ := by unfold Addr.add; split <;> simp_all
set_option maxRecDepth 100000 in
theorem open_M {H : Type} {enc : TypeId × Value → H} {w : World} {base : Nat} {spare : Nat → Bool} {held : Bool} {fuel : Nat} {x : DataW H × List MemPlace} {p : Option Addr} {len cap : Nat}
    (h : DataW.trod enc Try.prog w base spare held fuel 39 [.slice p len cap] = some x) : ∃ L : List Mk, L.length = len ∧ SlG kL w p L ∧ len ≤ maxLen := by
  rcases Go.Deep.open_slice Try.underlying39 h with ⟨hcs, _⟩ | ⟨a, len', cap', m, n, D, Pl, hcs, _, hl, hm, hmm, _, hx⟩
  · simp at hcs
    obtain ⟨_, rfl, _⟩ := hcs
    exact ⟨[], rfl, .inl rfl, by omega⟩
  · simp at hcs
    obtain ⟨rfl, rfl, rfl⟩ := hcs
    have hlm : len ≤ m := by rw [hmm]; split <;> omega
    have each : ∀ i, i < len → ∃ c : Mk, w.cell? (a.add (i * 3)) = some (.int .i64 c.i) ∧ w.cell? (a.add (i * 3 + 1)) = some (.int .i64 c.x) ∧ w.cell? (a.add (i * 3 + 2)) = some (.int .i64 c.y) := by
      intro i hi
      obtain ⟨cs', h1, h2⟩ := hx i (by omega)
      rw [cells81] at h1
      obtain ⟨_, hlen, hcell⟩ := World.cells?_some h1
      obtain ⟨xs, k, hk, hxy, _, hxl, hf⟩ := DataW.trod_struct Try.underlying81 h2
      match xs, hxl, cs', hlen with
      | [y0, y1], _, [v0, v1, v2], _ =>
        have g0 := hf 0 _ rfl
        have g1 := hf 1 _ rfl
        have c2 : Try.prog.cellsOf 2 = 1 := by kernel_rfl
        have c79 : Try.prog.cellsOf 79 = 2 := by kernel_rfl
        simp [c2, c79] at g0 g1
        obtain ⟨a0, e0, _, _⟩ := DataW.trod_int Try.underlying2 g0
        obtain ⟨xs2, k2, hk2, hxy2, _, hxl2, hf2⟩ := DataW.trod_struct Try.underlying79 g1
        match xs2, hxl2 with
        | [z0, z1], _ =>
          have f0 := hf2 0 _ rfl
          have f1 := hf2 1 _ rfl
          simp [c2] at f0 f1
          obtain ⟨a1, e1, _, _⟩ := DataW.trod_int Try.underlying2 f0
          obtain ⟨a2, e2, _, _⟩ := DataW.trod_int Try.underlying2 f1
          simp at e0 e1 e2
          subst e0 e1 e2
          have d0 := hcell 0 (by omega)
          have d1 := hcell 1 (by omega)
          have d2 := hcell 2 (by omega)
          rw [Go.Deep.add_add] at d0 d1 d2
          exact ⟨⟨a0, a1, a2⟩, by simpa using d0, by simpa using d1, by simpa using d2⟩
    by_cases h0 : len = 0
    · subst h0; exact ⟨[], rfl, .inl rfl, by omega⟩
    obtain ⟨q, hq⟩ : ∃ q : Nat → Mk, ∀ i, i < len → w.cell? (a.add (i * 3)) = some (.int .i64 (q i).i) ∧ w.cell? (a.add (i * 3 + 1)) = some (.int .i64 (q i).x) ∧ w.cell? (a.add (i * 3 + 2)) = some (.int .i64 (q i).y) := by
      haveI : Inhabited Mk := ⟨zmk⟩
      exact Go.Deep.choose_lt each
    refine ⟨(List.range len).map q, by simp, .inr ?_, by omega⟩
    obtain ⟨b, off, spot⟩ := a
    have hc0 := (hq 0 (by omega)).1
    have hspot : spot = none := by simpa [Addr.add] using World.cell?_spot hc0
    subst hspot
    have hb := World.block_lt_of_cell? w _ hc0
    simp [Addr.add] at hb
    refine ⟨b, off, rfl, hb, fun j u hj => ?_⟩
    have hl := Kd.flat_len (K := kL) ((List.range len).map q)
    have hjl : j < len * 3 := by
      have := (List.getElem?_eq_some_iff.1 hj).1
      rw [hl] at this
      have e : ((List.range len).map q).length * kL.n = len * 3 := by simp [kL]
      omega
    have hj3 : j / 3 < len := by omega
    have hk : ((List.range len).map q)[j / 3]? = some (q (j / 3)) := by simp [hj3]
    have hg := Kd.flat_get (K := kL) hk (i := j % 3) (Nat.mod_lt _ (by decide))
    have e3 : j / 3 * kL.n + j % 3 = j := by show j / 3 * 3 + j % 3 = j; omega
    rw [e3, hj] at hg
    obtain ⟨r0, r1, r2⟩ := hq (j / 3) (by omega)
    rw [addr_ad] at r0 r1 r2
    have hm3 : j % 3 = 0 ∨ j % 3 = 1 ∨ j % 3 = 2 := by omega
    rcases hm3 with e | e | e
    · rw [e] at hg; simp [kL] at hg; subst hg; rw [show off + j = off + j / 3 * 3 by omega]; exact r0
    · rw [e] at hg; simp [kL] at hg; subst hg; rw [show off + j = off + (j / 3 * 3 + 1) by omega]; exact r1
    · rw [e] at hg; simp [kL] at hg; subst hg; rw [show off + j = off + (j / 3 * 3 + 2) by omega]; exact r2
end Go.Proofs.Ytipfcmfcdfofmaa
