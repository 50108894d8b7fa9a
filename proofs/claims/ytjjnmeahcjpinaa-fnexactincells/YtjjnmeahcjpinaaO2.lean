/-
  A list of Cells, as an argument's reading tells it.
-/
import Derived.Test.YtjjnmeahcjpinaaO1
import Derived.Test.YtjjnmeahcjpinaaML4
namespace Go.Proofs.Ytjjnmeahcjpinaa
open Go.RowKit Go.Joins Go.WideShapes Go.ChangeShapes

theorem cells97 : Try.prog.cellsOf 97 = 3 := by kernel_rfl
set_option maxRecDepth 100000 in
theorem open_C {H : Type} {enc : TypeId × Value → H} {w : World} {base : Nat} {spare : Nat → Bool} {held : Bool} {fuel : Nat} {x : DataW H × List MemPlace} {p : Option Addr} {len cap : Nat}
    (h : DataW.trod enc Try.prog w base spare held fuel 62 [.slice p len cap] = some x) : ∃ L : List M.T3, L.length = len ∧ M.Sl w p L ∧ len ≤ maxLen := by
  rcases Go.Deep.open_slice Try.underlying62 h with ⟨hcs, _⟩ | ⟨a, len', cap', m, n, D, Pl, hcs, _, hl, hm, hmm, _, hx⟩
  · simp at hcs
    obtain ⟨_, rfl, _⟩ := hcs
    exact ⟨[], rfl, .inl rfl, by omega⟩
  · simp at hcs
    obtain ⟨rfl, rfl, rfl⟩ := hcs
    have hlm : len ≤ m := by rw [hmm]; split <;> omega
    have each : ∀ i, i < len → ∃ c : M.T3, w.cell? (a.add (i * 3)) = some (.int .i64 c.l) ∧ w.cell? (a.add (i * 3 + 1)) = some (.int .i64 c.x) ∧ w.cell? (a.add (i * 3 + 2)) = some (.int .i64 c.y) := by
      intro i hi
      obtain ⟨cs', h1, h2⟩ := hx i (by omega)
      rw [cells97] at h1
      obtain ⟨_, hlen, hcell⟩ := World.cells?_some h1
      obtain ⟨xs, k, hk, hxy, _, hxl, hf⟩ := DataW.trod_struct Try.underlying97 h2
      match xs, hxl, cs', hlen with
      | [y0, y1, y2], _, [v0, v1, v2], _ =>
        have g0 := hf 0 _ rfl
        have g1 := hf 1 _ rfl
        have g2 := hf 2 _ rfl
        have c2 : Try.prog.cellsOf 2 = 1 := by kernel_rfl
        simp [c2] at g0 g1 g2
        obtain ⟨a0, e0, _, _⟩ := DataW.trod_int Try.underlying2 g0
        obtain ⟨a1, e1, _, _⟩ := DataW.trod_int Try.underlying2 g1
        obtain ⟨a2, e2, _, _⟩ := DataW.trod_int Try.underlying2 g2
        simp at e0 e1 e2
        subst e0 e1 e2
        have d0 := hcell 0 (by omega)
        have d1 := hcell 1 (by omega)
        have d2 := hcell 2 (by omega)
        rw [Go.Deep.add_add] at d0 d1 d2
        exact ⟨⟨a0, a1, a2⟩, by simpa using d0, by simpa using d1, by simpa using d2⟩
    by_cases h0 : len = 0
    · subst h0; exact ⟨[], rfl, .inl rfl, by omega⟩
    obtain ⟨q, hq⟩ : ∃ q : Nat → M.T3, ∀ i, i < len → w.cell? (a.add (i * 3)) = some (.int .i64 (q i).l) ∧ w.cell? (a.add (i * 3 + 1)) = some (.int .i64 (q i).x) ∧ w.cell? (a.add (i * 3 + 2)) = some (.int .i64 (q i).y) := by
      haveI : Inhabited M.T3 := ⟨⟨0, 0, 0⟩⟩
      exact Go.Deep.choose_lt each
    refine ⟨(List.range len).map q, by simp, .inr ?_, by omega⟩
    obtain ⟨b, off, spot⟩ := a
    have hc0 := (hq 0 (by omega)).1
    have hspot : spot = none := by simpa [Addr.add] using World.cell?_spot hc0
    subst hspot
    have hb := World.block_lt_of_cell? w _ hc0
    simp [Addr.add] at hb
    refine ⟨b, off, rfl, hb, fun k c hk => ?_⟩
    obtain ⟨hkl, hkc⟩ := List.getElem?_eq_some_iff.1 hk
    simp at hkl hkc
    subst hkc
    obtain ⟨r0, r1, r2⟩ := hq k hkl
    rw [addr_ad] at r0 r1 r2
    exact ⟨r0, r1, r2⟩
end Go.Proofs.Ytjjnmeahcjpinaa
