/-
  A list of texts, as an argument's reading tells it.
-/
import Derived.Test.YtmphjakdmknkhaaA5
import Derived.Deep.Strs
namespace Go.Proofs.Ytmphjakdmknkhaa
open Go.RowKit Go.Joins

theorem addr_add (b off i : Nat) : (⟨b, off, none⟩ : Addr).add i = ⟨b, off + i, none⟩ := by unfold Addr.add; split <;> simp_all
theorem open_S {H : Type} {enc : TypeId × Value → H} {w : World} {base : Nat} {spare : Nat → Bool} {held : Bool} {fuel : Nat} {x : DataW H × List MemPlace} {p : Option Addr} {len cap : Nat}
    (h : DataW.trod enc Try.prog w base spare held fuel 24 [.slice p len cap] = some x) : ∃ L : List ByteArray, L.length = len ∧ SlG kT w p L ∧ (∀ s ∈ L, s.size ≤ maxLen) ∧ len ≤ maxLen := by
  rcases Go.Deep.open_strs Try.underlying24 Try.underlying9 (by kernel_rfl) h with ⟨hcs, _⟩ | ⟨a, len', cap', m, Sx, hcs, _, hl, hm, hmm, _, hx⟩
  · simp at hcs
    obtain ⟨_, rfl, _⟩ := hcs
    exact ⟨[], rfl, .inl rfl, by simp, by omega⟩
  · simp at hcs
    obtain ⟨rfl, rfl, rfl⟩ := hcs
    have hlm : len ≤ m := by rw [hmm]; split <;> omega
    by_cases h0 : len = 0
    · subst h0; exact ⟨[], rfl, .inl rfl, by simp, by omega⟩
    refine ⟨(List.range len).map Sx, by simp, .inr ?_, ?_, by omega⟩
    · obtain ⟨b, off, spot⟩ := a
      have hc0 := (hx 0 (by omega)).1
      have hspot : spot = none := by simpa [Addr.add] using World.cell?_spot hc0
      subst hspot
      have hb := World.block_lt_of_cell? w _ hc0
      simp [Addr.add] at hb
      refine ⟨b, off, rfl, hb, fun j u hj => ?_⟩
      have hf : kT.flat ((List.range len).map Sx) = (List.range len).map fun i => .string (Sx i) := by
        unfold Kd.flat
        rw [List.flatMap_map]
        show (List.range len).flatMap (fun i => [Value.string (Sx i)]) = _
        rw [← List.map_eq_flatMap]
      rw [hf, List.getElem?_map, Option.map_eq_some_iff] at hj
      obtain ⟨i, hi, rfl⟩ := hj
      obtain ⟨hi1, hi2⟩ := List.getElem?_eq_some_iff.1 hi
      simp at hi1 hi2
      subst hi2
      have := (hx j (by omega)).1
      rwa [addr_add] at this
    · intro s hs
      simp at hs
      obtain ⟨i, hi, rfl⟩ := hs
      exact (hx i (by omega)).2
end Go.Proofs.Ytmphjakdmknkhaa
