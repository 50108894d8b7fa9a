/-
  A list of Items within a Batch, as an argument's reading tells it.
-/
import Derived.Test.YtppoafggiejdgaaGreatKIO1
namespace Go.Proofs.YtppoafggiejdgaaGreat.K.I
open Go.RowKit Go.Joins Go.WideShapes Go.ChangeShapes

theorem open_B {H : Type} {enc : TypeId × Value → H} {w : World} {base : Nat} {spare : Nat → Bool} {held : Bool} {fuel : Nat} {x : DataW H × List MemPlace} {v : Value}
    (h : DataW.trod enc Tryz.prog w base spare held fuel 56 [v] = some x) : ∃ (s : Sv) (L : List Rc), v = .slice s.p s.n s.c ∧ L.length = s.n ∧ SlG kL w s.p L ∧ s.n ≤ maxLen ∧ ∀ r ∈ L, r.s.size ≤ maxLen := by
  rcases Go.Deep.open_slice Tryz.underlying56 h with ⟨hcs, _⟩ | ⟨a, len', cap', m, n, D, Pl, hcs, _⟩
  · simp at hcs
    subst hcs
    obtain ⟨L, h1, h2, h3, h4⟩ := open_R h
    exact ⟨⟨none, 0, 0⟩, L, rfl, h1, h2, h3, h4⟩
  · simp at hcs
    subst hcs
    obtain ⟨L, h1, h2, h3, h4⟩ := open_R h
    exact ⟨⟨some a, len', cap'⟩, L, rfl, h1, h2, h3, h4⟩
end Go.Proofs.YtppoafggiejdgaaGreat.K.I
