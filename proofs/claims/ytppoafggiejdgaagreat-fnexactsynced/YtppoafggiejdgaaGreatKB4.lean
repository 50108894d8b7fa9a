/-
  slices.BinarySearchFunc over Records, and where one stands.
-/
import Derived.Test.YtppoafggiejdgaaGreatKB3
namespace Go.Proofs.YtppoafggiejdgaaGreat.K
open Go.RowKit Go.Joins
attribute [local go_sem] Oper.semAt_some

theorem has5 {W : World} {b : Nat} {a0 a1 a2 a3 a4 : Value} {l : List (Nat × List Value)} (h : Has W ((b, [a0, a1, a2, a3, a4]) :: l)) : W.cell? ⟨b, 0, none⟩ = some a0 ∧ W.cell? ⟨b, 1, none⟩ = some a1 ∧ W.cell? ⟨b, 2, none⟩ = some a2 ∧ W.cell? ⟨b, 3, none⟩ = some a3 ∧ W.cell? ⟨b, 4, none⟩ = some a4 := by
  obtain ⟨⟨_, _, h0, h1, h2, h3, h4, _⟩, _⟩ := h
  exact ⟨h0, h1, h2, h3, h4⟩
theorem pos_of_halves {L : List Rc} {q : Rc} {k : Nat} (hk : k ≤ L.length) (h1 : ∀ j a, j < k → L[j]? = some a → lessB a q = true) (h2 : ∀ j a, k ≤ j → L[j]? = some a → lessB a q = false) : k = pos L q :=
  pos_uniq hk h1 (fun a ha => h2 k a (Nat.le_refl _) ha)
end Go.Proofs.YtppoafggiejdgaaGreat.K
