/-
  A state that is carried through a walk, further: a store into a block.
-/
import Derived.Test.YtgpgmndjkcpaoaaN1
namespace Go.Proofs.Ytgpgmndjkcpaoaa
open Go.RowKit Go.Joins
theorem HasAt.far {W : World} {b g i : Nat} {v : Value} (hne : b ≠ g) : ∀ {j : Nat} {vs : List Value}, HasAt W g j vs → HasAt (W.setCell ⟨b, i, none⟩ v) g j vs
  | _, [], _ => trivial
  | j, _ :: _, ⟨h, t⟩ => ⟨(World.cell?_of_block (Below.heap_setCell W ⟨b, i, none⟩ v g (fun e => hne (by have e' : g = b := e; omega)))).trans h, HasAt.far hne t⟩
theorem Has.far {W : World} {b i : Nat} {v : Value} : ∀ {l : List (Nat × List Value)}, (∀ p ∈ l, b ≠ p.1) → Has W l → Has (W.setCell ⟨b, i, none⟩ v) l
  | [], _, _ => trivial
  | p :: _, hl, ⟨⟨h1, h2, h3⟩, t⟩ => ⟨⟨by simpa using h1, fun o => (World.frozen?_setCell ..).trans (h2 o), HasAt.far (hl p (List.mem_cons_self ..)) h3⟩, Has.far (fun q hq => hl q (List.mem_cons_of_mem _ hq)) t⟩
theorem St.join {w X Y : World} {l l2 : List (Nat × List Value)} (h : St w X l) (h2 : St X Y l2) : St w Y (l2 ++ l) := by
  have hx := h.step h2.bel
  refine ⟨hx.bel, ?_⟩
  have hh := h2.has
  clear h h2
  induction l2 with
  | nil => exact hx.has
  | cons p t ih => exact ⟨hh.1, ih hh.2⟩
theorem St.dist {w X : World} {l : List (Nat × List Value)} (h : St w X l) {g : Nat} (hg : X.heap.size ≤ g) : ∀ p ∈ l, g ≠ p.1 := fun p hp => by have := (h.has.mem hp).1; omega
theorem HasAt.get {W : World} {b : Nat} : ∀ {vs : List Value} {i : Nat}, HasAt W b i vs → ∀ j v, vs[j]? = some v → W.cell? ⟨b, i + j, none⟩ = some v
  | _ :: _, i, ⟨h, t⟩, 0, v, hv => by simp at hv; subst hv; exact h
  | _ :: vs, i, ⟨h, t⟩, j + 1, v, hv => by have := HasAt.get t j v (by simpa using hv); rwa [show i + (j + 1) = i + 1 + j by omega]
theorem St.set {w W : World} {b : Nat} {vs : List Value} {l : List (Nat × List Value)} (h : St w W ((b, vs) :: l)) (i : Nat) (hi : i < vs.length) (v : Value) (hb : w.heap.size ≤ b) (hl : ∀ p ∈ l, b ≠ p.1) : St w (W.setCell ⟨b, i, none⟩ v) ((b, vs.set i v) :: l) := by
  obtain ⟨h1, ⟨h2, h3, h4⟩, h5⟩ := h
  refine ⟨h1.setCell (p := ⟨b, i, none⟩) hb _, ⟨⟨by simpa using h2, fun o => (World.frozen?_setCell ..).trans (h3 o), hasAt_of _ _ (fun j u hj => ?_)⟩, Has.far hl h5⟩⟩
  have hg := HasAt.get h4
  by_cases e : i = j
  · subst e
    have hu : u = v := by rw [List.getElem?_set_self hi] at hj; exact (Option.some.inj hj).symm
    subst hu
    have := hg i _ (List.getElem?_eq_getElem hi)
    rw [Nat.zero_add] at this ⊢
    exact World.cell?_setCell_same' _ _ _ (by rw [this]; rfl)
  · rw [List.getElem?_set_ne e] at hj
    have := hg j u hj
    rw [Nat.zero_add] at this ⊢
    refine (World.cell?_setCell_other _ _ _ _ (fun q => e ?_)).trans this
    injection q
theorem St.set4 {w W : World} {b : Nat} {a0 a1 a2 a3 : Value} {l : List (Nat × List Value)} (h : St w W ((b, [a0, a1, a2, a3]) :: l)) (v0 v1 v2 v3 : Value) (hb : w.heap.size ≤ b) (hl : ∀ p ∈ l, b ≠ p.1) : St w ((((W.setCell ⟨b, 0, none⟩ v0).setCell ⟨b, 1, none⟩ v1).setCell ⟨b, 2, none⟩ v2).setCell ⟨b, 3, none⟩ v3) ((b, [v0, v1, v2, v3]) :: l) :=
  (((h.set 0 (by simp) v0 hb hl).set 1 (by simp) v1 hb hl).set 2 (by simp) v2 hb hl).set 3 (by simp) v3 hb hl
end Go.Proofs.Ytgpgmndjkcpaoaa
