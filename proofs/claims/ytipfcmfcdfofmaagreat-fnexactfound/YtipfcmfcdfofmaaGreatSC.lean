/-
  Appends onto an empty list.
-/
import Derived.Test.YtipfcmfcdfofmaaGreatSB
namespace Go.Proofs.YtipfcmfcdfofmaaGreat
open Go.RowKit Go.Joins

section
variable {α : Type} {K : Kd α} {ts : TypeId} {z : Value} {bytes : Nat}
theorem wpList_sgapp0 (hA : Ap K ts z bytes) {ops : Array Oper} {rest : List Oper} {o : Oper} {a : Act} {Q : Exit → Act → World → Prop} (hgd : o.guard = none) (s x : Operand) (ho : o.op = .call { callee := .builtin .append, args := #[s, x], argTypes := #[ts, ts] })
    {w W0 W : World} {A Bs : List Rw} {v : Value} {B : List α} {m : Nat} (hS : Sg w W0 (A ++ rG K v [] :: Bs)) (hb : Below W0.heap.size W0 W) (hm : B.length = m) (hs : a.eval s = v) (ad : Addr) (c : Nat) (hx : a.eval x = .slice (some ad) m c)
    (hsrc : ∀ j u, (K.flat B)[j]? = some u → W.cell? (ad.add j) = some u) (h1 : ∀ u ∈ K.flat B, u.oneCell' = true) (hne : 0 < m ∨ ¬ v = .slice none 0 0) (hl : m ≤ 1000000)
    (h : ∀ g cap w', Sg w w' (A ++ rG K (.slice (some ⟨g, 0, none⟩) m cap) B :: Bs) → W.grownBy w' v.ownBlock → (v.ownBlock = some g ∨ g = W.heap.size) → wpList Tryz.prog ops Q rest (a.put o.dst (.slice (some ⟨g, 0, none⟩) m cap)) w') : wpList Tryz.prog ops Q (o :: rest) a W :=
  wpList_sgapp hA hgd s x ho (M := []) (n := 0) hS hb rfl hm hs ad c hx hsrc h1 hne (by omega) fun g cap w' h2 h3 h4 => by
    rw [Nat.zero_add] at h2 ⊢
    exact h g cap w' (by simpa using h2) h3 h4
theorem step_sgapp0 (hA : Ap K ts z bytes) {ops : Array Oper} {o : Oper} {a : Act} {KK : Act → World → Prop} {Q : Exit → Act → World → Prop} {E : Prop} (hgd : o.guard = none) (s x : Operand) (ho : o.op = .call { callee := .builtin .append, args := #[s, x], argTypes := #[ts, ts] })
    {w W0 W : World} {A Bs : List Rw} {v : Value} {B : List α} {m : Nat} (hS : Sg w W0 (A ++ rG K v [] :: Bs)) (hb : Below W0.heap.size W0 W) (hm : B.length = m) (hs : a.eval s = v) (ad : Addr) (c : Nat) (hx : a.eval x = .slice (some ad) m c)
    (hsrc : ∀ j u, (K.flat B)[j]? = some u → W.cell? (ad.add j) = some u) (h1 : ∀ u ∈ K.flat B, u.oneCell' = true) (hne : 0 < m ∨ ¬ v = .slice none 0 0) (hl : m ≤ 1000000)
    (h : ∀ g cap w', Sg w w' (A ++ rG K (.slice (some ⟨g, 0, none⟩) m cap) B :: Bs) → W.grownBy w' v.ownBlock → (v.ownBlock = some g ∨ g = W.heap.size) → KK (a.put o.dst (.slice (some ⟨g, 0, none⟩) m cap)) w') :
    if Region.wanted o (yielded ops a.tmps) = true then Oper.wp Tryz.prog o a W KK Q else E :=
  step_sgapp hA hgd s x ho (M := []) (n := 0) hS hb rfl hm hs ad c hx hsrc h1 hne (by omega) fun g cap w' h2 h3 h4 => by
    rw [Nat.zero_add] at h2 ⊢
    exact h g cap w' (by simpa using h2) h3 h4
end
end Go.Proofs.YtipfcmfcdfofmaaGreat
