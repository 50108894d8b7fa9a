/-
  The law's looks at a Shard: how big, made the program's, alike.
-/
import Derived.Test.YtobbankkfplooaaKY5
namespace Go.Proofs.Ytobbankkfplooaa.K.Y
open Go.Shelf Go.RowKit Go.Joins
attribute [local go_sem] Oper.semAt_some

/-- No list is longer than there is room. -/
structure SmS (h : Hv) (R : List Rc) (QL : List YQ) : Prop where
  r : h.r.n ≤ maxLen
  rs : ∀ r ∈ R, r.s.size ≤ maxLen
  y : h.y.n ≤ maxLen
  ys : SmY QL
  o : h.o.n ≤ maxLen
  g : h.g.size ≤ maxLen
def ssz (h : Hv) (R : List Rc) (QL : List YQ) : Nat := rsz R + (ysz QL + (h.o.n + h.g.size))
/-- What the rows tell a reader. -/
theorem trY_rd {w W : World} {rs : List Rw} {p : Option Addr} {n c : Nat} {QL : List YQ} (h : Sg w W rs) (hm : ∀ r ∈ trY (.slice p n c) QL [], r ∈ rs) (hl : ∀ q ∈ QL, q.1.L.length = q.2.n) : RdY W p QL := by
  refine ⟨OwG.sl (h.mem (K := kY) (v := .slice p n c) (L := QL) (hm _ (by simp [trY]))), fun y hy => ⟨OwG.sl (h.mem (K := I.kR) (v := .slice y.2.p y.2.n y.2.c) (L := y.1.L) (hm _ ?_)), hl y hy⟩⟩
  unfold trY
  exact List.mem_cons_of_mem _ (List.mem_map.2 ⟨y, hy, rfl⟩)
end Go.Proofs.Ytobbankkfplooaa.K.Y
