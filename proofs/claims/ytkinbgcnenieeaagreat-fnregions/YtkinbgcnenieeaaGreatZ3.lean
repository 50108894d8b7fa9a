/-
  Papers compared; the law of Genuine, walked.
-/
import Derived.Test.YtkinbgcnenieeaaGreatZ2
namespace Go.Proofs.YtkinbgcnenieeaaGreat
open Go.Shelf Go.RowKit Go.Joins M
attribute [local go_sem] Oper.semAt_some

theorem Sg.rdS {w W : World} {rs : List Rw} {p : Option Addr} {n c : Nat} {QL : List CQ} (h : Sg w W rs) (hs : smQ QL) (hm : ∀ r ∈ trX (.slice p n c) QL [], r ∈ rs) : RdS W p QL := by
  refine ⟨OwG.sl (h.mem (K := kQ) (v := .slice p n c) (L := QL) (hm _ (by simp [trX]))), fun q hq => h.rdQ (fun r hr => hm r ?_) (hs q hq).1 (hs q hq).2⟩
  unfold trX
  exact List.mem_cons_of_mem _ (List.mem_flatMap.mpr ⟨q, hq, hr⟩)
end Go.Proofs.YtkinbgcnenieeaaGreat
