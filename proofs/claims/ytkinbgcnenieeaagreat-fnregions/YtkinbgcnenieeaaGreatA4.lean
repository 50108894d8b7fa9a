/-
  Seals: Chain, the program's and the spec's; the law's looks at lists of texts.
-/
import Derived.Test.YtkinbgcnenieeaaGreatA3
namespace Go.Proofs.YtkinbgcnenieeaaGreat
open Go.RowKit Go.Joins
attribute [local go_sem] Oper.semAt_some

def zT : ByteArray := ByteArray.empty
theorem getT {L : List ByteArray} {k : Nat} (hk : k < L.length) : L[k]? = some (L.getD k zT) := by simp [List.getD, hk]
theorem fold_take {L : List ByteArray} {k : Nat} {key : Int} (hk : k < L.length) : (L.take (k + 1)).foldl lnI key = lnI ((L.take k).foldl lnI key) (L.getD k zT) := by
  rw [List.take_add_one, List.foldl_append, getT hk]; rfl
theorem lnI_in {tag : Int} {s : ByteArray} (ht : inB tag = true) (h : s.size ≤ 200) : lnI tag s = hs s tag (s.size + 7) ∧ inB (lnI tag s) = true := by
  have e : lnI tag s = hs s tag (s.size + 7) := by unfold lnI slI; rw [if_pos h, if_pos ht]
  exact ⟨e, by rw [e]; exact inB_t.mpr (hs_bd (inB_t.mp ht) _)⟩
theorem fold_long {L : List ByteArray} {k : Nat} {key : Int} (hk : k < L.length) (h : 200 < (L.getD k zT).size) : L.foldl lnI key = -1 := by
  have e : L = L.take (k + 1) ++ L.drop (k + 1) := (List.take_append_drop ..).symm
  rw [e, List.foldl_append, fold_take hk]
  have : lnI ((L.take k).foldl lnI key) (L.getD k zT) = -1 := by unfold lnI; rw [if_neg (by omega)]
  rw [this, fold_no]

end Go.Proofs.YtkinbgcnenieeaaGreat
