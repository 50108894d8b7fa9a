/-
  The law of RecordsOk, walked.
-/
import Derived.Test.YtbkiogedipmioaaL3
namespace Go.Proofs.Ytbkiogedipmioaa
open Go.Shelf Go.RowKit Go.Joins
attribute [local go_sem] Oper.semAt_some

/-- What a law's first lines know of a list that is not too big. -/
theorem rsz_len {L : List Rc} {n : Nat} (hn : L.length = n) (h : rsz L ≤ 1048576) : n ≤ 1048576 := by unfold rsz at h; omega
end Go.Proofs.Ytbkiogedipmioaa
