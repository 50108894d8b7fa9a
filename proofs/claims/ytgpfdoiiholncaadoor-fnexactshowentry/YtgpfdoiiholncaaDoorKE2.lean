/-
  The law of EntryOk, walked.
-/
import Derived.Test.YtgpfdoiiholncaaDoorKE1
namespace Go.Proofs.YtgpfdoiiholncaaDoor.K
open Go.Shelf Go.RowKit Go.Joins
theorem Sg.dr {w W : World} {rs : List Rw} (h : Sg w W rs) : Sg w W.drew rs := h.step (Below.refl _ _).drew
end Go.Proofs.YtgpfdoiiholncaaDoor.K
namespace Go.Proofs.YtgpfdoiiholncaaDoor.K.I
open Go.Shelf Go.RowKit Go.Joins
attribute [local go_sem] Oper.semAt_some

end Go.Proofs.YtgpfdoiiholncaaDoor.K.I
