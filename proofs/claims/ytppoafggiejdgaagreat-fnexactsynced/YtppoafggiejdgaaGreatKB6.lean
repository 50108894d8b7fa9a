/-
  Where one stands in a list of Records; a list with a piece swapped; a copy.
-/
import Derived.Test.YtppoafggiejdgaaGreatKB5
namespace Go.Proofs.YtppoafggiejdgaaGreat.K
open Go.Shelf Go.RowKit Go.Joins
attribute [local go_sem] Oper.semAt_some

theorem sg_bel {w W : World} (h : Below w.heap.size w W) : Sg w W [] := ⟨h, by simp, .nil⟩

end Go.Proofs.YtppoafggiejdgaaGreat.K
