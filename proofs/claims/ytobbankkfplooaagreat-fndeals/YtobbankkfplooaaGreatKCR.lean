/-
  Records put together, copied; marks found again.
-/
import Derived.Test.YtobbankkfplooaaGreatKB5
import Derived.Test.YtobbankkfplooaaGreatKL3
import Derived.Shelf.Spec.SlicesGrow
import Derived.Shelf.SlGeneric
import Derived.Laws.OwnMore
namespace Go.Proofs
open Go.Shelf
end Go.Proofs
namespace Go.Proofs.YtobbankkfplooaaGreat.K
open Go.Shelf Go.RowKit Go.Joins
attribute [local go_sem] Oper.semAt_some

end Go.Proofs.YtobbankkfplooaaGreat.K
