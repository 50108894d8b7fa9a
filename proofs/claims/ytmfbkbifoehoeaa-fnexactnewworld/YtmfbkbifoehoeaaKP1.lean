/-
  Owns grown, put together, copied, a piece swapped for others: slices.Grow and slices.Concat over Owns.
-/
import Derived.Test.YtmfbkbifoehoeaaKD0
import Derived.Test.YtmfbkbifoehoeaaKB5
import Derived.Shelf.Spec.SlicesGrow
import Derived.Shelf.SlGeneric
import Derived.Laws.OwnMore
import Derived.Lib.Hide
import Derived.Deep.RegionWith
namespace Go.Proofs
open Go.Shelf
end Go.Proofs
namespace Go.Proofs.Ytmfbkbifoehoeaa.K.D
open Go.Shelf Go.RowKit Go.Joins
attribute [local go_sem] Oper.semAt_some

abbrev zO : Value := .agg #[.int .i64 0, .int .i64 0, .int .i64 0, .int .i64 0]
theorem sg_nilrow (w : World) : Sg w w [rG kO (.slice none 0 0) []] := by
  refine ⟨Below.refl _ _, fun r hr => ?_, List.pairwise_singleton _ _⟩
  obtain rfl := List.mem_singleton.mp hr
  exact ⟨rfl, .inl ⟨rfl, rfl⟩⟩
end Go.Proofs.Ytmfbkbifoehoeaa.K.D
