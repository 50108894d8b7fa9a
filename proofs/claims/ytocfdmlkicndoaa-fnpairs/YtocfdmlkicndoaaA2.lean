/-
  Side: the spec's, and the law's walk.
-/
import Derived.Test.YtocfdmlkicndoaaA1
namespace Go.Proofs.Ytocfdmlkicndoaa
open Go.RowKit Go.Joins
attribute [local go_sem ↓] Go.wp_at_zero Go.wp_at_succ

theorem sSpot_v {x y : Int} {v : Bool} (hv : spB x y = v) (w : World) :
    Calls Try.prog 59 #[.agg #[.int .i64 x, .int .i64 y]] w fun e w' => e = .returned (.bool v) ∧ Below w.heap.size w w' := by subst hv; exact sSpot_any x y w
theorem spRight_v {x y : Int} {v : Bool} (hv : spB x y = v) (w : World) :
    Calls Try.prog 42 #[.agg #[.int .i64 x, .int .i64 y]] w fun e w' => e = .returned (.bool v) ∧ Below w.heap.size w w' := by subst hv; exact spRight_any x y w
end Go.Proofs.Ytocfdmlkicndoaa
