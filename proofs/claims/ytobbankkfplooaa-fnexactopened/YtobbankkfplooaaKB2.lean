/-
  Records: which comes first, are all right, do they rise.
-/
import Derived.Test.YtobbankkfplooaaKB1
namespace Go.Proofs.Ytobbankkfplooaa.K
open Go.RowKit Go.Joins
attribute [local go_sem] Oper.semAt_some

theorem keepS {P C : World → Prop} (hS : ∀ w', P w' → C w') {w' : World} (h : P w') : P w' ∧ C w' := ⟨h, hS _ h⟩
def orI (a b : Int) : Int := if a = 0 then b else a
theorem compare_v {a b v : Int} (h : cmpZ a b = v) (w : World) : Calls Try.prog 46 #[.int .i64 a, .int .i64 b] w fun e w' => e = .returned (.int .i64 v) ∧ w' = w := by subst h; exact compare_any a b w
theorem wrapI {a : Int} (h0 : -1000000000 ≤ a) (h1 : a ≤ 1000000000) : IntKind.i64.wrap a = a := by rw [IntKind.wrap_i64]; omega
end Go.Proofs.Ytobbankkfplooaa.K
