/-
  Seals: Seal, Longer and Chain, the program's and the spec's.
-/
import Derived.Test.YtbkiogedipmioaaGreatA2
import Derived.Test.YtbkiogedipmioaaGreatSA
namespace Go.Proofs.YtbkiogedipmioaaGreat
open Go.RowKit Go.Joins

def in3 (x a b : Int) : Bool := decide (a ≤ x ∧ x ≤ b)
set_option maxHeartbeats 400000 in
theorem l1In_any (x a b : Int) (w : World) : Calls Tryz.prog 37 #[.int .i64 x, .int .i64 a, .int .i64 b] w fun e w' => e = .returned (.bool (in3 x a b)) ∧ w' = w := by
  go_enter Tryz.func37, Tryz.ntmps37
  go_wp2
  all_goals (go_ret; exact ⟨ret_bool (by unfold in3; first | exact (decide_eq_true (by omega)).symm | exact (decide_eq_false (by omega)).symm | exact decide_eq_decide.mpr (by omega)), rfl⟩)
theorem sIn_v {h : Int} {v : Bool} (hv : inB h = v) (w : World) : Calls Tryz.prog 37 #[.int .i64 h, .int .i64 0, .int .i64 2147483646] w fun e w' => e = .returned (.bool v) ∧ w' = w := hv ▸ l1In_any h 0 2147483646 w

end Go.Proofs.YtbkiogedipmioaaGreat
