/-
  Seals: sync.Once in a sealing (first Do; its lock free), tag, Seal, Longer: the program's.
-/
import Derived.Test.YtbkiogedipmioaaGreatA1
namespace Go.Proofs.YtbkiogedipmioaaGreat
open Go.RowKit Go.Joins

set_option maxHeartbeats 400000 in
theorem isSeal_any (h : Int) (w : World) :
    Calls Tryz.prog 77 #[.int .i64 h] w fun e w' => e = .returned (.bool (inB h)) ∧ w' = w := by
  go_enter Tryz.func77, Tryz.ntmps77
  go_wp2
  all_goals (go_ret; exact ⟨ret_bool (by unfold inB; first | exact (decide_eq_true (by omega)).symm | exact (decide_eq_false (by omega)).symm | exact decide_eq_decide.mpr (by omega)), rfl⟩)
theorem isSeal_v {h : Int} {v : Bool} (hv : inB h = v) (w : World) : Calls Tryz.prog 77 #[.int .i64 h] w fun e w' => e = .returned (.bool v) ∧ w' = w := hv ▸ isSeal_any h w

end Go.Proofs.YtbkiogedipmioaaGreat
