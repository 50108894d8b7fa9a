/-
  Seals: sync.Once in a sealing (first Do; its lock free), tag, Seal, Longer: the program's.
-/
import Derived.Test.YtkinbgcnenieeaaGreatA1
import Derived.Tactics
import Derived.Tactics2
import Derived.Defers
import Derived.Laws.Pointers
import Derived.Laws.LoneSync
import Derived.RegionTactic
import Derived.RegionCalls
import Derived.ChangeAlike
namespace Go.Proofs.YtkinbgcnenieeaaGreat
open Go.RowKit Go.Joins

set_option maxHeartbeats 400000 in
theorem isSeal_any (h : Int) (w : World) :
    Calls Tryz.prog 43 #[.int .i64 h] w fun e w' => e = .returned (.bool (inB h)) ∧ w' = w := by
  go_enter Tryz.func43, Tryz.ntmps43
  go_wp2
  all_goals (go_ret; exact ⟨ret_bool (by unfold inB; first | exact (decide_eq_true (by omega)).symm | exact (decide_eq_false (by omega)).symm | exact decide_eq_decide.mpr (by omega)), rfl⟩)
theorem isSeal_v {h : Int} {v : Bool} (hv : inB h = v) (w : World) : Calls Tryz.prog 43 #[.int .i64 h] w fun e w' => e = .returned (.bool v) ∧ w' = w := hv ▸ isSeal_any h w

theorem idx {s : ByteArray} {k : Nat} (h : k < s.size) (w : World) : (Instr.index 9 (.string s) (.int .i64 (k : Int))).run Tryz.prog w = .ok (.int .u8 (bt s k)) w := by
  rw [run_index_string w 9 s .i64 (k : Int) Tryz.underlying9, dif_pos ⟨by omega, by omega⟩, bt_at h]
  rfl
end Go.Proofs.YtkinbgcnenieeaaGreat
