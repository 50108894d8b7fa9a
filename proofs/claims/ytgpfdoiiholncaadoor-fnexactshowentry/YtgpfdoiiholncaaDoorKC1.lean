/-
  The Check, the program's; its law walked.
-/
import Derived.Test.YtgpfdoiiholncaaDoorKC0
namespace Go.Proofs.YtgpfdoiiholncaaDoor.K
open Go.RowKit Go.Joins

set_option maxHeartbeats 1000000 in
theorem iCheck_any (s : ByteArray) (w : World) (hn : s.size ≤ 10000000) :
    Calls Tryd.prog 17 #[.string s] w fun e w' => e = .returned (.int .i64 (ck s s.size)) ∧ w' = w := by
  go_enter Tryd.func17, Tryd.ntmps17
  go_wp2
  go_loop [3, 7] (fun h i => ∃ k : Nat, k ≤ s.size ∧ i = .int .i64 k ∧ h = .int .i64 (ck s k)) (fun _ i => s.size - (intOf i).toNat)
  case atStart => exact ⟨0, by omega, rfl, rfl⟩
  case round =>
    obtain ⟨k, hk, rfl, rfl⟩ := hrel
    have hbd := ck_bd s k
    by_cases hlt : k < s.size
    · have hki : (k : Int) < s.size := by omega
      have hix := fun w => idx hlt w
      have hbb := bt_bd s k
      have e1 : ck s (k + 1) = (ck s k * 53 + bt s k) % 999983 := by rw [Int.mul_comm]; rfl
      generalize ck s k = h at hbd e1
      generalize bt s k = b at hbb e1 hix
      go_wp2
      go_round
      case rel => exact ⟨k + 1, by omega, by go_num, by rw [e1]⟩
      case measure => simp [intOf]; omega
    · obtain rfl : k = s.size := by omega
      go_wp2
      go_ret
      exact ⟨rfl, rfl⟩
end Go.Proofs.YtgpfdoiiholncaaDoor.K
