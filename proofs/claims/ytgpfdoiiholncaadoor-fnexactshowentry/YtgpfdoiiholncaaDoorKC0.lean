/-
  The Check by bytes.
-/
import Derived.Test.YtgpfdoiiholncaaDoorKA0
import Derived.Test.YtgpfdoiiholncaaDoorKJM
namespace Go.Proofs.YtgpfdoiiholncaaDoor.K
open Go.RowKit Go.Joins

/-- What is the byte at k; 0 behind the end. -/
def bt (s : ByteArray) (k : Nat) : Int := if h : k < s.size then ((s[k]'h).toNat : Int) else 0
theorem bt_bd (s : ByteArray) (k : Nat) : 0 ≤ bt s k ∧ bt s k ≤ 255 := by
  unfold bt
  split
  · rename_i h
    have := UInt8.toNat_lt (s[k]'h)
    omega
  · omega
theorem bt_at {s : ByteArray} {k : Nat} (h : k < s.size) : bt s k = ((s[k]'h).toNat : Int) := by unfold bt; rw [dif_pos h]
theorem idx {s : ByteArray} {k : Nat} (h : k < s.size) (w : World) : (Instr.index 9 (.string s) (.int .i64 (k : Int))).run Tryd.prog w = .ok (.int .u8 (bt s k)) w := by
  rw [run_index_string w 9 s .i64 (k : Int) Tryd.underlying9, dif_pos ⟨by omega, by omega⟩, bt_at h]
  rfl
/-- The Check of the first k bytes. -/
def ck (s : ByteArray) : Nat → Int
  | 0 => 13
  | k + 1 => (53 * ck s k + bt s k) % 999983
theorem ck_bd (s : ByteArray) : ∀ k, 0 ≤ ck s k ∧ ck s k < 999983
  | 0 => by unfold ck; omega
  | k + 1 => by unfold ck; omega
set_option maxHeartbeats 1000000 in
theorem sCheck_any (s : ByteArray) (w : World) (hn : s.size ≤ 10000000) :
    Calls Tryd.prog 26 #[.string s] w fun e w' => e = .returned (.int .i64 (ck s s.size)) ∧ w' = w := by
  go_enter Tryd.func26, Tryd.ntmps26
  go_wp2
  go_loop [3, 4] (fun h i => ∃ k : Nat, k ≤ s.size ∧ i = .int .i64 k ∧ h = .int .i64 (ck s k)) (fun _ i => s.size - (intOf i).toNat)
  case atStart => exact ⟨0, by omega, rfl, rfl⟩
  case round =>
    obtain ⟨k, hk, rfl, rfl⟩ := hrel
    have hbd := ck_bd s k
    by_cases hlt : k < s.size
    · have hki : (k : Int) < s.size := by omega
      have hix := fun w => idx hlt w
      have hbb := bt_bd s k
      have e1 : ck s (k + 1) = (53 * ck s k + bt s k) % 999983 := rfl
      generalize ck s k = h at hbd e1
      generalize bt s k = b at hbb e1 hix
      go_wp2
      go_round
      case rel => exact ⟨k + 1, by omega, by go_num, by rw [e1]⟩
      case measure => simp [intOf]; omega
    · obtain rfl : k = s.size := by omega
      go_wp2
      go_ret
      exact ⟨rfl, rfl⟩
end Go.Proofs.YtgpfdoiiholncaaDoor.K
