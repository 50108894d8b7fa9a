/-
  The Check, the program's; its law walked.
-/
import Derived.Test.YtgpfdoiiholncaaKC0
namespace Go.Proofs.Ytgpfdoiiholncaa.K
open Go.RowKit Go.Joins

set_option maxHeartbeats 1000000 in
theorem iCheck_any (s : ByteArray) (w : World) (hn : s.size ≤ 10000000) :
    Calls Try.prog 11 #[.string s] w fun e w' => e = .returned (.int .i64 (ck s s.size)) ∧ w' = w := by
  go_enter Try.func11, Try.ntmps11
  go_wp2
  go_loop [3, 7] (fun h i => ∃ k : Nat, k ≤ s.size ∧ i = .int .i64 k ∧ h = .int .i64 (ck s k)) (fun _ i => s.size - (intOf i).toNat)
  case atStart => exact ⟨0, by omega, rfl, rfl⟩
  case round =>
    obtain ⟨k, hk, rfl, rfl⟩ := hrel
    have hbd := ck_bd s k
    by_cases hlt : k < s.size
    · have hki : (k : Int) < s.size := by omega
      have hix := fun w => idx hlt w
      have hbb := bt_bd s k
      have e1 : ck s (k + 1) = (ck s k * 53 + bt s k) % 999983 := by rw [Int.mul_comm]; rfl
      generalize ck s k = h at hbd e1
      generalize bt s k = b at hbb e1 hix
      go_wp2
      go_round
      case rel => exact ⟨k + 1, by omega, by go_num, by rw [e1]⟩
      case measure => simp [intOf]; omega
    · obtain rfl : k = s.size := by omega
      go_wp2
      go_ret
      exact ⟨rfl, rfl⟩
set_option maxHeartbeats 1000000 in
theorem exactCheck_walk (s : ByteArray) (w : World) (_hs : s.size ≤ maxLen) :
    Calls Try.prog 4 #[.string s] w fun e w' => e = .returned (.bool true) ∧ Below w.heap.size w w' := by
  by_cases h : s.size ≤ 1048576
  · have h' : ¬ (1048576 : Int) < s.size := by omega
    obtain ⟨v, hv⟩ : ∃ v, ck s s.size = v := ⟨_, rfl⟩
    have HS : Hid (∀ w, Calls Try.prog 10 #[.string s] w fun e w' => e = .returned (.int .i64 v) ∧ w' = w) := fun w => hv ▸ sCheck_any s w (by omega)
    have HI : Hid (∀ w, Calls Try.prog 11 #[.string s] w fun e w' => e = .returned (.int .i64 v) ∧ w' = w) := fun w => hv ▸ iCheck_any s w (by omega)
    clear hv
    go_enter Try.func4, Try.ntmps4
    go_wp2_with (first | (go_at_call 10; refine (HS.out _).mono ?_; rintro e w1 ⟨rfl, hw1⟩; obtain rfl := hw1.symm) | (go_at_call 11; refine (HI.out _).mono ?_; rintro e w1 ⟨rfl, hw1⟩; obtain rfl := hw1.symm))
    go_ret
    exact ⟨rfl, Below.refl _ _⟩
  · have h' : (1048576 : Int) < s.size := by omega
    go_enter Try.func4, Try.ntmps4
    go_wp2
    go_ret
    exact ⟨rfl, Below.refl _ _⟩
end Go.Proofs.Ytgpfdoiiholncaa.K
