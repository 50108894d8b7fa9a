/-
  Contracts of the drawing functions, first part: a cursor over the bytes; one number below n. What is drawn is not told: that the call answers, in what range, and that no other block turns.
-/
import Derived.Test.YtamnmakegdnblaaMM3
import Derived.Test.YtamnmakegdnblaaMD4
import Derived.Deep.QuietTactic
import Derived.BigQuiet
namespace Go.Proofs.Ytamnmakegdnblaa.M
open Go.RowKit Go.Joins

set_option maxHeartbeats 1000000 in
theorem pick_any (a : Option Addr) (len cap : Nat) (zs : List Int) (seed n : Int) (g : Nat) (w : World) (hl : len ≤ 4096) (hr : Rd w g a len zs) (hs1 : 0 ≤ seed) (hs2 : seed ≤ 5000) (hn : 1 ≤ n) :
    Calls Try.prog 62 #[.slice a len cap, .int .i64 seed, .int .i64 n] w fun e w' => ∃ x : Int, e = .returned (.int .i64 x) ∧ 0 ≤ x ∧ x < n ∧ w = w' := by
  go_enter Try.func62, Try.ntmps62
  go_wp2
  go_loop [7, 8] (fun h i => ∃ k : Nat, k ≤ len ∧ i = .int .i64 k ∧ ∃ m : Int, 0 ≤ m ∧ m ≤ 100000000 ∧ h = .int .i64 m) (fun _ i => len - (intOf i).toNat)
  case atStart => exact ⟨0, Nat.zero_le _, rfl, _, by omega, by omega, rfl⟩
  case round =>
    obtain ⟨k, hk, rfl, m, hm1, hm2, rfl⟩ := hrel
    by_cases hlt : k < len
    · rcases hr with h' | ⟨b, off, rfl, _, _, hr⟩
      · omega
      have hr1 := (hr k hlt).1
      have hr2 := (hr k hlt).2.1
      have hr3 := (hr k hlt).2.2
      clear hr
      generalize zs.getD k 0 = z at hr1 hr2 hr3
      go_wp2
      go_round
      case rel => exact ⟨k + 1, by omega, by go_num, _, Int.emod_nonneg _ (by decide), by have := Int.emod_lt_of_pos (m * 179 + z + seed) (b := 1000003) (by decide); omega, rfl⟩
      case measure => simp [intOf]; omega
    · go_wp2
      go_ret
      exact ⟨_, rfl, Int.emod_nonneg _ (by omega), Int.emod_lt_of_pos _ (by omega), rfl⟩
end Go.Proofs.Ytamnmakegdnblaa.M
