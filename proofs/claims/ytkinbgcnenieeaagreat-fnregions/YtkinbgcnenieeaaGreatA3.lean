/-
  Seals: Seal, Longer and Chain, the program's and the spec's.
-/
import Derived.Test.YtkinbgcnenieeaaGreatA2
import Derived.Test.YtkinbgcnenieeaaGreatSA
namespace Go.Proofs.YtkinbgcnenieeaaGreat
open Go.RowKit Go.Joins

def in3 (x a b : Int) : Bool := decide (a ≤ x ∧ x ≤ b)
set_option maxHeartbeats 400000 in
theorem l1In_any (x a b : Int) (w : World) : Calls Tryz.prog 28 #[.int .i64 x, .int .i64 a, .int .i64 b] w fun e w' => e = .returned (.bool (in3 x a b)) ∧ w' = w := by
  go_enter Tryz.func28, Tryz.ntmps28
  go_wp2
  all_goals (go_ret; exact ⟨ret_bool (by unfold in3; first | exact (decide_eq_true (by omega)).symm | exact (decide_eq_false (by omega)).symm | exact decide_eq_decide.mpr (by omega)), rfl⟩)
theorem sIn_v {h : Int} {v : Bool} (hv : inB h = v) (w : World) : Calls Tryz.prog 28 #[.int .i64 h, .int .i64 0, .int .i64 2147483646] w fun e w' => e = .returned (.bool v) ∧ w' = w := hv ▸ l1In_any h 0 2147483646 w

set_option maxHeartbeats 1000000 in
theorem l9Seal_any (key : Int) (s : ByteArray) (w : World) (hn : s.size ≤ 10000000) (hkb : 0 ≤ key ∧ key ≤ 2147483646) :
    Calls Tryz.prog 56 #[.int .i64 key, .string s] w fun e w' => e = .returned (.int .i64 (hs s key (s.size + 7))) ∧ w' = w := by
  go_enter Tryz.func56, Tryz.ntmps56
  go_wp2
  go_loop [5, 6] (fun h i => ∃ k : Nat, k ≤ s.size + 7 ∧ i = .int .i64 k ∧ h = .int .i64 (hs s key k)) (fun _ i => s.size + 7 - (intOf i).toNat)
  case atStart => exact ⟨0, by omega, rfl, rfl⟩
  case round =>
    obtain ⟨k, hk, rfl, rfl⟩ := hrel
    have hbd := hs_bd (s := s) hkb k
    by_cases hlt : k < s.size + 7
    · by_cases hlt2 : k < s.size
      · have hki : (k : Int) < s.size := by omega
        have hki2 : (k : Int) < s.size + 7 := by omega
        have hix := fun w => idx hlt2 w
        have hbb := bt_bd s k
        have e1 : hs s key (k + 1) = (hs s key k * 1000003 + bt s k + 1) % 2147483647 := rfl
        generalize hs s key k = h at hbd e1
        generalize bt s k = b at hbb e1 hix
        go_wp2
        go_round
        case rel => exact ⟨k + 1, by omega, by go_num, by rw [e1]⟩
        case measure => simp [intOf]; omega
      · have hki : ¬ (k : Int) < s.size := by omega
        have hki2 : (k : Int) < s.size + 7 := by omega
        have e1 : hs s key (k + 1) = (hs s key k * 1000003 + 0 + 1) % 2147483647 := by show st _ (bt s k) = _; rw [bt_end (by omega)]; rfl
        generalize hs s key k = h at hbd e1
        go_wp2
        go_round
        case rel => exact ⟨k + 1, by omega, by go_num, by rw [e1]; simp⟩
        case measure => simp [intOf]; omega
    · obtain rfl : k = s.size + 7 := by omega
      go_wp2
      go_ret
      exact ⟨rfl, rfl⟩
/-- One text more. -/
def lnI (tag : Int) (s : ByteArray) : Int := if s.size ≤ 200 then slI tag s else -1
theorem lnI_bd (tag : Int) (s : ByteArray) : -1 ≤ lnI tag s ∧ lnI tag s ≤ 2147483646 := by
  unfold lnI
  split
  · exact slI_bd _ _
  · omega
theorem lnI_no (s : ByteArray) : lnI (-1) s = -1 := by
  unfold lnI slI
  have : inB (-1) = false := rfl
  rw [this]
  split <;> rfl
theorem fold_no : ∀ L : List ByteArray, L.foldl lnI (-1) = -1
  | [] => rfl
  | s :: t => by rw [List.foldl_cons, lnI_no, fold_no t]
def chI (key : Int) (L : List ByteArray) : Int := if inB key = true ∧ L.length ≤ 10 then L.foldl lnI key else -1

end Go.Proofs.YtkinbgcnenieeaaGreat
