/-
  The law of Area, walked: the program's answer is the spec's, for whatever numbers; nothing old in memory turns.
-/
import Derived.Test.YtjkandboanecgaaW2
namespace Go.Proofs.Ytjkandboanecgaa
open Go.RowKit Go.Joins
set_option maxHeartbeats 400000 in
theorem exactArea (x1 y1 a1 b1 : Int) (w : World) :
    Calls Try.prog 8 #[.agg #[.int .i64 x1, .int .i64 y1, .int .i64 a1, .int .i64 b1]] w fun e w' => e = .returned (.bool true) ∧ Below w.heap.size w w' := by
  go_enter Try.func8, Try.ntmps8
  go_wp2_with (first | (go_at_call 31; refine (toRect_any _ _ _ _ _).mono ?_; rintro e w1 ⟨rfl, hb2⟩; (first | replace hb := bstep hb hb2 (Nat.le_refl _) | have hb := hb2); (try clear hc hf); obtain ⟨hc, hf⟩ := bcell hb) | (go_at_call 26; refine (sArea_any _ _ _ _ _).mono ?_; rintro e w1 ⟨rfl, hb2⟩; replace hb := bstep hb hb2 (Nat.le_refl _); (try clear hc hf); obtain ⟨hc, hf⟩ := bcell hb) | (go_at_call 25; refine (iArea_any _ _ _ _ _).mono ?_; rintro e w1 ⟨rfl, hb2⟩; replace hb := bstep hb hb2 (Nat.le_refl _); (try clear hc hf); obtain ⟨hc, hf⟩ := bcell hb))
  go_ret
  exact ⟨rfl, ba1 hb⟩
end Go.Proofs.Ytjkandboanecgaa
