/-
  The law of RectOk, walked: the program's answer is the spec's for whatever four numbers.
-/
import Derived.Test.YtjkandboanecgaaW1
namespace Go.Proofs.Ytjkandboanecgaa
open Go.RowKit Go.Joins
set_option maxHeartbeats 400000 in
theorem exactRectOk (x y a b : Int) (w : World) :
    Calls Try.prog 4 #[.agg #[.int .i64 x, .int .i64 y, .int .i64 a, .int .i64 b]] w fun e w' => e = .returned (.bool true) ∧ Below w.heap.size w w' := by
  go_enter Try.func4, Try.ntmps4
  go_wp2_with (first | (go_at_call 31; refine (toRect_any _ _ _ _ _).mono ?_; rintro e w1 ⟨rfl, hb2⟩; (first | replace hb := bstep hb hb2 (Nat.le_refl _) | have hb := hb2); obtain ⟨hc, hf⟩ := bcell hb) | (go_at_call 28; refine (sOk_any _ _ _ _ _).mono ?_; rintro e w1 ⟨rfl, hb2⟩; replace hb := bstep hb hb2 (Nat.le_refl _); obtain ⟨hc, hf⟩ := bcell hb) | (go_at_call 27; refine (iOk_any _ _ _ _ _).mono ?_; rintro e w1 ⟨rfl, hb2⟩; replace hb := bstep hb hb2 (Nat.le_refl _)))
  go_ret
  exact ⟨rfl, ba1 hb⟩

end Go.Proofs.Ytjkandboanecgaa
