/-
  The laws of RectOf, CellAt and Up, walked: the program's answer is the spec's for whatever numbers.
-/
import Derived.Test.YtdabkhlhejjnpaaC3
import Derived.Test.YtdabkhlhejjnpaaS0
namespace Go.Proofs.Ytdabkhlhejjnpaa
open Go.RowKit Go.Joins

set_option maxHeartbeats 1000000 in
theorem exactRectOf (l x y : Int) (w : World) :
    Calls Try.prog 6 #[.agg #[.int .i64 l, .int .i64 x, .int .i64 y]] w fun e w' => e = .returned (.bool true) ∧ Below w.heap.size w w' := by
  have hs := St.nil w
  go_enter Try.func6, Try.ntmps6
  go_wp2_with (first
    | (go_at_call 36; refine (toCell_any _ _ _ _).mono ?_; rintro e w1 ⟨rfl, hb2⟩; (first | replace hs := hs.step hb2 | replace hs := (hs.push _ _).step hb2 | replace hs := ((hs.push _ _).push _ _).step hb2); (try clear hk); have hk := hs.has; simp only [Has, HasAt, and_true] at hk)
    | (go_at_call 27; refine (sRectOf_any _ _ _ _).mono ?_; rintro e w1 ⟨rfl, hb2⟩; (first | replace hs := hs.step hb2 | replace hs := (hs.push _ _).step hb2 | replace hs := ((hs.push _ _).push _ _).step hb2); (try clear hk); have hk := hs.has; simp only [Has, HasAt, and_true] at hk)
    | (go_at_call 26; refine (iRectOf_any _ _ _ _).mono ?_; rintro e w1 ⟨rfl, hb2⟩; (first | replace hs := hs.step hb2 | replace hs := (hs.push _ _).step hb2 | replace hs := ((hs.push _ _).push _ _).step hb2); (try clear hk); have hk := hs.has; simp only [Has, HasAt, and_true] at hk)
    | (go_at_call 37; refine (eqRect_same _ _ _ _ _).mono ?_; rintro e w1 ⟨rfl, hb2⟩; (first | replace hs := hs.step hb2 | replace hs := (hs.push _ _).step hb2 | replace hs := ((hs.push _ _).push _ _).step hb2); (try clear hk); have hk := hs.has; simp only [Has, HasAt, and_true] at hk))
  go_ret
  exact ⟨rfl, hs.bel⟩

set_option maxHeartbeats 1000000 in
theorem exactCellAt (s t l : Int) (w : World) :
    Calls Try.prog 7 #[.agg #[.int .i64 s, .int .i64 t], .int .i64 l] w fun e w' => e = .returned (.bool true) ∧ Below w.heap.size w w' := by
  have hs := St.nil w
  go_enter Try.func7, Try.ntmps7
  go_wp2_with (first
    | (go_at_call 38; refine (toSpot_any _ _ _).mono ?_; rintro e w1 ⟨rfl, hb2⟩; (first | replace hs := hs.step hb2 | replace hs := (hs.push _ _).step hb2 | replace hs := ((hs.push _ _).push _ _).step hb2); (try clear hk); have hk := hs.has; simp only [Has, HasAt, and_true] at hk)
    | (go_at_call 24; refine (sCellAt_any _ _ _ _).mono ?_; rintro e w1 ⟨rfl, hb2⟩; (first | replace hs := hs.step hb2 | replace hs := (hs.push _ _).step hb2 | replace hs := ((hs.push _ _).push _ _).step hb2); (try clear hk); have hk := hs.has; simp only [Has, HasAt, and_true] at hk)
    | (go_at_call 17; refine (iCellAt_any _ _ _ _).mono ?_; rintro e w1 ⟨rfl, hb2⟩; (first | replace hs := hs.step hb2 | replace hs := (hs.push _ _).step hb2 | replace hs := ((hs.push _ _).push _ _).step hb2); (try clear hk); have hk := hs.has; simp only [Has, HasAt, and_true] at hk)
    | (go_at_call 39; refine (eqCell_same _ _ _ _).mono ?_; rintro e w1 ⟨rfl, hb2⟩; (first | replace hs := hs.step hb2 | replace hs := (hs.push _ _).step hb2 | replace hs := ((hs.push _ _).push _ _).step hb2); (try clear hk); have hk := hs.has; simp only [Has, HasAt, and_true] at hk))
  go_ret
  exact ⟨rfl, hs.bel⟩

set_option maxHeartbeats 1000000 in
theorem exactUp (l x y : Int) (w : World) :
    Calls Try.prog 8 #[.agg #[.int .i64 l, .int .i64 x, .int .i64 y]] w fun e w' => e = .returned (.bool true) ∧ Below w.heap.size w w' := by
  have hs := St.nil w
  go_enter Try.func8, Try.ntmps8
  go_wp2_with (first
    | (go_at_call 36; refine (toCell_any _ _ _ _).mono ?_; rintro e w1 ⟨rfl, hb2⟩; (first | replace hs := hs.step hb2 | replace hs := (hs.push _ _).step hb2 | replace hs := ((hs.push _ _).push _ _).step hb2); (try clear hk); have hk := hs.has; simp only [Has, HasAt, and_true] at hk)
    | (go_at_call 23; refine (sUp_any _ _ _ _).mono ?_; rintro e w1 ⟨rfl, hb2⟩; (first | replace hs := hs.step hb2 | replace hs := (hs.push _ _).step hb2 | replace hs := ((hs.push _ _).push _ _).step hb2); (try clear hk); have hk := hs.has; simp only [Has, HasAt, and_true] at hk)
    | (go_at_call 22; refine (iUp_any _ _ _ _).mono ?_; rintro e w1 ⟨rfl, hb2⟩; (first | replace hs := hs.step hb2 | replace hs := (hs.push _ _).step hb2 | replace hs := ((hs.push _ _).push _ _).step hb2); (try clear hk); have hk := hs.has; simp only [Has, HasAt, and_true] at hk)
    | (go_at_call 39; refine (eqCell_same _ _ _ _).mono ?_; rintro e w1 ⟨rfl, hb2⟩; (first | replace hs := hs.step hb2 | replace hs := (hs.push _ _).step hb2 | replace hs := ((hs.push _ _).push _ _).step hb2); (try clear hk); have hk := hs.has; simp only [Has, HasAt, and_true] at hk))
  go_ret
  exact ⟨rfl, hs.bel⟩

end Go.Proofs.Ytdabkhlhejjnpaa
