/-
  Contracts of the program's two variadic helpers: every (over two method values) and ends (over one number and one or three more).
-/
import Derived.Test.YtipfcmfcdfofmaaGreatW2
import Derived.Laws.EntriesVeiled
namespace Go.Proofs.YtipfcmfcdfofmaaGreat
open Go.RowKit Go.Joins

set_option maxHeartbeats 1000000 in
theorem every_rr (x1 y1 a1 b1 x2 y2 a2 b2 : Int) (g : Nat) (w : World) (hg : g < w.heap.size)
    (h0 : w.cell? ⟨g, 0, none⟩ = some (.func (Fn.func 45) #[.agg #[.int .i64 x1, .int .i64 y1, .int .i64 a1, .int .i64 b1]] #[])) (h1 : w.cell? ⟨g, 1, none⟩ = some (.func (Fn.func 45) #[.agg #[.int .i64 x2, .int .i64 y2, .int .i64 a2, .int .i64 b2]] #[])) :
    Calls Tryz.prog 43 #[.slice (some ⟨g, 0, none⟩) 2 2] w fun e w' => e = .returned (.bool (okB x1 y1 a1 b1 && okB x2 y2 a2 b2)) ∧ Below w.heap.size w w' := by
  cases k1 : okB x1 y1 a1 b1
  · go_enter Tryz.func43, Tryz.ntmps43
    go_wp2
    refine wp_loop_rounds 3 ?_
    rw [rounds_succ]
    go_wp2_with ((go_at_call 45; refine (rcRight_any x1 y1 a1 b1 _).mono ?_; rintro e w1 ⟨rfl, hb2⟩; (first | replace hb := bstep hb hb2 (Nat.le_refl _) | replace hb := bstepA hb hb2 (Nat.le_refl _) | have hb := hb2); (try clear hc hf); obtain ⟨hc, hf⟩ := bcell hb))
    go_ret
    exact ⟨rfl, hb⟩
  cases k2 : okB x2 y2 a2 b2
  · go_enter Tryz.func43, Tryz.ntmps43
    go_wp2
    refine wp_loop_rounds 3 ?_
    rw [rounds_succ]
    go_wp2_with ((go_at_call 45; refine (rcRight_any x1 y1 a1 b1 _).mono ?_; rintro e w1 ⟨rfl, hb2⟩; (first | replace hb := bstep hb hb2 (Nat.le_refl _) | replace hb := bstepA hb hb2 (Nat.le_refl _) | have hb := hb2); (try clear hc hf); obtain ⟨hc, hf⟩ := bcell hb))
    rw [rounds_succ]
    go_wp2_with ((go_at_call 45; refine (rcRight_any x2 y2 a2 b2 _).mono ?_; rintro e w1 ⟨rfl, hb2⟩; (first | replace hb := bstep hb hb2 (Nat.le_refl _) | replace hb := bstepA hb hb2 (Nat.le_refl _) | have hb := hb2); (try clear hc hf); obtain ⟨hc, hf⟩ := bcell hb))
    go_ret
    exact ⟨rfl, hb⟩
  · go_enter Tryz.func43, Tryz.ntmps43
    go_wp2
    refine wp_loop_rounds 3 ?_
    rw [rounds_succ]
    go_wp2_with ((go_at_call 45; refine (rcRight_any x1 y1 a1 b1 _).mono ?_; rintro e w1 ⟨rfl, hb2⟩; (first | replace hb := bstep hb hb2 (Nat.le_refl _) | replace hb := bstepA hb hb2 (Nat.le_refl _) | have hb := hb2); (try clear hc hf); obtain ⟨hc, hf⟩ := bcell hb))
    rw [rounds_succ]
    go_wp2_with ((go_at_call 45; refine (rcRight_any x2 y2 a2 b2 _).mono ?_; rintro e w1 ⟨rfl, hb2⟩; (first | replace hb := bstep hb hb2 (Nat.le_refl _) | replace hb := bstepA hb hb2 (Nat.le_refl _) | have hb := hb2); (try clear hc hf); obtain ⟨hc, hf⟩ := bcell hb))
    rw [rounds_succ]
    go_wp2
    go_ret
    exact ⟨rfl, hb⟩

set_option maxHeartbeats 1000000 in
theorem every_rs (x1 y1 a1 b1 x2 y2 : Int) (g : Nat) (w : World) (hg : g < w.heap.size)
    (h0 : w.cell? ⟨g, 0, none⟩ = some (.func (Fn.func 45) #[.agg #[.int .i64 x1, .int .i64 y1, .int .i64 a1, .int .i64 b1]] #[])) (h1 : w.cell? ⟨g, 1, none⟩ = some (.func (Fn.func 54) #[.agg #[.int .i64 x2, .int .i64 y2]] #[])) :
    Calls Tryz.prog 43 #[.slice (some ⟨g, 0, none⟩) 2 2] w fun e w' => e = .returned (.bool (okB x1 y1 a1 b1 && spB x2 y2)) ∧ Below w.heap.size w w' := by
  cases k1 : okB x1 y1 a1 b1
  · go_enter Tryz.func43, Tryz.ntmps43
    go_wp2
    refine wp_loop_rounds 3 ?_
    rw [rounds_succ]
    go_wp2_with ((go_at_call 45; refine (rcRight_any x1 y1 a1 b1 _).mono ?_; rintro e w1 ⟨rfl, hb2⟩; (first | replace hb := bstep hb hb2 (Nat.le_refl _) | replace hb := bstepA hb hb2 (Nat.le_refl _) | have hb := hb2); (try clear hc hf); obtain ⟨hc, hf⟩ := bcell hb))
    go_ret
    exact ⟨rfl, hb⟩
  cases k2 : spB x2 y2
  · go_enter Tryz.func43, Tryz.ntmps43
    go_wp2
    refine wp_loop_rounds 3 ?_
    rw [rounds_succ]
    go_wp2_with ((go_at_call 45; refine (rcRight_any x1 y1 a1 b1 _).mono ?_; rintro e w1 ⟨rfl, hb2⟩; (first | replace hb := bstep hb hb2 (Nat.le_refl _) | replace hb := bstepA hb hb2 (Nat.le_refl _) | have hb := hb2); (try clear hc hf); obtain ⟨hc, hf⟩ := bcell hb))
    rw [rounds_succ]
    go_wp2_with ((go_at_call 54; refine (spRight_any x2 y2 _).mono ?_; rintro e w1 ⟨rfl, hb2⟩; (first | replace hb := bstep hb hb2 (Nat.le_refl _) | replace hb := bstepA hb hb2 (Nat.le_refl _) | have hb := hb2); (try clear hc hf); obtain ⟨hc, hf⟩ := bcell hb))
    go_ret
    exact ⟨rfl, hb⟩
  · go_enter Tryz.func43, Tryz.ntmps43
    go_wp2
    refine wp_loop_rounds 3 ?_
    rw [rounds_succ]
    go_wp2_with ((go_at_call 45; refine (rcRight_any x1 y1 a1 b1 _).mono ?_; rintro e w1 ⟨rfl, hb2⟩; (first | replace hb := bstep hb hb2 (Nat.le_refl _) | replace hb := bstepA hb hb2 (Nat.le_refl _) | have hb := hb2); (try clear hc hf); obtain ⟨hc, hf⟩ := bcell hb))
    rw [rounds_succ]
    go_wp2_with ((go_at_call 54; refine (spRight_any x2 y2 _).mono ?_; rintro e w1 ⟨rfl, hb2⟩; (first | replace hb := bstep hb hb2 (Nat.le_refl _) | replace hb := bstepA hb hb2 (Nat.le_refl _) | have hb := hb2); (try clear hc hf); obtain ⟨hc, hf⟩ := bcell hb))
    rw [rounds_succ]
    go_wp2
    go_ret
    exact ⟨rfl, hb⟩

set_option maxHeartbeats 1000000 in
theorem every_ss (x1 y1 x2 y2 : Int) (g : Nat) (w : World) (hg : g < w.heap.size)
    (h0 : w.cell? ⟨g, 0, none⟩ = some (.func (Fn.func 54) #[.agg #[.int .i64 x1, .int .i64 y1]] #[])) (h1 : w.cell? ⟨g, 1, none⟩ = some (.func (Fn.func 54) #[.agg #[.int .i64 x2, .int .i64 y2]] #[])) :
    Calls Tryz.prog 43 #[.slice (some ⟨g, 0, none⟩) 2 2] w fun e w' => e = .returned (.bool (spB x1 y1 && spB x2 y2)) ∧ Below w.heap.size w w' := by
  cases k1 : spB x1 y1
  · go_enter Tryz.func43, Tryz.ntmps43
    go_wp2
    refine wp_loop_rounds 3 ?_
    rw [rounds_succ]
    go_wp2_with ((go_at_call 54; refine (spRight_any x1 y1 _).mono ?_; rintro e w1 ⟨rfl, hb2⟩; (first | replace hb := bstep hb hb2 (Nat.le_refl _) | replace hb := bstepA hb hb2 (Nat.le_refl _) | have hb := hb2); (try clear hc hf); obtain ⟨hc, hf⟩ := bcell hb))
    go_ret
    exact ⟨rfl, hb⟩
  cases k2 : spB x2 y2
  · go_enter Tryz.func43, Tryz.ntmps43
    go_wp2
    refine wp_loop_rounds 3 ?_
    rw [rounds_succ]
    go_wp2_with ((go_at_call 54; refine (spRight_any x1 y1 _).mono ?_; rintro e w1 ⟨rfl, hb2⟩; (first | replace hb := bstep hb hb2 (Nat.le_refl _) | replace hb := bstepA hb hb2 (Nat.le_refl _) | have hb := hb2); (try clear hc hf); obtain ⟨hc, hf⟩ := bcell hb))
    rw [rounds_succ]
    go_wp2_with ((go_at_call 54; refine (spRight_any x2 y2 _).mono ?_; rintro e w1 ⟨rfl, hb2⟩; (first | replace hb := bstep hb hb2 (Nat.le_refl _) | replace hb := bstepA hb hb2 (Nat.le_refl _) | have hb := hb2); (try clear hc hf); obtain ⟨hc, hf⟩ := bcell hb))
    go_ret
    exact ⟨rfl, hb⟩
  · go_enter Tryz.func43, Tryz.ntmps43
    go_wp2
    refine wp_loop_rounds 3 ?_
    rw [rounds_succ]
    go_wp2_with ((go_at_call 54; refine (spRight_any x1 y1 _).mono ?_; rintro e w1 ⟨rfl, hb2⟩; (first | replace hb := bstep hb hb2 (Nat.le_refl _) | replace hb := bstepA hb hb2 (Nat.le_refl _) | have hb := hb2); (try clear hc hf); obtain ⟨hc, hf⟩ := bcell hb))
    rw [rounds_succ]
    go_wp2_with ((go_at_call 54; refine (spRight_any x2 y2 _).mono ?_; rintro e w1 ⟨rfl, hb2⟩; (first | replace hb := bstep hb hb2 (Nat.le_refl _) | replace hb := bstepA hb hb2 (Nat.le_refl _) | have hb := hb2); (try clear hc hf); obtain ⟨hc, hf⟩ := bcell hb))
    rw [rounds_succ]
    go_wp2
    go_ret
    exact ⟨rfl, hb⟩

theorem ret_two {a b c d : Int} (h : a = c) (k : b = d) : Ending.returned (.tuple #[.int .i64 a, .int .i64 b]) = .returned (.tuple #[.int .i64 c, .int .i64 d]) := by rw [h, k]
set_option maxHeartbeats 1000000 in
theorem ends1 (p q : Int) (g : Nat) (w : World) (h0 : w.cell? ⟨g, 0, none⟩ = some (.int .i64 q)) :
    Calls Tryz.prog 56 #[.int .i64 p, .slice (some ⟨g, 0, none⟩) 1 1] w fun e w' => e = .returned (.tuple #[.int .i64 (min p q), .int .i64 (max p q)]) ∧ w = w' := by
  go_enter Tryz.func56, Tryz.ntmps56
  go_wp2
  refine wp_loop_rounds 2 ?_
  rw [rounds_succ]
  go_wp2
  all_goals (rw [rounds_succ]; go_wp2)
  all_goals (go_ret2; exact ⟨ret_two (by omega) (by omega), rfl⟩)

set_option maxHeartbeats 4000000 in
theorem ends3 (p q r s : Int) (g : Nat) (w : World) (h0 : w.cell? ⟨g, 0, none⟩ = some (.int .i64 q)) (h1 : w.cell? ⟨g, 1, none⟩ = some (.int .i64 r)) (h2 : w.cell? ⟨g, 2, none⟩ = some (.int .i64 s)) (hp : p ≤ q) (hr : r ≤ s) :
    Calls Tryz.prog 56 #[.int .i64 p, .slice (some ⟨g, 0, none⟩) 3 3] w fun e w' => e = .returned (.tuple #[.int .i64 (min p r), .int .i64 (max q s)]) ∧ w = w' := by
  go_enter Tryz.func56, Tryz.ntmps56
  go_wp2
  refine wp_loop_rounds 4 ?_
  rw [rounds_succ]
  go_wp2
  all_goals (rw [rounds_succ]; go_wp2)
  all_goals (rw [rounds_succ]; go_wp2)
  all_goals (rw [rounds_succ]; go_wp2)
  all_goals (go_ret2; exact ⟨ret_two (by omega) (by omega), rfl⟩)
end Go.Proofs.YtipfcmfcdfofmaaGreat
