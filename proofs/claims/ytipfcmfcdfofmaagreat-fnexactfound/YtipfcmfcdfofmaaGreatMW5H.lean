/-
  The contract of the program's Holds: what it answers for whatever numbers; nothing old in memory turns.
-/
import Derived.Test.YtipfcmfcdfofmaaGreatMW5
namespace Go.Proofs.YtipfcmfcdfofmaaGreat.M
open Go.RowKit Go.Joins
attribute [local go_sem ↓] Go.wp_at_zero Go.wp_at_succ

set_option maxHeartbeats 1000000 in
theorem iHolds_any (x1 y1 a1 b1 s2 t2 : Int) (w : World) :
    Calls Tryz.prog 21 #[.agg #[.int .i64 x1, .int .i64 y1, .int .i64 a1, .int .i64 b1], .agg #[.int .i64 s2, .int .i64 t2]] w fun e w' => e = .returned (.bool (holdsB x1 y1 a1 b1 s2 t2)) ∧ Below w.heap.size w w' := by
  have hS : ∀ w', Below ((w.alloc (.cells #[.int .i64 x1, .int .i64 y1, .int .i64 a1, .int .i64 b1] 31)).alloc (.cells #[.int .i64 s2, .int .i64 t2] 43)).heap.size ((w.alloc (.cells #[.int .i64 x1, .int .i64 y1, .int .i64 a1, .int .i64 b1] 31)).alloc (.cells #[.int .i64 s2, .int .i64 t2] 43)) w' → (w'.cell? ⟨w.heap.size, 0, none⟩ = some (.int .i64 x1) ∧ w'.cell? ⟨w.heap.size, 1, none⟩ = some (.int .i64 y1) ∧ w'.cell? ⟨w.heap.size, 2, none⟩ = some (.int .i64 a1) ∧ w'.cell? ⟨w.heap.size, 3, none⟩ = some (.int .i64 b1) ∧ w'.cell? ⟨w.heap.size + 1, 0, none⟩ = some (.int .i64 s2) ∧ w'.cell? ⟨w.heap.size + 1, 1, none⟩ = some (.int .i64 t2)) := by
    intro w' h
    obtain ⟨hcl, _⟩ := bcell h
    refine ⟨?_, ?_, ?_, ?_, ?_, ?_⟩ <;> (rw [hcl _ _ (by simp <;> omega)]; simp [go_sem])
  cases hv : (okB x1 y1 a1 b1 && spB s2 t2)
  · go_enter Tryz.func21, Tryz.ntmps21
    go_wp2
    go_region_with ((go_at_call 43; refine (every_rs_v x1 y1 a1 b1 s2 t2 _ _ _ hv ?_ ?_ ?_).mono ?_; (focus (simp; done)); (focus (simp [go_sem]; done)); (focus (simp [go_sem]; done)); rintro e w1 ⟨rfl, hb2⟩))
    all_goals (go_wp2; go_ret; exact ⟨ret_bool (by simp [holdsB, hv]), ba2 (bstepA (Below.refl _ _).drew hb2 (Nat.le_refl _))⟩)
  · obtain ⟨g1, g2⟩ := (Bool.and_eq_true _ _).mp hv
    have k := okB_t.mp g1
    have hn : (near x1 a1 s2 == s2 && near y1 b1 t2 == t2) = inR x1 y1 a1 b1 s2 t2 := by
      unfold inR; rw [Bool.eq_iff_iff]; simp only [Bool.and_eq_true, beq_iff_eq, decide_eq_true_iff, near_in (x := x1) (s := s2) (show 1 ≤ a1 by omega), near_in (x := y1) (s := t2) (show 1 ≤ b1 by omega)]; omega
    have HN : Hid (inR x1 y1 a1 b1 s2 t2 = (near x1 a1 s2 == s2 && near y1 b1 t2 == t2)) := hn.symm
    clear hn k
    cases hq1 : (near x1 a1 s2 == s2) <;> cases hq2 : (near y1 b1 t2 == t2)
    all_goals
      go_enter Tryz.func21, Tryz.ntmps21
      go_wp2
      go_region_held3 (fun w' => Below ((w.alloc (.cells #[.int .i64 x1, .int .i64 y1, .int .i64 a1, .int .i64 b1] 31)).alloc (.cells #[.int .i64 s2, .int .i64 t2] 43)).heap.size ((w.alloc (.cells #[.int .i64 x1, .int .i64 y1, .int .i64 a1, .int .i64 b1] 31)).alloc (.cells #[.int .i64 s2, .int .i64 t2] 43)) w' ∧ w'.cell? ⟨w.heap.size, 0, none⟩ = some (.int .i64 x1) ∧ w'.cell? ⟨w.heap.size, 1, none⟩ = some (.int .i64 y1) ∧ w'.cell? ⟨w.heap.size, 2, none⟩ = some (.int .i64 a1) ∧ w'.cell? ⟨w.heap.size, 3, none⟩ = some (.int .i64 b1) ∧ w'.cell? ⟨w.heap.size + 1, 0, none⟩ = some (.int .i64 s2) ∧ w'.cell? ⟨w.heap.size + 1, 1, none⟩ = some (.int .i64 t2)) (first | exact ‹Below _ _ _ ∧ _› | exact keepS hS (bstep (‹Below _ _ _ ∧ _›).1 hb2 (Nat.le_refl _)) | exact keepS hS ((‹Below _ _ _ ∧ _›).1.alloc (‹Below _ _ _ ∧ _›).1.size _) | exact keepS hS hb.drew | exact keepS hS (Below.refl _ _).drew | fail)
        (first | (go_at_call 43; refine (every_rs_v x1 y1 a1 b1 s2 t2 _ _ _ hv ?_ ?_ ?_).mono ?_; (focus (simp; done)); (focus (simp [go_sem]; done)); (focus (simp [go_sem]; done)); rintro e w1 ⟨rfl, hb2⟩) | (go_at_call 55; refine (nearest_any _ _ _ _ _ _ _ g1).mono ?_; rintro e w1 ⟨rfl, hb2⟩))
      all_goals (obtain ⟨hb, _⟩ := ‹Below _ _ _ ∧ _›; go_wp2; go_ret; exact ⟨ret_bool (by rw [holdsB, hv, HN.out, hq1, hq2]; rfl), ba2 hb⟩)
end Go.Proofs.YtipfcmfcdfofmaaGreat.M
