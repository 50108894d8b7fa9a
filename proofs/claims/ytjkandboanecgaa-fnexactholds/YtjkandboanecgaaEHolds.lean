/-
  The law of Holds, walked: the program's answer is the spec's, for whatever numbers; nothing old in memory turns.
-/
import Derived.Test.YtjkandboanecgaaW5H
namespace Go.Proofs.Ytjkandboanecgaa
open Go.RowKit Go.Joins
attribute [local go_sem ↓] Go.wp_at_zero Go.wp_at_succ

set_option maxHeartbeats 4000000 in
theorem exactHolds (x1 y1 a1 b1 s2 t2 : Int) (w : World) :
    Calls Try.prog 5 #[.agg #[.int .i64 x1, .int .i64 y1, .int .i64 a1, .int .i64 b1], .agg #[.int .i64 s2, .int .i64 t2]] w fun e w' => e = .returned (.bool true) ∧ Below w.heap.size w w' := by
  have hS : ∀ w', Below ((w.alloc (.cells #[.int .i64 x1, .int .i64 y1, .int .i64 a1, .int .i64 b1] 44)).alloc (.cells #[.int .i64 s2, .int .i64 t2] 47)).heap.size ((w.alloc (.cells #[.int .i64 x1, .int .i64 y1, .int .i64 a1, .int .i64 b1] 44)).alloc (.cells #[.int .i64 s2, .int .i64 t2] 47)) w' → (w'.cell? ⟨w.heap.size, 0, none⟩ = some (.int .i64 x1) ∧ w'.cell? ⟨w.heap.size, 1, none⟩ = some (.int .i64 y1) ∧ w'.cell? ⟨w.heap.size, 2, none⟩ = some (.int .i64 a1) ∧ w'.cell? ⟨w.heap.size, 3, none⟩ = some (.int .i64 b1) ∧ w'.cell? ⟨w.heap.size + 1, 0, none⟩ = some (.int .i64 s2) ∧ w'.cell? ⟨w.heap.size + 1, 1, none⟩ = some (.int .i64 t2)) := by
    intro w' h
    obtain ⟨hcl, _⟩ := bcell h
    refine ⟨?_, ?_, ?_, ?_, ?_, ?_⟩ <;> (rw [hcl _ _ (by simp <;> omega)]; simp [go_sem])
  go_enter Try.func5, Try.ntmps5
  go_wp2
  go_region_held3 (fun w' => Below ((w.alloc (.cells #[.int .i64 x1, .int .i64 y1, .int .i64 a1, .int .i64 b1] 44)).alloc (.cells #[.int .i64 s2, .int .i64 t2] 47)).heap.size ((w.alloc (.cells #[.int .i64 x1, .int .i64 y1, .int .i64 a1, .int .i64 b1] 44)).alloc (.cells #[.int .i64 s2, .int .i64 t2] 47)) w' ∧ w'.cell? ⟨w.heap.size, 0, none⟩ = some (.int .i64 x1) ∧ w'.cell? ⟨w.heap.size, 1, none⟩ = some (.int .i64 y1) ∧ w'.cell? ⟨w.heap.size, 2, none⟩ = some (.int .i64 a1) ∧ w'.cell? ⟨w.heap.size, 3, none⟩ = some (.int .i64 b1) ∧ w'.cell? ⟨w.heap.size + 1, 0, none⟩ = some (.int .i64 s2) ∧ w'.cell? ⟨w.heap.size + 1, 1, none⟩ = some (.int .i64 t2)) (first | exact ‹Below _ _ _ ∧ _› | exact keepS hS (bstep (‹Below _ _ _ ∧ _›).1 hb2 (Nat.le_refl _)) | exact keepS hS ((‹Below _ _ _ ∧ _›).1.alloc (‹Below _ _ _ ∧ _›).1.size _) | exact keepS hS hb.drew | exact keepS hS (Below.refl _ _).drew | fail)
    (first | (go_at_call 31; refine (toRect_any _ _ _ _ _).mono ?_; rintro e w1 ⟨rfl, hb2⟩) | (go_at_call 32; refine (toSpot_any _ _ _).mono ?_; rintro e w1 ⟨rfl, hb2⟩) | (go_at_call 24; refine (sHolds_any _ _ _ _ _ _ _).mono ?_; rintro e w1 ⟨rfl, hb2⟩))
  obtain ⟨hb, _⟩ := ‹Below _ _ _ ∧ _›
  go_wp2
  go_region_held3 (fun w' => Below ((w.alloc (.cells #[.int .i64 x1, .int .i64 y1, .int .i64 a1, .int .i64 b1] 44)).alloc (.cells #[.int .i64 s2, .int .i64 t2] 47)).heap.size ((w.alloc (.cells #[.int .i64 x1, .int .i64 y1, .int .i64 a1, .int .i64 b1] 44)).alloc (.cells #[.int .i64 s2, .int .i64 t2] 47)) w' ∧ w'.cell? ⟨w.heap.size, 0, none⟩ = some (.int .i64 x1) ∧ w'.cell? ⟨w.heap.size, 1, none⟩ = some (.int .i64 y1) ∧ w'.cell? ⟨w.heap.size, 2, none⟩ = some (.int .i64 a1) ∧ w'.cell? ⟨w.heap.size, 3, none⟩ = some (.int .i64 b1) ∧ w'.cell? ⟨w.heap.size + 1, 0, none⟩ = some (.int .i64 s2) ∧ w'.cell? ⟨w.heap.size + 1, 1, none⟩ = some (.int .i64 t2)) (first | exact ‹Below _ _ _ ∧ _› | exact keepS hS (bstep (‹Below _ _ _ ∧ _›).1 hb2 (Nat.le_refl _)) | exact keepS hS ((‹Below _ _ _ ∧ _›).1.alloc (‹Below _ _ _ ∧ _›).1.size _) | exact keepS hS hb.drew | exact keepS hS (Below.refl _ _).drew | fail)
    (first | (go_at_call 31; refine (toRect_any _ _ _ _ _).mono ?_; rintro e w1 ⟨rfl, hb2⟩) | (go_at_call 32; refine (toSpot_any _ _ _).mono ?_; rintro e w1 ⟨rfl, hb2⟩) | (go_at_call 23; refine (iHolds_any _ _ _ _ _ _ _).mono ?_; rintro e w1 ⟨rfl, hb2⟩))
  obtain ⟨hb, _⟩ := ‹Below _ _ _ ∧ _›
  go_wp2
  go_ret
  exact ⟨rfl, ba2 hb⟩
end Go.Proofs.Ytjkandboanecgaa
