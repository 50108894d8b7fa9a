/-
  Contracts of the law's looks at lists of four Cells: alike, marked, still marked.
-/
import Derived.Test.YtdabkhlhejjnpaaQ3
import Derived.Test.YtdabkhlhejjnpaaX2
namespace Go.Proofs.Ytdabkhlhejjnpaa
open Go.RowKit Go.Joins

set_option maxHeartbeats 2000000 in
theorem eqS4 (a0 a1 a2 a3 a4 a5 a6 a7 a8 a9 a10 a11 : Int) (g1 c1 g2 c2 : Nat) (w : World) (hl1 : g1 < w.heap.size) (hl2 : g2 < w.heap.size) (hA : HasAt w g1 0 [.int .i64 a0, .int .i64 a1, .int .i64 a2, .int .i64 a3, .int .i64 a4, .int .i64 a5, .int .i64 a6, .int .i64 a7, .int .i64 a8, .int .i64 a9, .int .i64 a10, .int .i64 a11]) (hB : HasAt w g2 0 [.int .i64 a0, .int .i64 a1, .int .i64 a2, .int .i64 a3, .int .i64 a4, .int .i64 a5, .int .i64 a6, .int .i64 a7, .int .i64 a8, .int .i64 a9, .int .i64 a10, .int .i64 a11]) :
    Calls Try.prog 40 #[.slice (some ⟨g1, 0, none⟩) 4 c1, .slice (some ⟨g2, 0, none⟩) 4 c2] w fun e w' => e = .returned (.bool true) ∧ Below w.heap.size w w' := by
  simp [HasAt] at hA hB
  have hS : ∀ w', Below w.heap.size w w' → (w'.cell? ⟨g1, 0, none⟩ = some (.int .i64 a0) ∧ w'.cell? ⟨g1, 1, none⟩ = some (.int .i64 a1) ∧ w'.cell? ⟨g1, 2, none⟩ = some (.int .i64 a2) ∧ w'.cell? ⟨g1, 3, none⟩ = some (.int .i64 a3) ∧ w'.cell? ⟨g1, 4, none⟩ = some (.int .i64 a4) ∧ w'.cell? ⟨g1, 5, none⟩ = some (.int .i64 a5) ∧ w'.cell? ⟨g1, 6, none⟩ = some (.int .i64 a6) ∧ w'.cell? ⟨g1, 7, none⟩ = some (.int .i64 a7) ∧ w'.cell? ⟨g1, 8, none⟩ = some (.int .i64 a8) ∧ w'.cell? ⟨g1, 9, none⟩ = some (.int .i64 a9) ∧ w'.cell? ⟨g1, 10, none⟩ = some (.int .i64 a10) ∧ w'.cell? ⟨g1, 11, none⟩ = some (.int .i64 a11) ∧ w'.cell? ⟨g2, 0, none⟩ = some (.int .i64 a0) ∧ w'.cell? ⟨g2, 1, none⟩ = some (.int .i64 a1) ∧ w'.cell? ⟨g2, 2, none⟩ = some (.int .i64 a2) ∧ w'.cell? ⟨g2, 3, none⟩ = some (.int .i64 a3) ∧ w'.cell? ⟨g2, 4, none⟩ = some (.int .i64 a4) ∧ w'.cell? ⟨g2, 5, none⟩ = some (.int .i64 a5) ∧ w'.cell? ⟨g2, 6, none⟩ = some (.int .i64 a6) ∧ w'.cell? ⟨g2, 7, none⟩ = some (.int .i64 a7) ∧ w'.cell? ⟨g2, 8, none⟩ = some (.int .i64 a8) ∧ w'.cell? ⟨g2, 9, none⟩ = some (.int .i64 a9) ∧ w'.cell? ⟨g2, 10, none⟩ = some (.int .i64 a10) ∧ w'.cell? ⟨g2, 11, none⟩ = some (.int .i64 a11)) := by
    intro w' h
    have e1 : ∀ i, w'.cell? ⟨g1, i, none⟩ = w.cell? ⟨g1, i, none⟩ := fun i => h.cell (p := ⟨g1, i, none⟩) hl1
    have e2 : ∀ i, w'.cell? ⟨g2, i, none⟩ = w.cell? ⟨g2, i, none⟩ := fun i => h.cell (p := ⟨g2, i, none⟩) hl2
    simp only [e1, e2]
    simp only [hA, hB, and_self]
  have hb := Below.refl w.heap.size w
  have hcc := hS _ hb
  go_enter Try.func40, Try.ntmps40
  go_wp2
  refine wp_loop_rounds 5 ?_
  rw [rounds_succ]
  go_wp2
  go_region_held3 (fun w' => Below w.heap.size w w' ∧ w'.cell? ⟨g1, 0, none⟩ = some (.int .i64 a0) ∧ w'.cell? ⟨g1, 1, none⟩ = some (.int .i64 a1) ∧ w'.cell? ⟨g1, 2, none⟩ = some (.int .i64 a2) ∧ w'.cell? ⟨g1, 3, none⟩ = some (.int .i64 a3) ∧ w'.cell? ⟨g1, 4, none⟩ = some (.int .i64 a4) ∧ w'.cell? ⟨g1, 5, none⟩ = some (.int .i64 a5) ∧ w'.cell? ⟨g1, 6, none⟩ = some (.int .i64 a6) ∧ w'.cell? ⟨g1, 7, none⟩ = some (.int .i64 a7) ∧ w'.cell? ⟨g1, 8, none⟩ = some (.int .i64 a8) ∧ w'.cell? ⟨g1, 9, none⟩ = some (.int .i64 a9) ∧ w'.cell? ⟨g1, 10, none⟩ = some (.int .i64 a10) ∧ w'.cell? ⟨g1, 11, none⟩ = some (.int .i64 a11) ∧ w'.cell? ⟨g2, 0, none⟩ = some (.int .i64 a0) ∧ w'.cell? ⟨g2, 1, none⟩ = some (.int .i64 a1) ∧ w'.cell? ⟨g2, 2, none⟩ = some (.int .i64 a2) ∧ w'.cell? ⟨g2, 3, none⟩ = some (.int .i64 a3) ∧ w'.cell? ⟨g2, 4, none⟩ = some (.int .i64 a4) ∧ w'.cell? ⟨g2, 5, none⟩ = some (.int .i64 a5) ∧ w'.cell? ⟨g2, 6, none⟩ = some (.int .i64 a6) ∧ w'.cell? ⟨g2, 7, none⟩ = some (.int .i64 a7) ∧ w'.cell? ⟨g2, 8, none⟩ = some (.int .i64 a8) ∧ w'.cell? ⟨g2, 9, none⟩ = some (.int .i64 a9) ∧ w'.cell? ⟨g2, 10, none⟩ = some (.int .i64 a10) ∧ w'.cell? ⟨g2, 11, none⟩ = some (.int .i64 a11)) (first | exact ‹Below _ _ _ ∧ _› | exact keepS hS (bstep (‹Below _ _ _ ∧ _›).1 hb2 (Nat.le_refl _)) | exact keepS hS hb.drew | fail)
    (first | (go_at_call 39; refine (eqCell_same _ _ _ _).mono ?_; rintro e w1 ⟨rfl, hb2⟩))
  clear hb hcc
  obtain ⟨hb, hcc⟩ := ‹Below _ _ _ ∧ _›
  go_wp2
  rw [rounds_succ]
  go_wp2
  go_region_held3 (fun w' => Below w.heap.size w w' ∧ w'.cell? ⟨g1, 0, none⟩ = some (.int .i64 a0) ∧ w'.cell? ⟨g1, 1, none⟩ = some (.int .i64 a1) ∧ w'.cell? ⟨g1, 2, none⟩ = some (.int .i64 a2) ∧ w'.cell? ⟨g1, 3, none⟩ = some (.int .i64 a3) ∧ w'.cell? ⟨g1, 4, none⟩ = some (.int .i64 a4) ∧ w'.cell? ⟨g1, 5, none⟩ = some (.int .i64 a5) ∧ w'.cell? ⟨g1, 6, none⟩ = some (.int .i64 a6) ∧ w'.cell? ⟨g1, 7, none⟩ = some (.int .i64 a7) ∧ w'.cell? ⟨g1, 8, none⟩ = some (.int .i64 a8) ∧ w'.cell? ⟨g1, 9, none⟩ = some (.int .i64 a9) ∧ w'.cell? ⟨g1, 10, none⟩ = some (.int .i64 a10) ∧ w'.cell? ⟨g1, 11, none⟩ = some (.int .i64 a11) ∧ w'.cell? ⟨g2, 0, none⟩ = some (.int .i64 a0) ∧ w'.cell? ⟨g2, 1, none⟩ = some (.int .i64 a1) ∧ w'.cell? ⟨g2, 2, none⟩ = some (.int .i64 a2) ∧ w'.cell? ⟨g2, 3, none⟩ = some (.int .i64 a3) ∧ w'.cell? ⟨g2, 4, none⟩ = some (.int .i64 a4) ∧ w'.cell? ⟨g2, 5, none⟩ = some (.int .i64 a5) ∧ w'.cell? ⟨g2, 6, none⟩ = some (.int .i64 a6) ∧ w'.cell? ⟨g2, 7, none⟩ = some (.int .i64 a7) ∧ w'.cell? ⟨g2, 8, none⟩ = some (.int .i64 a8) ∧ w'.cell? ⟨g2, 9, none⟩ = some (.int .i64 a9) ∧ w'.cell? ⟨g2, 10, none⟩ = some (.int .i64 a10) ∧ w'.cell? ⟨g2, 11, none⟩ = some (.int .i64 a11)) (first | exact ‹Below _ _ _ ∧ _› | exact keepS hS (bstep (‹Below _ _ _ ∧ _›).1 hb2 (Nat.le_refl _)) | exact keepS hS hb.drew | fail)
    (first | (go_at_call 39; refine (eqCell_same _ _ _ _).mono ?_; rintro e w1 ⟨rfl, hb2⟩))
  clear hb hcc
  obtain ⟨hb, hcc⟩ := ‹Below _ _ _ ∧ _›
  go_wp2
  rw [rounds_succ]
  go_wp2
  go_region_held3 (fun w' => Below w.heap.size w w' ∧ w'.cell? ⟨g1, 0, none⟩ = some (.int .i64 a0) ∧ w'.cell? ⟨g1, 1, none⟩ = some (.int .i64 a1) ∧ w'.cell? ⟨g1, 2, none⟩ = some (.int .i64 a2) ∧ w'.cell? ⟨g1, 3, none⟩ = some (.int .i64 a3) ∧ w'.cell? ⟨g1, 4, none⟩ = some (.int .i64 a4) ∧ w'.cell? ⟨g1, 5, none⟩ = some (.int .i64 a5) ∧ w'.cell? ⟨g1, 6, none⟩ = some (.int .i64 a6) ∧ w'.cell? ⟨g1, 7, none⟩ = some (.int .i64 a7) ∧ w'.cell? ⟨g1, 8, none⟩ = some (.int .i64 a8) ∧ w'.cell? ⟨g1, 9, none⟩ = some (.int .i64 a9) ∧ w'.cell? ⟨g1, 10, none⟩ = some (.int .i64 a10) ∧ w'.cell? ⟨g1, 11, none⟩ = some (.int .i64 a11) ∧ w'.cell? ⟨g2, 0, none⟩ = some (.int .i64 a0) ∧ w'.cell? ⟨g2, 1, none⟩ = some (.int .i64 a1) ∧ w'.cell? ⟨g2, 2, none⟩ = some (.int .i64 a2) ∧ w'.cell? ⟨g2, 3, none⟩ = some (.int .i64 a3) ∧ w'.cell? ⟨g2, 4, none⟩ = some (.int .i64 a4) ∧ w'.cell? ⟨g2, 5, none⟩ = some (.int .i64 a5) ∧ w'.cell? ⟨g2, 6, none⟩ = some (.int .i64 a6) ∧ w'.cell? ⟨g2, 7, none⟩ = some (.int .i64 a7) ∧ w'.cell? ⟨g2, 8, none⟩ = some (.int .i64 a8) ∧ w'.cell? ⟨g2, 9, none⟩ = some (.int .i64 a9) ∧ w'.cell? ⟨g2, 10, none⟩ = some (.int .i64 a10) ∧ w'.cell? ⟨g2, 11, none⟩ = some (.int .i64 a11)) (first | exact ‹Below _ _ _ ∧ _› | exact keepS hS (bstep (‹Below _ _ _ ∧ _›).1 hb2 (Nat.le_refl _)) | exact keepS hS hb.drew | fail)
    (first | (go_at_call 39; refine (eqCell_same _ _ _ _).mono ?_; rintro e w1 ⟨rfl, hb2⟩))
  clear hb hcc
  obtain ⟨hb, hcc⟩ := ‹Below _ _ _ ∧ _›
  go_wp2
  rw [rounds_succ]
  go_wp2
  go_region_held3 (fun w' => Below w.heap.size w w' ∧ w'.cell? ⟨g1, 0, none⟩ = some (.int .i64 a0) ∧ w'.cell? ⟨g1, 1, none⟩ = some (.int .i64 a1) ∧ w'.cell? ⟨g1, 2, none⟩ = some (.int .i64 a2) ∧ w'.cell? ⟨g1, 3, none⟩ = some (.int .i64 a3) ∧ w'.cell? ⟨g1, 4, none⟩ = some (.int .i64 a4) ∧ w'.cell? ⟨g1, 5, none⟩ = some (.int .i64 a5) ∧ w'.cell? ⟨g1, 6, none⟩ = some (.int .i64 a6) ∧ w'.cell? ⟨g1, 7, none⟩ = some (.int .i64 a7) ∧ w'.cell? ⟨g1, 8, none⟩ = some (.int .i64 a8) ∧ w'.cell? ⟨g1, 9, none⟩ = some (.int .i64 a9) ∧ w'.cell? ⟨g1, 10, none⟩ = some (.int .i64 a10) ∧ w'.cell? ⟨g1, 11, none⟩ = some (.int .i64 a11) ∧ w'.cell? ⟨g2, 0, none⟩ = some (.int .i64 a0) ∧ w'.cell? ⟨g2, 1, none⟩ = some (.int .i64 a1) ∧ w'.cell? ⟨g2, 2, none⟩ = some (.int .i64 a2) ∧ w'.cell? ⟨g2, 3, none⟩ = some (.int .i64 a3) ∧ w'.cell? ⟨g2, 4, none⟩ = some (.int .i64 a4) ∧ w'.cell? ⟨g2, 5, none⟩ = some (.int .i64 a5) ∧ w'.cell? ⟨g2, 6, none⟩ = some (.int .i64 a6) ∧ w'.cell? ⟨g2, 7, none⟩ = some (.int .i64 a7) ∧ w'.cell? ⟨g2, 8, none⟩ = some (.int .i64 a8) ∧ w'.cell? ⟨g2, 9, none⟩ = some (.int .i64 a9) ∧ w'.cell? ⟨g2, 10, none⟩ = some (.int .i64 a10) ∧ w'.cell? ⟨g2, 11, none⟩ = some (.int .i64 a11)) (first | exact ‹Below _ _ _ ∧ _› | exact keepS hS (bstep (‹Below _ _ _ ∧ _›).1 hb2 (Nat.le_refl _)) | exact keepS hS hb.drew | fail)
    (first | (go_at_call 39; refine (eqCell_same _ _ _ _).mono ?_; rintro e w1 ⟨rfl, hb2⟩))
  clear hb hcc
  obtain ⟨hb, hcc⟩ := ‹Below _ _ _ ∧ _›
  go_wp2
  rw [rounds_succ]
  go_wp2
  go_ret
  exact ⟨rfl, hb⟩

set_option maxHeartbeats 1000000 in
theorem eqS0 (p q : Option Addr) (c1 c2 : Nat) (w : World) :
    Calls Try.prog 40 #[.slice p 0 c1, .slice q 0 c2] w fun e w' => e = .returned (.bool true) ∧ Below w.heap.size w w' := by
  go_enter Try.func40, Try.ntmps40
  go_wp2
  refine wp_loop_rounds 1 ?_
  rw [rounds_succ]
  go_wp2
  go_ret
  exact ⟨rfl, Below.refl _ _⟩

def marked (w : World) (g : Nat) : World := ((((((((((((w.setCell ⟨g, 0, none⟩ (.int .i64 1)).setCell ⟨g, 1, none⟩ (.int .i64 2)).setCell ⟨g, 2, none⟩ (.int .i64 3)).setCell ⟨g, 3, none⟩ (.int .i64 4)).setCell ⟨g, 4, none⟩ (.int .i64 5)).setCell ⟨g, 5, none⟩ (.int .i64 6)).setCell ⟨g, 6, none⟩ (.int .i64 7)).setCell ⟨g, 7, none⟩ (.int .i64 8)).setCell ⟨g, 8, none⟩ (.int .i64 9)).setCell ⟨g, 9, none⟩ (.int .i64 10)).setCell ⟨g, 10, none⟩ (.int .i64 11)).setCell ⟨g, 11, none⟩ (.int .i64 12))
set_option maxHeartbeats 2000000 in
theorem markS4 (a0 a1 a2 a3 a4 a5 a6 a7 a8 a9 a10 a11 : Int) (g c : Nat) (w : World) (hf : ∀ o, w.frozen? ⟨g, o, none⟩ = false) (hA : HasAt w g 0 [.int .i64 a0, .int .i64 a1, .int .i64 a2, .int .i64 a3, .int .i64 a4, .int .i64 a5, .int .i64 a6, .int .i64 a7, .int .i64 a8, .int .i64 a9, .int .i64 a10, .int .i64 a11]) :
    Calls Try.prog 41 #[.slice (some ⟨g, 0, none⟩) 4 c, .int .i64 1] w fun e w' => e = .returned (.int .i64 13) ∧ w' = marked w g := by
  simp [HasAt] at hA
  go_enter Try.func41, Try.ntmps41
  go_wp2
  refine wp_loop_rounds 5 ?_
  rw [rounds_succ]
  go_wp2
  rw [rounds_succ]
  go_wp2
  rw [rounds_succ]
  go_wp2
  rw [rounds_succ]
  go_wp2
  rw [rounds_succ]
  go_wp2
  go_ret
  exact ⟨rfl, rfl⟩

set_option maxHeartbeats 1000000 in
theorem markS0 (p : Option Addr) (c : Nat) (w : World) :
    Calls Try.prog 41 #[.slice p 0 c, .int .i64 1] w fun e w' => e = .returned (.int .i64 1) ∧ w' = w := by
  go_enter Try.func41, Try.ntmps41
  go_wp2
  refine wp_loop_rounds 1 ?_
  rw [rounds_succ]
  go_wp2
  go_ret
  exact ⟨rfl, rfl⟩

def ones : List Value := [.int .i64 1, .int .i64 2, .int .i64 3, .int .i64 4, .int .i64 5, .int .i64 6, .int .i64 7, .int .i64 8, .int .i64 9, .int .i64 10, .int .i64 11, .int .i64 12]
set_option maxHeartbeats 2000000 in
theorem heldS4 (g c : Nat) (w : World) (hA : HasAt w g 0 ones) :
    Calls Try.prog 42 #[.slice (some ⟨g, 0, none⟩) 4 c, .int .i64 1] w fun e w' => e = .returned (.int .i64 13) ∧ w' = w := by
  simp [HasAt, ones] at hA
  go_enter Try.func42, Try.ntmps42
  go_wp2
  refine wp_loop_rounds 5 ?_
  rw [rounds_succ]
  go_wp2
  rw [rounds_succ]
  go_wp2
  rw [rounds_succ]
  go_wp2
  rw [rounds_succ]
  go_wp2
  rw [rounds_succ]
  go_wp2
  go_ret
  exact ⟨rfl, rfl⟩

set_option maxHeartbeats 1000000 in
theorem heldS0 (p : Option Addr) (c : Nat) (w : World) :
    Calls Try.prog 42 #[.slice p 0 c, .int .i64 1] w fun e w' => e = .returned (.int .i64 1) ∧ w' = w := by
  go_enter Try.func42, Try.ntmps42
  go_wp2
  refine wp_loop_rounds 1 ?_
  rw [rounds_succ]
  go_wp2
  go_ret
  exact ⟨rfl, rfl⟩

end Go.Proofs.Ytdabkhlhejjnpaa
