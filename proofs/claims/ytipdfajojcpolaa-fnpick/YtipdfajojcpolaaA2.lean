/-
  Side: the spec's, and the law's walk.
-/
import Derived.Test.YtipdfajojcpolaaA1
namespace Go.Proofs.Ytipdfajojcpolaa
open Go.RowKit Go.Joins
attribute [local go_sem ↓] Go.wp_at_zero Go.wp_at_succ

theorem sSpot_v {x y : Int} {v : Bool} (hv : spB x y = v) (w : World) :
    Calls Try.prog 40 #[.agg #[.int .i64 x, .int .i64 y]] w fun e w' => e = .returned (.bool v) ∧ Below w.heap.size w w' := by subst hv; exact sSpot_any x y w
theorem spRight_v {x y : Int} {v : Bool} (hv : spB x y = v) (w : World) :
    Calls Try.prog 44 #[.agg #[.int .i64 x, .int .i64 y]] w fun e w' => e = .returned (.bool v) ∧ Below w.heap.size w w' := by subst hv; exact spRight_any x y w
theorem l4Cross_v {a b c : T2} {v : Int} (hv : crT a b c = v) (ha : a.ok = true) (hb : b.ok = true) (hc : c.ok = true) (w : World) :
    Calls Try.prog 41 #[.agg #[.int .i64 a.x, .int .i64 a.y], .agg #[.int .i64 b.x, .int .i64 b.y], .agg #[.int .i64 c.x, .int .i64 c.y]] w fun e w' => e = .returned (.int .i64 v) ∧ Below w.heap.size w w' := by subst hv; exact l4Cross_any ha hb hc w
theorem l4Sign_v {n v : Int} (hv : sg n = v) (w : World) :
    Calls Try.prog 45 #[.int .i64 n] w fun e w' => e = .returned (.int .i64 v) ∧ Below w.heap.size w w' := by subst hv; exact l4Sign_any n w

set_option maxHeartbeats 2000000 in
theorem sSide_any (a b c : T2) (w : World) :
    Calls Try.prog 21 #[.agg #[.int .i64 a.x, .int .i64 a.y], .agg #[.int .i64 b.x, .int .i64 b.y], .agg #[.int .i64 c.x, .int .i64 c.y]] w fun e w' => e = .returned (.int .i64 (sideI a b c)) ∧ Below w.heap.size w w' := by
  have hs := (((St.nil w).push a.vs 28).push b.vs 28).push c.vs 28
  simp only [World.size_alloc, T2.vs] at hs
  cases ha : spB a.x a.y
  · have ha' : a.ok = false := ha
    rw [sideI, ha']
    go_enter Try.func21, Try.ntmps21
    go_wp2_with (go_at_call 40; refine (sSpot_any _ _ _).mono ?_; rintro e w1 ⟨rfl, hb2⟩; replace hs := hs.step hb2; (try clear hk); have hk := hs.has; simp [Has, HasAt] at hk)
    go_ret
    exact ⟨rfl, hs.bel⟩
  have ha' : a.ok = true := ha
  cases hb : spB b.x b.y
  · have hb' : b.ok = false := hb
    rw [sideI, ha', hb']
    go_enter Try.func21, Try.ntmps21
    go_wp2_with (first
      | (go_at_call 40; refine (sSpot_any _ _ _).mono ?_; rintro e w1 ⟨rfl, hb2⟩; replace hs := hs.step hb2; (try clear hk); have hk := hs.has; simp [Has, HasAt] at hk))
    go_ret
    exact ⟨rfl, hs.bel⟩
  have hb' : b.ok = true := hb
  cases hc : spB c.x c.y
  · have hc' : c.ok = false := hc
    rw [sideI, ha', hb', hc']
    go_enter Try.func21, Try.ntmps21
    go_wp2_with (first
      | (go_at_call 40; refine (sSpot_any _ _ _).mono ?_; rintro e w1 ⟨rfl, hb2⟩; replace hs := hs.step hb2; (try clear hk); have hk := hs.has; simp [Has, HasAt] at hk))
    go_ret
    exact ⟨rfl, hs.bel⟩
  · have hc' : c.ok = true := hc
    rw [sideI, ha', hb', hc']
    generalize hn : crT a b c = n
    generalize hr : sg n = r
    go_enter Try.func21, Try.ntmps21
    go_wp2_with (first
      | (go_at_call 40; refine (sSpot_any _ _ _).mono ?_; rintro e w1 ⟨rfl, hb2⟩; replace hs := hs.step hb2; (try clear hk); have hk := hs.has; simp [Has, HasAt] at hk)
      | (go_at_call 41; refine (l4Cross_v hn ha' hb' hc' _).mono ?_; rintro e w1 ⟨rfl, hb2⟩; replace hs := hs.step hb2; (try clear hk); have hk := hs.has; simp [Has, HasAt] at hk)
      | (go_at_call 45; refine (l4Sign_v hr _).mono ?_; rintro e w1 ⟨rfl, hb2⟩; replace hs := hs.step hb2; (try clear hk); have hk := hs.has; simp [Has, HasAt] at hk))
    go_ret
    exact ⟨rfl, hs.bel⟩
theorem sSide_v {a b c : T2} {v : Int} (hv : sideI a b c = v) (w : World) :
    Calls Try.prog 21 #[.agg #[.int .i64 a.x, .int .i64 a.y], .agg #[.int .i64 b.x, .int .i64 b.y], .agg #[.int .i64 c.x, .int .i64 c.y]] w fun e w' => e = .returned (.int .i64 v) ∧ Below w.heap.size w w' := by subst hv; exact sSide_any a b c w
theorem iSide_v {a b c : T2} {v : Int} (hv : sideI a b c = v) (w : World) :
    Calls Try.prog 20 #[.agg #[.int .i64 a.x, .int .i64 a.y], .agg #[.int .i64 b.x, .int .i64 b.y], .agg #[.int .i64 c.x, .int .i64 c.y]] w fun e w' => e = .returned (.int .i64 v) ∧ Below w.heap.size w w' := by subst hv; exact iSide_any a b c w

set_option maxRecDepth 100000 in
set_option maxHeartbeats 2000000 in
theorem exactSide (x1 y1 x2 y2 x3 y3 : Int) (w : World) :
    Calls Try.prog 8 #[.agg #[.int .i64 x1, .int .i64 y1], .agg #[.int .i64 x2, .int .i64 y2], .agg #[.int .i64 x3, .int .i64 y3]] w fun e w' => e = .returned (.bool true) ∧ Below w.heap.size w w' := by
  have hs := (((St.nil w).push [.int .i64 x1, .int .i64 y1] 38).push [.int .i64 x2, .int .i64 y2] 38).push [.int .i64 x3, .int .i64 y3] 38
  simp only [World.size_alloc] at hs
  generalize hv : sideI ⟨x1, y1⟩ ⟨x2, y2⟩ ⟨x3, y3⟩ = v
  have hS : ∀ w', St w w' [(w.heap.size + 1 + 1, [.int .i64 x3, .int .i64 y3]), (w.heap.size + 1, [.int .i64 x2, .int .i64 y2]), (w.heap.size, [.int .i64 x1, .int .i64 y1])] → (w'.cell? ⟨w.heap.size, 0, none⟩ = some (.int .i64 x1) ∧ w'.cell? ⟨w.heap.size, 1, none⟩ = some (.int .i64 y1) ∧ w'.cell? ⟨w.heap.size + 1, 0, none⟩ = some (.int .i64 x2) ∧ w'.cell? ⟨w.heap.size + 1, 1, none⟩ = some (.int .i64 y2) ∧ w'.cell? ⟨w.heap.size + 1 + 1, 0, none⟩ = some (.int .i64 x3) ∧ w'.cell? ⟨w.heap.size + 1 + 1, 1, none⟩ = some (.int .i64 y3)) := by
    intro w' h
    have hk := h.has
    simp [Has, HasAt] at hk
    simp [hk]
  have hcc := hS _ hs
  go_enter Try.func8, Try.ntmps8
  go_wp2
  go_region_held3 (fun w' => St w w' [(w.heap.size + 1 + 1, [.int .i64 x3, .int .i64 y3]), (w.heap.size + 1, [.int .i64 x2, .int .i64 y2]), (w.heap.size, [.int .i64 x1, .int .i64 y1])] ∧ (w'.cell? ⟨w.heap.size, 0, none⟩ = some (.int .i64 x1) ∧ w'.cell? ⟨w.heap.size, 1, none⟩ = some (.int .i64 y1) ∧ w'.cell? ⟨w.heap.size + 1, 0, none⟩ = some (.int .i64 x2) ∧ w'.cell? ⟨w.heap.size + 1, 1, none⟩ = some (.int .i64 y2) ∧ w'.cell? ⟨w.heap.size + 1 + 1, 0, none⟩ = some (.int .i64 x3) ∧ w'.cell? ⟨w.heap.size + 1 + 1, 1, none⟩ = some (.int .i64 y3))) (first | exact ‹St _ _ _ ∧ _› | exact keepS hS ((‹St _ _ _ ∧ _›).1.step hb2) | exact keepS hS (hs.step (Below.refl _ _).drew) | fail)
    (first
      | (go_at_call 25; refine (toSpot_any _ _ _).mono ?_; rintro e w1 ⟨rfl, hb2⟩)
      | (go_at_call 21; refine (sSide_v hv _).mono ?_; rintro e w1 ⟨rfl, hb2⟩))
  clear hs hcc
  obtain ⟨hs, hcc⟩ := ‹St _ _ _ ∧ _›
  go_wp2
  go_region_held3 (fun w' => St w w' [(w.heap.size + 1 + 1, [.int .i64 x3, .int .i64 y3]), (w.heap.size + 1, [.int .i64 x2, .int .i64 y2]), (w.heap.size, [.int .i64 x1, .int .i64 y1])] ∧ (w'.cell? ⟨w.heap.size, 0, none⟩ = some (.int .i64 x1) ∧ w'.cell? ⟨w.heap.size, 1, none⟩ = some (.int .i64 y1) ∧ w'.cell? ⟨w.heap.size + 1, 0, none⟩ = some (.int .i64 x2) ∧ w'.cell? ⟨w.heap.size + 1, 1, none⟩ = some (.int .i64 y2) ∧ w'.cell? ⟨w.heap.size + 1 + 1, 0, none⟩ = some (.int .i64 x3) ∧ w'.cell? ⟨w.heap.size + 1 + 1, 1, none⟩ = some (.int .i64 y3))) (first | exact ‹St _ _ _ ∧ _› | exact keepS hS ((‹St _ _ _ ∧ _›).1.step hb2) | exact keepS hS (hs.step (Below.refl _ _).drew) | fail)
    (first
      | (go_at_call 25; refine (toSpot_any _ _ _).mono ?_; rintro e w1 ⟨rfl, hb2⟩)
      | (go_at_call 20; refine (iSide_v hv _).mono ?_; rintro e w1 ⟨rfl, hb2⟩))
  clear hs hcc
  obtain ⟨hs, hcc⟩ := ‹St _ _ _ ∧ _›
  go_wp2
  go_ret
  exact ⟨rfl, hs.bel⟩
end Go.Proofs.Ytipdfajojcpolaa
