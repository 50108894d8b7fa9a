/-
  The comparison by which the program sorts Cells: by their first Spot's number, of alike ones by Level.
-/
import Derived.Test.YtkinbgcnenieeaaGreatMG0
import Derived.Deep.RegionHeld3
namespace Go.Proofs.YtkinbgcnenieeaaGreat.M.D
open Go.RowKit Go.Joins

def firstI (c : T3) : Int := ordI (rX c.l c.x c.y) (rY c.l c.x c.y)
def cmpI (a b : Int) : Int := if a < b then -1 else if b < a then 1 else 0
def orI (a b : Int) : Int := if a ≠ 0 then a else b
def cmpT (a b : T3) : Int := orI (cmpI (firstI a) (firstI b)) (cmpI a.l b.l)

set_option maxHeartbeats 1000000 in
theorem first_any (c : T3) (w : World) :
    Calls Tryz.prog 80 #[.agg #[.int .i64 c.l, .int .i64 c.x, .int .i64 c.y]] w fun e w' => e = .returned (.int .i64 (firstI c)) ∧ Below w.heap.size w w' := by
  have hs := St.nil w
  go_enter Tryz.func80, Tryz.ntmps80
  go_wp2_with (first
    | (go_at_call 86; refine (iRectOf_any _ _ _ _).mono ?_; rintro e w1 ⟨rfl, hb2⟩; replace hs := (hs.push _ _).step hb2; have hk := hs.has; simp [Has, HasAt] at hk)
    | (go_at_call 87; refine (iOrder_any _ _ _).mono ?_; rintro e w1 ⟨rfl, hb2⟩; replace hs := (hs.push _ _).step hb2))
  go_ret
  exact ⟨rfl, hs.bel⟩
theorem first_v {c : T3} {v : Int} (h : firstI c = v) (w : World) :
    Calls Tryz.prog 80 #[.agg #[.int .i64 c.l, .int .i64 c.x, .int .i64 c.y]] w fun e w' => e = .returned (.int .i64 v) ∧ Below w.heap.size w w' := by subst h; exact first_any c w
theorem isNaN_any (a : Int) (w : World) : Calls Tryz.prog 85 #[.int .i64 a] w fun e w' => e = .returned (.bool false) ∧ w' = w := by
  go_enter Tryz.func85, Tryz.ntmps85
  go_wp2
  go_ret
  exact ⟨rfl, rfl⟩
theorem compare_any (a b : Int) (w : World) : Calls Tryz.prog 79 #[.int .i64 a, .int .i64 b] w fun e w' => e = .returned (.int .i64 (cmpI a b)) ∧ w' = w := by
  go_enter Tryz.func79, Tryz.ntmps79
  go_wp2_with (go_at_call 85; refine (isNaN_any _ _).mono ?_; rintro e w1 ⟨rfl, rfl⟩)
  all_goals (go_ret; exact ⟨ret_i64 (by unfold cmpI; split <;> (try split) <;> omega), rfl⟩)
theorem compare_v {a b v : Int} (h : cmpI a b = v) (w : World) : Calls Tryz.prog 79 #[.int .i64 a, .int .i64 b] w fun e w' => e = .returned (.int .i64 v) ∧ w' = w := by subst h; exact compare_any a b w

set_option maxHeartbeats 1000000 in
theorem or_any (a b : Int) (g : Nat) (w : World) (h0 : w.cell? ⟨g, 0, none⟩ = some (.int .i64 a)) (h1 : w.cell? ⟨g, 1, none⟩ = some (.int .i64 b)) :
    Calls Tryz.prog 78 #[.slice (some ⟨g, 0, none⟩) 2 2] w fun e w' => e = .returned (.int .i64 (orI a b)) ∧ w' = w := by
  by_cases ha : a = 0
  · subst ha
    by_cases hb : b = 0
    · subst hb
      go_enter Tryz.func78, Tryz.ntmps78
      go_wp2
      refine wp_loop_rounds 3 ?_
      rw [rounds_succ]
      go_wp2
      rw [rounds_succ]
      go_wp2
      rw [rounds_succ]
      go_wp2
      go_ret
      exact ⟨by simp [orI], rfl⟩
    · go_enter Tryz.func78, Tryz.ntmps78
      go_wp2
      refine wp_loop_rounds 3 ?_
      rw [rounds_succ]
      go_wp2
      rw [rounds_succ]
      go_wp2
      go_ret
      exact ⟨by simp [orI], rfl⟩
  · go_enter Tryz.func78, Tryz.ntmps78
    go_wp2
    refine wp_loop_rounds 3 ?_
    rw [rounds_succ]
    go_wp2
    go_ret
    exact ⟨by simp [orI, ha], rfl⟩

set_option maxRecDepth 100000 in
set_option maxHeartbeats 4000000 in
theorem cmp_any (a b : T3) (w : World) :
    Calls Tryz.prog 77 #[.agg #[.int .i64 a.l, .int .i64 a.x, .int .i64 a.y], .agg #[.int .i64 b.l, .int .i64 b.x, .int .i64 b.y]] w fun e w' => e = .returned (.int .i64 (cmpT a b)) ∧ Below w.heap.size w w' := by
  have hst := ((St.nil w).push [.int .i64 a.l, .int .i64 a.x, .int .i64 a.y] 55).push [.int .i64 b.l, .int .i64 b.x, .int .i64 b.y] 55
  rw [World.size_alloc] at hst
  have hS : ∀ w', St w w' [(w.heap.size + 1, [.int .i64 b.l, .int .i64 b.x, .int .i64 b.y]), (w.heap.size, [.int .i64 a.l, .int .i64 a.x, .int .i64 a.y])] → ((w'.cell? ⟨w.heap.size + 1, 0, none⟩ = some (.int .i64 b.l) ∧ w'.cell? ⟨w.heap.size + 1, 1, none⟩ = some (.int .i64 b.x) ∧ w'.cell? ⟨w.heap.size + 1, 2, none⟩ = some (.int .i64 b.y)) ∧ (w'.cell? ⟨w.heap.size, 0, none⟩ = some (.int .i64 a.l) ∧ w'.cell? ⟨w.heap.size, 1, none⟩ = some (.int .i64 a.x) ∧ w'.cell? ⟨w.heap.size, 2, none⟩ = some (.int .i64 a.y))) :=
    fun w' h => by have := h.has; simp [Has, HasAt] at this; simp [this]
  have hcc := hS _ hst
  unfold cmpT
  go_enter Tryz.func77, Tryz.ntmps77
  go_wp2
  go_region_held3 (fun w' => St w w' [(w.heap.size + 1, [.int .i64 b.l, .int .i64 b.x, .int .i64 b.y]), (w.heap.size, [.int .i64 a.l, .int .i64 a.x, .int .i64 a.y])] ∧ ((w'.cell? ⟨w.heap.size + 1, 0, none⟩ = some (.int .i64 b.l) ∧ w'.cell? ⟨w.heap.size + 1, 1, none⟩ = some (.int .i64 b.x) ∧ w'.cell? ⟨w.heap.size + 1, 2, none⟩ = some (.int .i64 b.y)) ∧ (w'.cell? ⟨w.heap.size, 0, none⟩ = some (.int .i64 a.l) ∧ w'.cell? ⟨w.heap.size, 1, none⟩ = some (.int .i64 a.x) ∧ w'.cell? ⟨w.heap.size, 2, none⟩ = some (.int .i64 a.y)))) (first | exact ‹St _ _ _ ∧ _› | exact keepS hS ((‹St _ _ _ ∧ _›).1.step hb2) | exact keepS hS ((‹St _ _ _ ∧ _›).1.al _) | exact keepS hS hst.dr | fail)
    (first
      | (go_at_call 80; refine (first_any _ _).mono ?_; rintro e w1 ⟨rfl, hb2⟩)
      | (go_at_call 79; refine (compare_any _ _ _).mono ?_; rintro e w1 ⟨rfl, rfl⟩)
      | (go_at_call 78; refine (or_any (cmpI (firstI a) (firstI b)) (cmpI a.l b.l) _ _ ?_ ?_).mono ?_; (focus (simp [go_sem]; done)); (focus (simp [go_sem]; done)); rintro e w1 ⟨rfl, rfl⟩))
  clear hst hcc
  obtain ⟨hst, hcc⟩ := ‹St _ _ _ ∧ _›
  go_wp2
  go_ret
  exact ⟨rfl, hst.bel⟩
end Go.Proofs.YtkinbgcnenieeaaGreat.M.D
