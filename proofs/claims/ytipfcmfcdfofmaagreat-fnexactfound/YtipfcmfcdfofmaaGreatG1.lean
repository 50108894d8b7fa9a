/-
  The comparison by which the program sorts Marks: by Order, of alike ones by number. Contracts that say, too, that a call draws no answer back.
-/
import Derived.Test.YtipfcmfcdfofmaaGreatOG0
import Derived.Test.YtipfcmfcdfofmaaGreatKD
import Derived.Deep.RegionHeld3
namespace Go.Proofs.YtipfcmfcdfofmaaGreat.O.D
open Go.RowKit Go.Joins
attribute [local go_sem] Oper.semAt_some

def cmpI (a b : Int) : Int := if a < b then -1 else if b < a then 1 else 0
def orI (a b : Int) : Int := if a ≠ 0 then a else b
theorem isNaN_any (a : Int) (w : World) : Calls Tryz.prog 101 #[.int .i64 a] w fun e w' => e = .returned (.bool false) ∧ w' = w := by
  go_enter Tryz.func101, Tryz.ntmps101
  go_wp2
  go_ret
  exact ⟨rfl, rfl⟩
theorem compare_any (a b : Int) (w : World) : Calls Tryz.prog 74 #[.int .i64 a, .int .i64 b] w fun e w' => e = .returned (.int .i64 (cmpI a b)) ∧ w' = w := by
  go_enter Tryz.func74, Tryz.ntmps74
  go_wp2_with (go_at_call 101; refine (isNaN_any _ _).mono ?_; rintro e w1 ⟨rfl, rfl⟩)
  all_goals (go_ret; exact ⟨ret_i64 (by unfold cmpI; split <;> (try split) <;> omega), rfl⟩)
theorem compare_v {a b v : Int} (h : cmpI a b = v) (w : World) : Calls Tryz.prog 74 #[.int .i64 a, .int .i64 b] w fun e w' => e = .returned (.int .i64 v) ∧ w' = w := by subst h; exact compare_any a b w

set_option maxHeartbeats 1000000 in
theorem or_any (a b : Int) (g : Nat) (w : World) (h0 : w.cell? ⟨g, 0, none⟩ = some (.int .i64 a)) (h1 : w.cell? ⟨g, 1, none⟩ = some (.int .i64 b)) :
    Calls Tryz.prog 73 #[.slice (some ⟨g, 0, none⟩) 2 2] w fun e w' => e = .returned (.int .i64 (orI a b)) ∧ w' = w := by
  by_cases ha : a = 0
  · subst ha
    by_cases hb : b = 0
    · subst hb
      go_enter Tryz.func73, Tryz.ntmps73
      go_wp2
      refine wp_loop_rounds 3 ?_
      rw [rounds_succ]
      go_wp2
      rw [rounds_succ]
      go_wp2
      rw [rounds_succ]
      go_wp2
      go_ret
      exact ⟨by simp [orI], rfl⟩
    · go_enter Tryz.func73, Tryz.ntmps73
      go_wp2
      refine wp_loop_rounds 3 ?_
      rw [rounds_succ]
      go_wp2
      rw [rounds_succ]
      go_wp2
      go_ret
      exact ⟨by simp [orI], rfl⟩
  · go_enter Tryz.func73, Tryz.ntmps73
    go_wp2
    refine wp_loop_rounds 3 ?_
    rw [rounds_succ]
    go_wp2
    go_ret
    exact ⟨by simp [orI, ha], rfl⟩

def cmpT (a b : Mk) : Int := orI (cmpI (ordI a.x a.y) (ordI b.x b.y)) (cmpI a.i b.i)
theorem keepD {P C : World → Prop} (hS : ∀ w', P w' → C w') {w' : World} (h : P w') : P w' ∧ C w' := ⟨h, hS _ h⟩
set_option maxRecDepth 100000 in
set_option maxHeartbeats 4000000 in
theorem byTurn_any (a b : Mk) (w : World) :
    Calls Tryz.prog 104 #[.agg #[.int .i64 a.i, .int .i64 a.x, .int .i64 a.y], .agg #[.int .i64 b.i, .int .i64 b.x, .int .i64 b.y]] w fun e w' => e = .returned (.int .i64 (cmpT a b)) ∧ Below w.heap.size w w' := by
  have hst := ((St.nil w).push [.int .i64 a.i, .int .i64 a.x, .int .i64 a.y] 45).push [.int .i64 b.i, .int .i64 b.x, .int .i64 b.y] 45
  rw [World.size_alloc] at hst
  have hS : ∀ w', St w w' [(w.heap.size + 1, [.int .i64 b.i, .int .i64 b.x, .int .i64 b.y]), (w.heap.size, [.int .i64 a.i, .int .i64 a.x, .int .i64 a.y])] → ((w'.cell? ⟨w.heap.size + 1, 0, none⟩ = some (.int .i64 b.i) ∧ w'.cell? ⟨w.heap.size + 1, 1, none⟩ = some (.int .i64 b.x) ∧ w'.cell? ⟨w.heap.size + 1, 2, none⟩ = some (.int .i64 b.y)) ∧ (w'.cell? ⟨w.heap.size, 0, none⟩ = some (.int .i64 a.i) ∧ w'.cell? ⟨w.heap.size, 1, none⟩ = some (.int .i64 a.x) ∧ w'.cell? ⟨w.heap.size, 2, none⟩ = some (.int .i64 a.y))) :=
    fun w' h => by have := h.has; simp [Has, HasAt] at this; simp [this]
  have hcc := hS _ hst
  unfold cmpT
  go_enter Tryz.func104, Tryz.ntmps104
  go_wp2
  go_region_held3 (fun w' => St w w' [(w.heap.size + 1, [.int .i64 b.i, .int .i64 b.x, .int .i64 b.y]), (w.heap.size, [.int .i64 a.i, .int .i64 a.x, .int .i64 a.y])] ∧ ((w'.cell? ⟨w.heap.size + 1, 0, none⟩ = some (.int .i64 b.i) ∧ w'.cell? ⟨w.heap.size + 1, 1, none⟩ = some (.int .i64 b.x) ∧ w'.cell? ⟨w.heap.size + 1, 2, none⟩ = some (.int .i64 b.y)) ∧ (w'.cell? ⟨w.heap.size, 0, none⟩ = some (.int .i64 a.i) ∧ w'.cell? ⟨w.heap.size, 1, none⟩ = some (.int .i64 a.x) ∧ w'.cell? ⟨w.heap.size, 2, none⟩ = some (.int .i64 a.y)))) (first | exact ‹St _ _ _ ∧ _› | exact keepD hS ((‹St _ _ _ ∧ _›).1.step hb2) | exact keepD hS ((‹St _ _ _ ∧ _›).1.al _) | exact keepD hS hst.dr | fail)
    (first
      | (go_at_call 126; refine (iOrder_any _ _ _).mono ?_; rintro e w1 ⟨rfl, hb2⟩)
      | (go_at_call 74; refine (compare_any _ _ _).mono ?_; rintro e w1 ⟨rfl, rfl⟩)
      | (go_at_call 73; refine (or_any (cmpI (ordI a.x a.y) (ordI b.x b.y)) (cmpI a.i b.i) _ _ ?_ ?_).mono ?_; (focus (simp [go_sem]; done)); (focus (simp [go_sem]; done)); rintro e w1 ⟨rfl, rfl⟩))
  clear hst hcc
  obtain ⟨hst, hcc⟩ := ‹St _ _ _ ∧ _›
  go_wp2
  go_ret
  exact ⟨rfl, hst.bel⟩
end Go.Proofs.YtipfcmfcdfofmaaGreat.O.D
