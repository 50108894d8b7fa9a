/-
  The comparison of pairs: by Apart, then the first number, then the second.
-/
import Derived.Test.YtocfdmlkicndoaaHA1
import Derived.Deep.QuietTactic
import Derived.BigQuiet
namespace Go.Proofs.Ytocfdmlkicndoaa
open Go.RowKit Go.Joins
attribute [local go_sem] Oper.semAt_some

def cmpI (a b : Int) : Int := if a < b then -1 else if b < a then 1 else 0
def orI3 (a b c : Int) : Int := if a ≠ 0 then a else if b ≠ 0 then b else c
def cmpP (p q : P3) : Int := orI3 (cmpI p.a q.a) (cmpI p.i q.i) (cmpI p.j q.j)
def ltP (p q : P3) : Bool := decide (p.a < q.a ∨ p.a = q.a ∧ (p.i < q.i ∨ p.i = q.i ∧ p.j < q.j))
theorem cmpP_lt (p q : P3) : decide (cmpP p q < 0) = ltP p q := by
  unfold cmpP ltP orI3 cmpI
  rw [decide_eq_decide]
  constructor
  · intro h
    repeat' split at h
    all_goals first | omega | (simp_all; done) | (simp_all; omega)
  · intro h
    repeat' split
    all_goals first | omega | (simp_all; done) | (simp_all; omega)
theorem isNaN_any (a : Int) (w : World) : Calls Try.prog 73 #[.int .i64 a] w fun e w' => e = .returned (.bool false) ∧ w' = w := by
  go_enter Try.func73, Try.ntmps73
  go_wp2
  go_ret
  exact ⟨rfl, rfl⟩
theorem compare_any (a b : Int) (w : World) : Calls Try.prog 62 #[.int .i64 a, .int .i64 b] w fun e w' => e = .returned (.int .i64 (cmpI a b)) ∧ w' = w := by
  go_enter Try.func62, Try.ntmps62
  go_wp2_with (go_at_call 73; refine (isNaN_any _ _).mono ?_; rintro e w1 ⟨rfl, rfl⟩)
  all_goals (go_ret; exact ⟨ret_i64 (by unfold cmpI; split <;> (try split) <;> omega), rfl⟩)

set_option maxHeartbeats 1000000 in
theorem or3_any (a b c : Int) (g : Nat) (w : World) (h0 : w.cell? ⟨g, 0, none⟩ = some (.int .i64 a)) (h1 : w.cell? ⟨g, 1, none⟩ = some (.int .i64 b)) (h2 : w.cell? ⟨g, 2, none⟩ = some (.int .i64 c)) :
    Calls Try.prog 61 #[.slice (some ⟨g, 0, none⟩) 3 3] w fun e w' => e = .returned (.int .i64 (orI3 a b c)) ∧ w' = w := by
  by_cases ha : a = 0
  · subst ha
    by_cases hb : b = 0
    · subst hb
      by_cases hc : c = 0
      · subst hc
        go_enter Try.func61, Try.ntmps61
        go_wp2
        refine wp_loop_rounds 4 ?_
        rw [rounds_succ]
        go_wp2
        rw [rounds_succ]
        go_wp2
        rw [rounds_succ]
        go_wp2
        rw [rounds_succ]
        go_wp2
        go_ret
        exact ⟨by simp [orI3], rfl⟩
      · go_enter Try.func61, Try.ntmps61
        go_wp2
        refine wp_loop_rounds 4 ?_
        rw [rounds_succ]
        go_wp2
        rw [rounds_succ]
        go_wp2
        rw [rounds_succ]
        go_wp2
        go_ret
        exact ⟨by simp [orI3], rfl⟩
    · go_enter Try.func61, Try.ntmps61
      go_wp2
      refine wp_loop_rounds 4 ?_
      rw [rounds_succ]
      go_wp2
      rw [rounds_succ]
      go_wp2
      go_ret
      exact ⟨by simp [orI3, hb], rfl⟩
  · go_enter Try.func61, Try.ntmps61
    go_wp2
    refine wp_loop_rounds 4 ?_
    rw [rounds_succ]
    go_wp2
    go_ret
    exact ⟨by simp [orI3, ha], rfl⟩

set_option maxRecDepth 100000 in
set_option maxHeartbeats 4000000 in
theorem cmpP_any (a b : P3) (w : World) :
    Calls Try.prog 106 #[.agg #[.int .i64 a.a, .int .i64 a.i, .int .i64 a.j], .agg #[.int .i64 b.a, .int .i64 b.i, .int .i64 b.j]] w fun e w' => e = .returned (.int .i64 (cmpP a b)) ∧ Below w.heap.size w w' := by
  have hst := ((St.nil w).push [.int .i64 a.a, .int .i64 a.i, .int .i64 a.j] 53).push [.int .i64 b.a, .int .i64 b.i, .int .i64 b.j] 53
  rw [World.size_alloc] at hst
  have hS : ∀ w', St w w' [(w.heap.size + 1, [.int .i64 b.a, .int .i64 b.i, .int .i64 b.j]), (w.heap.size, [.int .i64 a.a, .int .i64 a.i, .int .i64 a.j])] → ((w'.cell? ⟨w.heap.size + 1, 0, none⟩ = some (.int .i64 b.a) ∧ w'.cell? ⟨w.heap.size + 1, 1, none⟩ = some (.int .i64 b.i) ∧ w'.cell? ⟨w.heap.size + 1, 2, none⟩ = some (.int .i64 b.j)) ∧ (w'.cell? ⟨w.heap.size, 0, none⟩ = some (.int .i64 a.a) ∧ w'.cell? ⟨w.heap.size, 1, none⟩ = some (.int .i64 a.i) ∧ w'.cell? ⟨w.heap.size, 2, none⟩ = some (.int .i64 a.j))) :=
    fun w' h => by have := h.has; simp [Has, HasAt] at this; simp [this]
  have hcc := hS _ hst
  unfold cmpP
  go_enter Try.func106, Try.ntmps106
  go_wp2
  go_region_held3 (fun w' => St w w' [(w.heap.size + 1, [.int .i64 b.a, .int .i64 b.i, .int .i64 b.j]), (w.heap.size, [.int .i64 a.a, .int .i64 a.i, .int .i64 a.j])] ∧ ((w'.cell? ⟨w.heap.size + 1, 0, none⟩ = some (.int .i64 b.a) ∧ w'.cell? ⟨w.heap.size + 1, 1, none⟩ = some (.int .i64 b.i) ∧ w'.cell? ⟨w.heap.size + 1, 2, none⟩ = some (.int .i64 b.j)) ∧ (w'.cell? ⟨w.heap.size, 0, none⟩ = some (.int .i64 a.a) ∧ w'.cell? ⟨w.heap.size, 1, none⟩ = some (.int .i64 a.i) ∧ w'.cell? ⟨w.heap.size, 2, none⟩ = some (.int .i64 a.j)))) (first | exact ‹St _ _ _ ∧ _› | exact keepS hS ((‹St _ _ _ ∧ _›).1.step hb2) | exact keepS hS ((‹St _ _ _ ∧ _›).1.al _) | exact keepS hS hst.dr | fail)
    (first
      | (go_at_call 62; refine (compare_any _ _ _).mono ?_; rintro e w1 ⟨rfl, rfl⟩)
      | (go_at_call 61; refine (or3_any (cmpI a.a b.a) (cmpI a.i b.i) (cmpI a.j b.j) _ _ ?_ ?_ ?_).mono ?_; (focus (simp [go_sem]; done)); (focus (simp [go_sem]; done)); (focus (simp [go_sem]; done)); rintro e w1 ⟨rfl, rfl⟩))
  clear hst hcc
  obtain ⟨hst, hcc⟩ := ‹St _ _ _ ∧ _›
  go_wp2
  go_ret
  exact ⟨rfl, hst.bel⟩
end Go.Proofs.Ytocfdmlkicndoaa
