/-
  The heap's methods: Len, Less, Swap, Push, Pop.
-/
import Derived.Test.YtocfdmlkicndoaaHA2
namespace Go.Proofs.Ytocfdmlkicndoaa
open Go.RowKit Go.Joins
attribute [local go_sem] Oper.semAt_some

theorem len_any (p : Option Addr) (n cap : Nat) (w : World) : Calls Try.prog 57 #[.slice p n cap] w fun e w' => e = .returned (.int .i64 n) ∧ w' = w := by
  go_enter Try.func57, Try.ntmps57
  go_wp2
  go_ret
  exact ⟨rfl, rfl⟩

set_option maxRecDepth 100000 in
set_option maxHeartbeats 4000000 in
theorem less_any (g n cap : Nat) (i j : Nat) (p q : P3) (w : World) (hi : i < n) (hj : j < n)
    (hp : w.cell? ⟨g, i * 3, none⟩ = some (.int .i64 p.a) ∧ w.cell? ⟨g, i * 3 + 1, none⟩ = some (.int .i64 p.i) ∧ w.cell? ⟨g, i * 3 + 2, none⟩ = some (.int .i64 p.j))
    (hq : w.cell? ⟨g, j * 3, none⟩ = some (.int .i64 q.a) ∧ w.cell? ⟨g, j * 3 + 1, none⟩ = some (.int .i64 q.i) ∧ w.cell? ⟨g, j * 3 + 2, none⟩ = some (.int .i64 q.j)) :
    Calls Try.prog 107 #[.slice (some ⟨g, 0, none⟩) n cap, .int .i64 i, .int .i64 j] w fun e w' => e = .returned (.bool (ltP p q)) ∧ Below w.heap.size w w' := by
  obtain ⟨p0, p1, p2⟩ := hp
  obtain ⟨q0, q1, q2⟩ := hq
  have hi' : (i : Int) < n := by omega
  have hj' : (j : Int) < n := by omega
  rw [← cmpP_lt]
  go_enter Try.func107, Try.ntmps107
  go_wp2
  go_region_with (go_at_call 106; refine (cmpP_any p q _).mono ?_; rintro e w1 ⟨rfl, hb2⟩)
  all_goals (
    go_wp2
    go_ret
    exact ⟨rfl, (Below.refl _ _).drew.trans hb2⟩)
end Go.Proofs.Ytocfdmlkicndoaa
