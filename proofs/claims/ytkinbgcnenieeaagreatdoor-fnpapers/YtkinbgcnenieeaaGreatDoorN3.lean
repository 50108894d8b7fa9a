/-
  Papers: every, haveRoom.
-/
import Derived.Test.YtkinbgcnenieeaaGreatDoorN2
namespace Go.Proofs.YtkinbgcnenieeaaGreatDoor
open Go.Shelf Go.RowKit Go.Joins M
attribute [local go_sem] Oper.semAt_some

theorem haveRoom_any (p : Option Addr) (n cap : Nat) (w : World) : Calls Tryz.prog 26 #[.slice p n cap] w fun e w' => e = .returned (.bool (decide (n < 6))) ∧ w' = w := by
  by_cases h : n < 6
  · have h' : (n : Int) < 6 := by omega
    go_enter Tryz.func26, Tryz.ntmps26
    go_wp2
    go_ret
    exact ⟨by rw [decide_eq_true h]; rfl, rfl⟩
  · have h' : ¬ (n : Int) < 6 := by omega
    go_enter Tryz.func26, Tryz.ntmps26
    go_wp2
    go_ret
    exact ⟨rfl, rfl⟩
set_option maxHeartbeats 2000000 in
theorem every_3 {tn tag : Int} {p : Option Addr} {cap n : Nat} {QL : List CQ} {c : Cl} {s t : Sv} {v : Bool} (hv : (ppB tn (cls QL) tag && (decide (n < 6) && clB c)) = v) (hn : QL.length = n) (hb0 : n ≤ 10000000) (g : Nat) (w : World) (hg : g < w.heap.size)
    (h0 : w.cell? ⟨g, 0, none⟩ = some (.func (Fn.func 25) #[.agg #[.slice p n cap, .int .i64 tn, .int .i64 tag]] #[])) (h1 : w.cell? ⟨g, 1, none⟩ = some (.func (Fn.func 26) #[.slice p n cap] #[])) (h2 : w.cell? ⟨g, 2, none⟩ = some (.func (Fn.func 27) #[.agg #[.slice s.p s.n s.c, .slice t.p t.n t.c, .int .i64 c.un]] #[])) (hR : RdS w p QL) (hQ : RdQ w c s t) :
    Calls Tryz.prog 24 #[.slice (some ⟨g, 0, none⟩) 3 3] w fun e w' => e = .returned (.bool v) ∧ Below w.heap.size w w' := by
  have HP : Hid (∀ W v, ppB tn (cls QL) tag = v → Below w.heap.size w W → Calls Tryz.prog 25 #[.agg #[.slice p n cap, .int .i64 tn, .int .i64 tag]] W fun e w' => e = .returned (.bool v) ∧ Below W.heap.size W w') := fun W v hv h => iPaper_v hv hn hb0 W (hR.step h)
  have HC : Hid (∀ W v, clB c = v → Below w.heap.size w W → Calls Tryz.prog 27 #[.agg #[.slice s.p s.n s.c, .slice t.p t.n t.c, .int .i64 c.un]] W fun e w' => e = .returned (.bool v) ∧ Below W.heap.size W w') := fun W v hv h => iClause_v hv W (hQ.step h)
  have HH : Hid (∀ W, Calls Tryz.prog 26 #[.slice p n cap] W fun e w' => e = .returned (.bool (decide (n < 6))) ∧ w' = W) := fun W => haveRoom_any p n cap W
  clear hR hQ hn
  subst hv
  generalize ppB tn (cls QL) tag = x at *
  generalize clB c = z at *
  generalize decide (n < 6) = y at *
  cases hp : x
  · subst hp
    have hp : false = false := rfl
    go_enter Tryz.func24, Tryz.ntmps24
    go_wp2
    refine wp_loop_rounds 4 ?_
    rw [rounds_succ]
    go_wp2_with (go_at_call 25; refine (HP.out _ _ rfl (Below.refl _ _)).mono ?_; rintro e w1 ⟨rfl, hb1⟩)
    go_ret
    exact ⟨rfl, hb1⟩
  cases hy : y
  · subst hp hy
    go_enter Tryz.func24, Tryz.ntmps24
    go_wp2
    refine wp_loop_rounds 4 ?_
    rw [rounds_succ]
    go_wp2_with (go_at_call 25; refine (HP.out _ _ rfl (Below.refl _ _)).mono ?_; rintro e w1 ⟨rfl, hb1⟩)
    have c1 := (hb1.cell (p := ⟨g, 1, none⟩) hg).trans h1
    have c2 := (hb1.cell (p := ⟨g, 2, none⟩) hg).trans h2
    rw [rounds_succ]
    go_wp2_with (go_at_call 26; refine (HH.out _).mono ?_; rintro e w2 ⟨rfl, hw2⟩; obtain rfl := hw2.symm)
    go_ret
    exact ⟨rfl, hb1⟩
  · subst hp hy
    cases hz : z
    all_goals
      subst hz
      go_enter Tryz.func24, Tryz.ntmps24
      go_wp2
      refine wp_loop_rounds 4 ?_
      rw [rounds_succ]
      go_wp2_with (go_at_call 25; refine (HP.out _ _ rfl (Below.refl _ _)).mono ?_; rintro e w1 ⟨rfl, hb1⟩)
      have c1 := (hb1.cell (p := ⟨g, 1, none⟩) hg).trans h1
      have c2 := (hb1.cell (p := ⟨g, 2, none⟩) hg).trans h2
      rw [rounds_succ]
      go_wp2_with (go_at_call 26; refine (HH.out _).mono ?_; rintro e w2 ⟨rfl, hw2⟩; obtain rfl := hw2.symm)
      rw [rounds_succ]
      go_wp2_with (go_at_call 27; refine (HC.out _ _ rfl hb1).mono ?_; rintro e w3 ⟨rfl, hb3⟩)
      try rw [rounds_succ]
      try go_wp2
      go_ret
      exact ⟨rfl, bstep hb1 hb3 (Nat.le_refl _)⟩
end Go.Proofs.YtkinbgcnenieeaaGreatDoor
