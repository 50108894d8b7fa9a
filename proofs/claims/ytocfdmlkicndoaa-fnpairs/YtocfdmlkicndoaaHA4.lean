/-
  The heap's Swap.
-/
import Derived.Test.YtocfdmlkicndoaaHA3
namespace Go.Proofs.Ytocfdmlkicndoaa
open Go.RowKit Go.Joins
attribute [local go_sem] Oper.semAt_some

set_option maxRecDepth 100000 in
set_option maxHeartbeats 4000000 in
theorem swap_raw (g n cap : Nat) (i j : Nat) (p q : P3) (w : World) (hi : i < n) (hj : j < n)
    (hp : w.cell? ⟨g, i * 3, none⟩ = some (.int .i64 p.a) ∧ w.cell? ⟨g, i * 3 + 1, none⟩ = some (.int .i64 p.i) ∧ w.cell? ⟨g, i * 3 + 2, none⟩ = some (.int .i64 p.j))
    (hq : w.cell? ⟨g, j * 3, none⟩ = some (.int .i64 q.a) ∧ w.cell? ⟨g, j * 3 + 1, none⟩ = some (.int .i64 q.i) ∧ w.cell? ⟨g, j * 3 + 2, none⟩ = some (.int .i64 q.j)) (hf : ∀ o, w.frozen? ⟨g, o, none⟩ = false)
    (hne : i ≠ j) :
    Calls Try.prog 110 #[.slice (some ⟨g, 0, none⟩) n cap, .int .i64 i, .int .i64 j] w fun e w' => (∃ v, e = .returned v) ∧ w' = ((((((w.setCell ⟨g, i * 3, none⟩ (.int .i64 q.a)).setCell ⟨g, i * 3 + 1, none⟩ (.int .i64 q.i)).setCell ⟨g, i * 3 + 2, none⟩ (.int .i64 q.j)).setCell ⟨g, j * 3, none⟩ (.int .i64 p.a)).setCell ⟨g, j * 3 + 1, none⟩ (.int .i64 p.i)).setCell ⟨g, j * 3 + 2, none⟩ (.int .i64 p.j)).drew := by
  obtain ⟨p0, p1, p2⟩ := hp
  obtain ⟨q0, q1, q2⟩ := hq
  have hi' : (i : Int) < n := by omega
  have hj' : (j : Int) < n := by omega
  go_enter Try.func110, Try.ntmps110
  go_wp2
  go_region_with fail
  all_goals (
    go_wp2
    go_end0
    refine ⟨⟨_, rfl⟩, ?_⟩
    with_reducible rfl)

set_option maxRecDepth 100000 in
set_option maxHeartbeats 4000000 in
theorem swap_self (g n cap : Nat) (i : Nat) (p : P3) (w : World) (hi : i < n)
    (hp : w.cell? ⟨g, i * 3, none⟩ = some (.int .i64 p.a) ∧ w.cell? ⟨g, i * 3 + 1, none⟩ = some (.int .i64 p.i) ∧ w.cell? ⟨g, i * 3 + 2, none⟩ = some (.int .i64 p.j)) (hf : ∀ o, w.frozen? ⟨g, o, none⟩ = false) :
    Calls Try.prog 110 #[.slice (some ⟨g, 0, none⟩) n cap, .int .i64 i, .int .i64 i] w fun e w' => (∃ v, e = .returned v) ∧ w' = ((((((w.setCell ⟨g, i * 3, none⟩ (.int .i64 p.a)).setCell ⟨g, i * 3 + 1, none⟩ (.int .i64 p.i)).setCell ⟨g, i * 3 + 2, none⟩ (.int .i64 p.j)).setCell ⟨g, i * 3, none⟩ (.int .i64 p.a)).setCell ⟨g, i * 3 + 1, none⟩ (.int .i64 p.i)).setCell ⟨g, i * 3 + 2, none⟩ (.int .i64 p.j)).drew := by
  obtain ⟨p0, p1, p2⟩ := hp
  have hi' : (i : Int) < n := by omega
  go_enter Try.func110, Try.ntmps110
  go_wp2
  go_region_with fail
  all_goals (
    go_wp2
    go_end0
    refine ⟨⟨_, rfl⟩, ?_⟩
    with_reducible rfl)

def zp : P3 := ⟨0, 0, 0⟩
def swp (L : List P3) (i j : Nat) : List P3 := (L.set i (L.getD j zp)).set j (L.getD i zp)
theorem swp_len (L : List P3) (i j : Nat) : (swp L i j).length = L.length := by simp [swp]
theorem getD_some {L : List P3} {k : Nat} (hk : k < L.length) : L[k]? = some (L.getD k zp) := by simp [List.getD, hk]
theorem Hp.drew {W : World} {b g cap : Nat} {L : List P3} (h : Hp W b g cap L) : Hp W.drew b g cap L := h.step (Below.refl _ _).drew
theorem Hp.fg {W : World} {b g cap : Nat} {L : List P3} (h : Hp W b g cap L) : ∀ o, W.frozen? ⟨g, o, none⟩ = false := fun o => World.ownsRow.frozenAt h.ow o
theorem swap_any (b g cap : Nat) (L : List P3) (i j : Nat) (w : World) (h : Hp w b g cap L) (hi : i < L.length) (hj : j < L.length) :
    Calls Try.prog 110 #[.slice (some ⟨g, 0, none⟩) L.length cap, .int .i64 i, .int .i64 j] w fun e w' => (∃ v, e = .returned v) ∧ Hp w' b g cap (swp L i j) ∧ Tn b g w g w' := by
  have hp := h.ow.cs.2 i _ (getD_some hi)
  have hq := h.ow.cs.2 j _ (getD_some hj)
  have key : ∀ (q p : P3), Hp (((((((w.setCell ⟨g, i * 3, none⟩ (.int .i64 q.a)).setCell ⟨g, i * 3 + 1, none⟩ (.int .i64 q.i)).setCell ⟨g, i * 3 + 2, none⟩ (.int .i64 q.j)).setCell ⟨g, j * 3, none⟩ (.int .i64 p.a)).setCell ⟨g, j * 3 + 1, none⟩ (.int .i64 p.i)).setCell ⟨g, j * 3 + 2, none⟩ (.int .i64 p.j)).drew) b g cap ((L.set i q).set j p) ∧ Tn b g w g (((((((w.setCell ⟨g, i * 3, none⟩ (.int .i64 q.a)).setCell ⟨g, i * 3 + 1, none⟩ (.int .i64 q.i)).setCell ⟨g, i * 3 + 2, none⟩ (.int .i64 q.j)).setCell ⟨g, j * 3, none⟩ (.int .i64 p.a)).setCell ⟨g, j * 3 + 1, none⟩ (.int .i64 p.i)).setCell ⟨g, j * 3 + 2, none⟩ (.int .i64 p.j)).drew) := by
    intro q p
    obtain ⟨o1, g1⟩ := Ow3.stored h.ow hi q
    obtain ⟨o2, g2⟩ := Ow3.stored o1 (k := j) (by simpa using hj) p
    obtain ⟨r1, r2⟩ := h.turned o2 (by simp) (gtrans g1 g2)
    exact ⟨r1.drew, r2.step (Below.refl _ _).drew⟩
  by_cases hne : i = j
  · subst hne
    refine (swap_self g L.length cap i _ w hi hp h.fg).mono ?_
    rintro e w' ⟨he, rfl⟩
    exact ⟨he, key _ _⟩
  · refine (swap_raw g L.length cap i j _ _ w hi hj hp hq h.fg hne).mono ?_
    rintro e w' ⟨he, rfl⟩
    exact ⟨he, key _ _⟩
end Go.Proofs.Ytocfdmlkicndoaa
