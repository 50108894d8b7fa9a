/-
  Papers: the mathematics: Clauses, their numbers, their text, how long it is; Papers.
-/
import Derived.Test.YtbkiogedipmioaaGreatML6
namespace Go.Proofs.YtbkiogedipmioaaGreat
open Go.RowKit Go.Joins M

theorem t3_bd {c : T3} (h : c.ok = true) : 0 ≤ c.l ∧ c.l ≤ 8 ∧ 0 ≤ c.x ∧ c.x ≤ 255 ∧ 0 ≤ c.y ∧ c.y ≤ 255 := by
  obtain ⟨h0, h8, hx, hx1, hy, hy1⟩ := M.cellB_t.mp h
  have := (M.pw h0 h8).2
  omega

structure Cl where
  rd : List T3
  wr : List T3
  un : Int
def timeB (n : Int) : Bool := decide (0 ≤ n ∧ n ≤ 100000)
theorem timeB_t {n : Int} : timeB n = true ↔ (0 ≤ n ∧ n ≤ 100000) := by unfold timeB; exact decide_eq_true_iff
def ofB (L : List T3) : Bool := decide (L.length ≤ 8) && okL L
/-- Is it a right Clause? -/
def clB (c : Cl) : Bool := timeB c.un && (ofB c.rd && ofB c.wr)
theorem okL_t {L : List T3} (h : okL L = true) : ∀ c ∈ L, c.ok = true := by
  unfold okL at h
  rw [Bool.and_eq_true] at h
  exact List.all_eq_true.mp h.2
theorem clB_t {c : Cl} (h : clB c = true) : (0 ≤ c.un ∧ c.un ≤ 100000) ∧ ofB c.rd = true ∧ ofB c.wr = true := by
  unfold clB at h
  rw [Bool.and_eq_true, Bool.and_eq_true] at h
  exact ⟨timeB_t.mp h.1, h.2⟩
/-- A Paper. -/
structure Pp where
  tn : Int
  cs : List Cl
  tag : Int
def tenB (n : Int) : Bool := decide (1 ≤ n ∧ n ≤ 99)
def clsB (L : List Cl) : Bool := decide (1 ≤ L.length ∧ L.length ≤ 6) && L.all clB
end Go.Proofs.YtbkiogedipmioaaGreat
