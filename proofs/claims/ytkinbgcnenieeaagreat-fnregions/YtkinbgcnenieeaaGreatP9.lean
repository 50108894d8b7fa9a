/-
  Papers: the chain; Genuine, the program's and the spec's.
-/
import Derived.Test.YtkinbgcnenieeaaGreatP8
import Derived.Deep.QuietTactic
import Derived.BigQuiet
namespace Go.Proofs.YtkinbgcnenieeaaGreat
open Go.RowKit Go.Joins M
attribute [local go_sem] Oper.semAt_some

/-- A paper's own struct. -/
structure Pw where
  s : Sv
  tn : Int
  tag : Int
def kW : Kd Pw := ⟨48, 3, fun q => [.slice q.s.p q.s.n q.s.c, .int .i64 q.tn, .int .i64 q.tag], fun _ => rfl⟩
theorem ow_some {α : Type} {K : Kd α} {W : World} {base n c : Nat} {p : Option Addr} {L : List α} (h : OwG K W base (.slice p n c) L) (h0 : 0 < n) : ∃ g, p = some ⟨g, 0, none⟩ := by
  obtain ⟨g, off, rfl, _⟩ := (OwG.sl h).at (k := 0) (by have := OwG.len h; omega)
  have hz := OwG.zero h
  subst hz
  exact ⟨g, rfl⟩
theorem dg_size {n : Int} (h : tenB n = true) : (dgS n).size ≤ 200 := by
  have hb : 1 ≤ n ∧ n ≤ 99 := by unfold tenB at h; exact of_decide_eq_true h
  have := itoa_len (n := n) (k := 2) (by omega) (by omega) (by omega)
  unfold dgS; rw [txA_size]; omega
end Go.Proofs.YtkinbgcnenieeaaGreat
