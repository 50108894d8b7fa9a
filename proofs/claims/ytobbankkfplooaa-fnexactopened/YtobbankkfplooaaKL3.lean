/-
  The law's marks on lists of Records.
-/
import Derived.Test.YtobbankkfplooaaKL2
namespace Go.Proofs.Ytobbankkfplooaa.K
open Go.Shelf Go.RowKit Go.Joins
attribute [local go_sem] Oper.semAt_some

def mk5 (k : Int) : Rc := ⟨k, k + 1, k + 1 + 1, k + 1 + 1 + 1, mtx (k + 1 + 1 + 1 + 1)⟩
def mkRs (k : Int) (n : Nat) : List Rc := (List.range n).map fun i : Nat => mk5 (k + 5 * (i : Int))
theorem mkRs_get {k : Int} {n i : Nat} (h : i < n) : (mkRs k n)[i]? = some (mk5 (k + 5 * i)) := by simp [mkRs, h]
theorem mkRs_len (k : Int) (n : Nat) : (mkRs k n).length = n := by simp [mkRs]
theorem ow_some {α : Type} {K : Kd α} {W : World} {base n c : Nat} {p : Option Addr} {L : List α} (h : OwG K W base (.slice p n c) L) (h0 : 0 < n) : ∃ g, p = some ⟨g, 0, none⟩ := by
  obtain ⟨g, off, rfl, _⟩ := (OwG.sl h).at (k := 0) (by have := OwG.len h; omega)
  have hz := OwG.zero h
  subst hz
  exact ⟨g, rfl⟩
end Go.Proofs.Ytobbankkfplooaa.K
