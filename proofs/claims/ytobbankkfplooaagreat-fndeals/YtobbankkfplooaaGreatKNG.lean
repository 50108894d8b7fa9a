/-
  Lists of numbers: a sorted copy, whether they rise, whether all are right; made the program's.
-/
import Derived.Test.YtobbankkfplooaaGreatKIG4
import Derived.Test.YtobbankkfplooaaGreatKL4
namespace Go.Proofs
open Go.Shelf
end Go.Proofs
namespace Go.Proofs.YtobbankkfplooaaGreat.K.N
open Go.Shelf Go.RowKit Go.Joins
attribute [local go_sem] Oper.semAt_some

def encN (n : Int) : Value := .int .i64 n
theorem flatI : ∀ L : List Int, kI.flat L = L.map encN
  | [] => rfl
  | a :: t => by rw [Kd.flat_cons, flatI t]; rfl
theorem oneIs (L : List Int) : ∀ u ∈ kI.flat L, u.oneCell' = true := fun u hu => by rw [flatI, List.mem_map] at hu; obtain ⟨n, _, rfl⟩ := hu; rfl
theorem madeI (n : Nat) : (madeCells #[.int .i64 0] n).toList = kI.flat (List.replicate n 0) := by
  rw [flatI]
  refine List.ext_getElem? fun i => ?_
  by_cases hi : i < n
  · simp [madeCells, hi, encN, Nat.mod_one]
  · rw [List.getElem?_eq_none (by simp [madeCells]; omega), List.getElem?_eq_none (by simp; omega)]
end Go.Proofs.YtobbankkfplooaaGreat.K.N
