/-
  RecordsOk, the program's and the spec's.
-/
import Derived.Test.YtobbankkfplooaaKFq
namespace Go.Proofs.Ytobbankkfplooaa.K
open Go.RowKit Go.Joins
attribute [local go_sem] Oper.semAt_some

theorem recsB_eq {L : List Rc} {n : Nat} (hn : L.length = n) : recsB L = (decide (n ≤ 400) && (L.all recB && riseB L)) := by unfold recsB; rw [hn]
theorem rise_snoc {L : List Rc} {k : Nat} {a b : Rc} (h1 : L[k]? = some a) (h2 : L[k + 1]? = some b) (h : riseB (L.take (k + 1)) = true) (hl : lessB a b = true) : riseB (L.take (k + 2)) = true := by
  refine rise_of fun i x y hx hy => ?_
  have hi := (List.getElem?_eq_some_iff.1 hy).1
  rw [List.length_take] at hi
  rw [List.getElem?_take_of_lt (by omega)] at hx hy
  by_cases e : i = k
  · subst e; rw [h1] at hx; rw [h2] at hy; cases hx; cases hy; exact hl
  · exact rise_at h (i := i) (j := i + 1) (by omega) (by rw [List.getElem?_take_of_lt (by omega)]; exact hx) (by rw [List.getElem?_take_of_lt (by omega)]; exact hy)
theorem recs_no1 {L : List Rc} {k : Nat} {r : Rc} (hg : L[k]? = some r) (h : recB r = false) : recsB L = false := by
  unfold recsB; rw [all_no hg h]; simp
theorem recs_no2 {L : List Rc} {k : Nat} {a b : Rc} (h1 : L[k]? = some a) (h2 : L[k + 1]? = some b) (h : lessB a b = false) : recsB L = false := by
  unfold recsB; rw [rise_no h1 h2 h]; simp
end Go.Proofs.Ytobbankkfplooaa.K
