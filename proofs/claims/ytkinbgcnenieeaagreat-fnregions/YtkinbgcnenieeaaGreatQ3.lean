/-
  Papers: lists of Clauses copied, a paper told; Minted, the program's and the spec's.
-/
import Derived.Test.YtkinbgcnenieeaaGreatQ2
import Derived.Test.YtkinbgcnenieeaaGreatZ3
namespace Go.Proofs.YtkinbgcnenieeaaGreat
open Go.Shelf Go.RowKit Go.Joins M
attribute [local go_sem] Oper.semAt_some

theorem appQ : Ap kQ 24 (.agg #[.slice none 0 0, .slice none 0 0, .int .i64 0]) 56 := ⟨Tryz.underlying24, info39, rfl, by decide, by decide⟩
/-- Every list of these Clauses lies somewhere, or is nil. -/
def okQ (QL : List CQ) : Prop := ∀ q ∈ QL, okv q.2.1 ∧ okv q.2.2
def sm6 (QL : List CQ) : Prop := ∀ q ∈ QL, q.2.1.n ≤ 1100000 ∧ q.2.2.n ≤ 1100000
theorem tr_app {w W : World} {v : Value} {X : List CQ} {c : Cl} {s t : Sv} {b : Rw} (h : Sg w W ([rG kC s.v c.rd, rG kC t.v c.wr, b] ++ rG kQ v (X ++ [(c, s, t)]) :: X.flatMap fun q => clR q.1 q.2.1 q.2.2)) : Sg w W (trX v (X ++ [(c, s, t)]) []) := by
  refine tr_more (q := (c, s, t)) (R := []) ?_
  refine h.sub ?_
  exact ((List.sublist_cons_self b _).cons_cons _).cons_cons _
end Go.Proofs.YtkinbgcnenieeaaGreat
