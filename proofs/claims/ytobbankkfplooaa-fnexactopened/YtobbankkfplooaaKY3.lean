/-
  A Shard in memory; whether it is right, the program's look and the spec's.
-/
import Derived.Test.YtobbankkfplooaaKY2
import Derived.Test.YtobbankkfplooaaKIB3
import Derived.Test.YtobbankkfplooaaKB3
namespace Go.Proofs.Ytobbankkfplooaa.K.Y
open Go.Shelf Go.RowKit Go.Joins
attribute [local go_sem] Oper.semAt_some

/-- A Shard's cells. -/
structure Hv where
  r : Sv
  y : Sv
  o : Sv
  g : ByteArray
  s : Int
abbrev Hv.v (h : Hv) : Value := .agg #[.slice h.r.p h.r.n h.r.c, .slice h.y.p h.y.n h.y.c, .slice h.o.p h.o.n h.o.c, .string h.g, .int .i64 h.s]
def zhv : Hv := ⟨⟨none, 0, 0⟩, ⟨none, 0, 0⟩, ⟨none, 0, 0⟩, ByteArray.empty, 0⟩
theorem sh5 {w W : World} {rs : List Rw} (h : Sg w W rs) {K : Kd Hv} {g n : Nat} {q : Hv} (hm : rG K (.slice (some ⟨g, 0, none⟩) 1 n) [q] ∈ rs) (hv : K.vs q = [.slice q.r.p q.r.n q.r.c, .slice q.y.p q.y.n q.y.c, .slice q.o.p q.o.n q.o.c, .string q.g, .int .i64 q.s]) :
    W.cell? ⟨g, 0, none⟩ = some (.slice q.r.p q.r.n q.r.c) ∧ W.cell? ⟨g, 1, none⟩ = some (.slice q.y.p q.y.n q.y.c) ∧ W.cell? ⟨g, 2, none⟩ = some (.slice q.o.p q.o.n q.o.c) ∧ W.cell? ⟨g, 3, none⟩ = some (.string q.g) ∧ W.cell? ⟨g, 4, none⟩ = some (.int .i64 q.s) ∧ (∀ o, W.frozen? ⟨g, o, none⟩ = false) ∧ g < W.heap.size := by
  have ho := h.mem hm
  have hC := OwG.cs ho
  have f := fun i u hu => hC.at (k := 0) (a := q) rfl (i := i) (u := u) hu
  simp only [Nat.zero_mul, Nat.zero_add, hv] at f
  exact ⟨f 0 _ rfl, f 1 _ rfl, f 2 _ rfl, f 3 _ rfl, f 4 _ rfl, OwG.fz ho, hC.1⟩
end Go.Proofs.Ytobbankkfplooaa.K.Y
