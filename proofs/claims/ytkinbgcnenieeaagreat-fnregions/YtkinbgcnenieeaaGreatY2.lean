/-
  The law's Clause made the program's; the law of ClauseText.
-/
import Derived.Test.YtkinbgcnenieeaaGreatY1
namespace Go.Proofs.YtkinbgcnenieeaaGreat
open Go.Shelf Go.RowKit Go.Joins M
attribute [local go_sem] Oper.semAt_some

theorem Sg.setQ0 {w W : World} {A Bs : List Rw} {g n : Nat} {c : Cl} {a b : Sv} (h : Sg w W (A ++ rG kQ (.slice (some ⟨g, 0, none⟩) 1 n) [(c, a, b)] :: Bs)) (u : Sv) :
    Sg w (W.setCell ⟨g, 0, none⟩ (.slice u.p u.n u.c)) (A ++ rG kQ (.slice (some ⟨g, 0, none⟩) 1 n) [(c, u, b)] :: Bs) := Sg.setRaw h 0 (.slice u.p u.n u.c)
theorem Sg.setQ1 {w W : World} {A Bs : List Rw} {g n : Nat} {c : Cl} {a b : Sv} (h : Sg w W (A ++ rG kQ (.slice (some ⟨g, 0, none⟩) 1 n) [(c, a, b)] :: Bs)) (u : Sv) :
    Sg w (W.setCell ⟨g, 1, none⟩ (.slice u.p u.n u.c)) (A ++ rG kQ (.slice (some ⟨g, 0, none⟩) 1 n) [(c, a, u)] :: Bs) := Sg.setRaw h 1 (.slice u.p u.n u.c)
theorem Sg.setQ2 {w W : World} {A Bs : List Rw} {g n : Nat} {c : Cl} {a b : Sv} (h : Sg w W (A ++ rG kQ (.slice (some ⟨g, 0, none⟩) 1 n) [(c, a, b)] :: Bs)) (d : Cl) :
    Sg w (W.setCell ⟨g, 2, none⟩ (.int .i64 d.un)) (A ++ rG kQ (.slice (some ⟨g, 0, none⟩) 1 n) [(d, a, b)] :: Bs) := Sg.setRaw h 2 (.int .i64 d.un)
theorem Sg.setQ {w W : World} {A Bs : List Rw} {g n : Nat} {p : Cl × Sv × Sv} (h : Sg w W (A ++ rG kQ (.slice (some ⟨g, 0, none⟩) 1 n) [p] :: Bs)) (q : Cl × Sv × Sv) :
    Sg w (((W.setCell ⟨g, 0, none⟩ (.slice q.2.1.p q.2.1.n q.2.1.c)).setCell ⟨g, 1, none⟩ (.slice q.2.2.p q.2.2.n q.2.2.c)).setCell ⟨g, 2, none⟩ (.int .i64 q.1.un)) (A ++ rG kQ (.slice (some ⟨g, 0, none⟩) 1 n) [q] :: Bs) :=
  ((Sg.setRaw h 0 (.slice q.2.1.p q.2.1.n q.2.1.c)).setRaw 1 (.slice q.2.2.p q.2.2.n q.2.2.c)).setRaw 2 (.int .i64 q.1.un)
/-- The rows of a Clause. -/
def clR (c : Cl) (s t : Sv) : List Rw := [rG kC s.v c.rd, rG kC t.v c.wr]
theorem Sg.rdQ {w W : World} {rs : List Rw} {c : Cl} {s t : Sv} (h : Sg w W rs) (hm : ∀ r ∈ clR c s t, r ∈ rs) (b1 : s.n ≤ 10000000) (b2 : t.n ≤ 10000000) : RdQ W c s t := by
  have o1 := h.mem (K := kC) (v := .slice s.p s.n s.c) (L := c.rd) (hm _ (by simp [clR, Sv.v]))
  have o2 := h.mem (K := kC) (v := .slice t.p t.n t.c) (L := c.wr) (hm _ (by simp [clR, Sv.v]))
  exact ⟨OwG.sl o1, (OwG.len o1).symm, OwG.sl o2, (OwG.len o2).symm, b1, b2⟩

end Go.Proofs.YtkinbgcnenieeaaGreat
