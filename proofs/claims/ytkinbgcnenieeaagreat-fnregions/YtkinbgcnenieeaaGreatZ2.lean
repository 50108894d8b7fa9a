/-
  The law's Papers: sizes, made the program's, compared.
-/
import Derived.Test.YtkinbgcnenieeaaGreatZ1
namespace Go.Proofs.YtkinbgcnenieeaaGreat
open Go.Shelf Go.RowKit Go.Joins M
attribute [local go_sem] Oper.semAt_some

def smQ (QL : List CQ) : Prop := ∀ q ∈ QL, q.2.1.n ≤ 10000000 ∧ q.2.2.n ≤ 10000000
/-- A Paper's struct. -/
structure Pv where
  tn : Int
  s : Sv
  tag : Int
def kP : Kd Pv := ⟨26, 3, fun q => [.int .i64 q.tn, .slice q.s.p q.s.n q.s.c, .int .i64 q.tag], fun _ => rfl⟩
theorem Sg.setP0 {w W : World} {A Bs : List Rw} {g n : Nat} {a : Pv} (h : Sg w W (A ++ rG kP (.slice (some ⟨g, 0, none⟩) 1 n) [a] :: Bs)) (x : Int) :
    Sg w (W.setCell ⟨g, 0, none⟩ (.int .i64 x)) (A ++ rG kP (.slice (some ⟨g, 0, none⟩) 1 n) [⟨x, a.s, a.tag⟩] :: Bs) := Sg.setRaw h 0 (.int .i64 x)
theorem Sg.setP1 {w W : World} {A Bs : List Rw} {g n : Nat} {a : Pv} (h : Sg w W (A ++ rG kP (.slice (some ⟨g, 0, none⟩) 1 n) [a] :: Bs)) (u : Sv) :
    Sg w (W.setCell ⟨g, 1, none⟩ (.slice u.p u.n u.c)) (A ++ rG kP (.slice (some ⟨g, 0, none⟩) 1 n) [⟨a.tn, u, a.tag⟩] :: Bs) := Sg.setRaw h 1 (.slice u.p u.n u.c)
theorem Sg.setP2 {w W : World} {A Bs : List Rw} {g n : Nat} {a : Pv} (h : Sg w W (A ++ rG kP (.slice (some ⟨g, 0, none⟩) 1 n) [a] :: Bs)) (x : Int) :
    Sg w (W.setCell ⟨g, 2, none⟩ (.int .i64 x)) (A ++ rG kP (.slice (some ⟨g, 0, none⟩) 1 n) [⟨a.tn, a.s, x⟩] :: Bs) := Sg.setRaw h 2 (.int .i64 x)
theorem Sg.setP {w W : World} {A Bs : List Rw} {g n : Nat} {a : Pv} (h : Sg w W (A ++ rG kP (.slice (some ⟨g, 0, none⟩) 1 n) [a] :: Bs)) (q : Pv) :
    Sg w (((W.setCell ⟨g, 0, none⟩ (.int .i64 q.tn)).setCell ⟨g, 1, none⟩ (.slice q.s.p q.s.n q.s.c)).setCell ⟨g, 2, none⟩ (.int .i64 q.tag)) (A ++ rG kP (.slice (some ⟨g, 0, none⟩) 1 n) [q] :: Bs) :=
  ((Sg.setRaw h 0 (.int .i64 q.tn)).setRaw 1 (.slice q.s.p q.s.n q.s.c)).setRaw 2 (.int .i64 q.tag)
def zpv : Pv := ⟨0, zsv, 0⟩
end Go.Proofs.YtkinbgcnenieeaaGreat
