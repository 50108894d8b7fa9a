/-
  Boxes (a struct behind a pointer) beside lists: each is a row of one element.
-/
import Derived.Test.YtipfcmfcdfofmaaGreatP2
namespace Go.Proofs.YtipfcmfcdfofmaaGreat
open Go.RowKit Go.Joins

def kF : Kd (Int × Sv) := ⟨152, 2, fun p => [.int .i64 p.1, .slice p.2.p p.2.n p.2.c], fun _ => rfl⟩
theorem Sg.setRaw {w W : World} {A Bs : List Rw} {g n c s : Nat} {e : TypeId} {xs : List Value} (h : Sg w W (A ++ ⟨.slice (some ⟨g, 0, none⟩) n c, e, s, n, xs⟩ :: Bs)) (j : Nat) (u : Value) : Sg w (W.setCell ⟨g, j, none⟩ u) (A ++ ⟨.slice (some ⟨g, 0, none⟩) n c, e, s, n, xs.set j u⟩ :: Bs) := by
  have ho : W.ownsRow w.heap.size e s (.slice (some ⟨g, 0, none⟩) n c) n xs := h.own ⟨.slice (some ⟨g, 0, none⟩) n c, e, s, n, xs⟩ (by simp)
  obtain ⟨h1, h2⟩ := own_set ho j u
  exact h.put (r' := ⟨.slice (some ⟨g, 0, none⟩) n c, e, s, n, xs.set j u⟩) rfl h1 h2
theorem Sg.setBox {w W : World} {A Bs : List Rw} {g c : Nat} {b : T4} {lf : Bool} {ps : List Int} {v : Sv} (h : Sg w W (A ++ rG kN (.slice (some ⟨g, 0, none⟩) 1 c) [(⟨b, lf, ps⟩, v)] :: Bs)) (b' : T4) :
    Sg w ((((W.setCell ⟨g, 0, none⟩ (.int .i64 b'.x)).setCell ⟨g, 1, none⟩ (.int .i64 b'.y)).setCell ⟨g, 2, none⟩ (.int .i64 b'.w)).setCell ⟨g, 3, none⟩ (.int .i64 b'.h)) (A ++ rG kN (.slice (some ⟨g, 0, none⟩) 1 c) [(⟨b', lf, ps⟩, v)] :: Bs) :=
  (((Sg.setRaw h 0 (.int .i64 b'.x)).setRaw 1 (.int .i64 b'.y)).setRaw 2 (.int .i64 b'.w)).setRaw 3 (.int .i64 b'.h)
theorem Sg.setPart {w W : World} {A Bs : List Rw} {g c : Nat} {p : Nd} {v : Sv} (h : Sg w W (A ++ rG kN (.slice (some ⟨g, 0, none⟩) 1 c) [(p, v)] :: Bs)) (v' : Sv) :
    Sg w (W.setCell ⟨g, 5, none⟩ (.slice v'.p v'.n v'.c)) (A ++ rG kN (.slice (some ⟨g, 0, none⟩) 1 c) [(p, v')] :: Bs) := Sg.setRaw h 5 (.slice v'.p v'.n v'.c)
theorem Sg.setNd {w W : World} {A Bs : List Rw} {g c : Nat} {p : Nd × Sv} (h : Sg w W (A ++ rG kN (.slice (some ⟨g, 0, none⟩) 1 c) [p] :: Bs)) (q : Nd × Sv) :
    Sg w ((((((W.setCell ⟨g, 0, none⟩ (.int .i64 q.1.b.x)).setCell ⟨g, 1, none⟩ (.int .i64 q.1.b.y)).setCell ⟨g, 2, none⟩ (.int .i64 q.1.b.w)).setCell ⟨g, 3, none⟩ (.int .i64 q.1.b.h)).setCell ⟨g, 4, none⟩ (.bool q.1.lf)).setCell ⟨g, 5, none⟩ (.slice q.2.p q.2.n q.2.c)) (A ++ rG kN (.slice (some ⟨g, 0, none⟩) 1 c) [q] :: Bs) :=
  (((((Sg.setRaw h 0 (.int .i64 q.1.b.x)).setRaw 1 (.int .i64 q.1.b.y)).setRaw 2 (.int .i64 q.1.b.w)).setRaw 3 (.int .i64 q.1.b.h)).setRaw 4 (.bool q.1.lf)).setRaw 5 (.slice q.2.p q.2.n q.2.c)
theorem Sg.setT {w W : World} {A Bs : List Rw} {g c : Nat} {p : Sv × Sv} (h : Sg w W (A ++ rG kT (.slice (some ⟨g, 0, none⟩) 1 c) [p] :: Bs)) (q : Sv × Sv) :
    Sg w ((W.setCell ⟨g, 0, none⟩ (.slice q.1.p q.1.n q.1.c)).setCell ⟨g, 1, none⟩ (.slice q.2.p q.2.n q.2.c)) (A ++ rG kT (.slice (some ⟨g, 0, none⟩) 1 c) [q] :: Bs) := (Sg.setRaw h 0 (.slice q.1.p q.1.n q.1.c)).setRaw 1 (.slice q.2.p q.2.n q.2.c)
theorem Sg.setT1 {w W : World} {A Bs : List Rw} {g c : Nat} {a b : Sv} (h : Sg w W (A ++ rG kT (.slice (some ⟨g, 0, none⟩) 1 c) [(a, b)] :: Bs)) (u : Sv) :
    Sg w (W.setCell ⟨g, 1, none⟩ (.slice u.p u.n u.c)) (A ++ rG kT (.slice (some ⟨g, 0, none⟩) 1 c) [(a, u)] :: Bs) := Sg.setRaw h 1 (.slice u.p u.n u.c)
theorem OwG.fz {α : Type} {K : Kd α} {W : World} {base g n c : Nat} {L : List α} (h : OwG K W base (.slice (some ⟨g, 0, none⟩) n c) L) : ∀ j, W.frozen? ⟨g, j, none⟩ = false := by
  have hn := OwG.len h
  subst hn
  exact h.frozenAt
/-- What a Node's box tells. -/
theorem Sg.nd1 {w W : World} {rs : List Rw} {g c : Nat} {p : Nd × Sv} (h : Sg w W rs) (hm : rG kN (.slice (some ⟨g, 0, none⟩) 1 c) [p] ∈ rs) :
    (W.cell? ⟨g, 0, none⟩ = some (.int .i64 p.1.b.x) ∧ W.cell? ⟨g, 1, none⟩ = some (.int .i64 p.1.b.y) ∧ W.cell? ⟨g, 2, none⟩ = some (.int .i64 p.1.b.w) ∧ W.cell? ⟨g, 3, none⟩ = some (.int .i64 p.1.b.h) ∧ W.cell? ⟨g, 4, none⟩ = some (.bool p.1.lf) ∧ W.cell? ⟨g, 5, none⟩ = some (.slice p.2.p p.2.n p.2.c)) ∧ (∀ j, W.frozen? ⟨g, j, none⟩ = false) ∧ g < W.heap.size := by
  have ho := h.mem hm
  have hc := (OwG.cs ho).nd (k := 0) (p := p) rfl
  simp only [Nat.zero_mul, Nat.zero_add] at hc
  exact ⟨hc, OwG.fz ho, (OwG.cs ho).1⟩
theorem Sg.two {α : Type} {K : Kd α} {w W : World} {rs : List Rw} {g c : Nat} {p : α} {a b : Value} (h : Sg w W rs) (hm : rG K (.slice (some ⟨g, 0, none⟩) 1 c) [p] ∈ rs) (hv : K.vs p = [a, b]) :
    W.cell? ⟨g, 0, none⟩ = some a ∧ W.cell? ⟨g, 1, none⟩ = some b ∧ (∀ j, W.frozen? ⟨g, j, none⟩ = false) ∧ g < W.heap.size := by
  have ho := h.mem hm
  have h0 := (OwG.cs ho).at (k := 0) (a := p) rfl (i := 0) (u := a) (by rw [hv]; rfl)
  have h1 := (OwG.cs ho).at (k := 0) (a := p) rfl (i := 1) (u := b) (by rw [hv]; rfl)
  simp only [Nat.zero_mul, Nat.zero_add] at h0 h1
  exact ⟨h0, h1, OwG.fz ho, (OwG.cs ho).1⟩
end Go.Proofs.YtipfcmfcdfofmaaGreat
