/-
  Papers compared; the law of Genuine, walked.
-/
import Derived.Test.YtbkiogedipmioaaGreatVP7
import Derived.Test.YtbkiogedipmioaaGreatVPA
namespace Go.Proofs.YtbkiogedipmioaaGreat.V
open Go.Shelf Go.RowKit Go.Joins M
attribute [local go_sem] Oper.semAt_some

theorem set3 {xs : List Value} {i : Nat} (h : i + 3 ≤ xs.length) (a b c : Value) : ((xs.set i a).set (i + 1) b).set (i + 2) c = xs.take i ++ [a, b, c] ++ xs.drop (i + 3) := by
  refine List.ext_getElem? fun j => ?_
  simp only [List.getElem?_append, List.length_append, List.length_take, List.length_cons, List.length_nil, List.getElem?_drop]
  have hmin : min i xs.length = i := by omega
  rw [hmin]
  by_cases h1 : j < i
  · rw [if_pos (by omega), if_pos h1, List.getElem?_set_ne (by omega), List.getElem?_set_ne (by omega), List.getElem?_set_ne (by omega), List.getElem?_take_of_lt h1]
  · by_cases h2 : j < i + 3
    · rw [if_pos (by omega), if_neg h1]
      have : j = i ∨ j = i + 1 ∨ j = i + 2 := by omega
      rcases this with rfl | rfl | rfl
      · rw [List.getElem?_set_ne (by omega), List.getElem?_set_ne (by omega), List.getElem?_set_self (by omega)]; simp
      · rw [List.getElem?_set_ne (by omega), List.getElem?_set_self (by simp; omega)]; simp
      · rw [List.getElem?_set_self (by simp; omega)]; simp
    · rw [if_neg (by omega), List.getElem?_set_ne (by omega), List.getElem?_set_ne (by omega), List.getElem?_set_ne (by omega)]
      congr 1; omega
theorem Sg.setC {w W : World} {A Bs : List Rw} {g n c : Nat} {M : List T3} (h : Sg w W (A ++ rG kC (.slice (some ⟨g, 0, none⟩) n c) M :: Bs)) {k : Nat} (hk : k < M.length) (m : T3) :
    Sg w (((W.setCell ⟨g, k * 3, none⟩ (.int .i64 m.l)).setCell ⟨g, k * 3 + 1, none⟩ (.int .i64 m.x)).setCell ⟨g, k * 3 + 2, none⟩ (.int .i64 m.y)) (A ++ rG kC (.slice (some ⟨g, 0, none⟩) n c) (M.set k m) :: Bs) := by
  have ho : OwG kC W w.heap.size (.slice (some ⟨g, 0, none⟩) n c) M := h.mem (by simp)
  have hn := OwG.len ho
  subst hn
  have h1 := ((Sg.setRaw h (k * 3) (.int .i64 m.l)).setRaw (k * 3 + 1) (.int .i64 m.x)).setRaw (k * 3 + 2) (.int .i64 m.y)
  have hl := Kd.flat_len (K := kC) M
  have e : kC.flat (M.set k m) = (((kC.flat M).set (k * 3) (.int .i64 m.l)).set (k * 3 + 1) (.int .i64 m.x)).set (k * 3 + 2) (.int .i64 m.y) := by
    rw [set3 (by rw [hl]; show k * 3 + 3 ≤ M.length * 3; omega), Kd.flat_set m hk]; rfl
  have e2 : rG kC (.slice (some ⟨g, 0, none⟩) M.length c) (M.set k m) = ⟨.slice (some ⟨g, 0, none⟩) M.length c, 89, 3, M.length, (((kC.flat M).set (k * 3) (.int .i64 m.l)).set (k * 3 + 1) (.int .i64 m.x)).set (k * 3 + 2) (.int .i64 m.y)⟩ := by
    unfold rG; rw [e, List.length_set]; rfl
  rw [e2]; exact h1
theorem made_flatC (n : Nat) : (madeCells #[.int .i64 0, .int .i64 0, .int .i64 0] (n * 3)).toList = kC.flat (List.replicate n z3) := by
  refine List.ext_getElem? fun i => ?_
  have hl : (kC.flat (List.replicate n z3)).length = n * 3 := by rw [Kd.flat_len]; simp [kC]
  by_cases hi : i < n * 3
  · have h6 : i / 3 < n := by omega
    have hk : (List.replicate n z3)[i / 3]? = some z3 := by simp [h6]
    have hg := Kd.flat_get (K := kC) hk (i := i % 3) (Nat.mod_lt _ (by decide))
    have e3 : i / 3 * kC.n + i % 3 = i := by show i / 3 * 3 + i % 3 = i; omega
    rw [e3] at hg
    rw [hg]
    have hm : i % 3 = 0 ∨ i % 3 = 1 ∨ i % 3 = 2 := by omega
    rcases hm with hm | hm | hm <;> simp [madeCells, hi, hm, kC, z3]
  · rw [List.getElem?_eq_none (by simp [madeCells]; omega), List.getElem?_eq_none (by omega)]
/-- What a size leaves: -1, or the rest. -/
def szR (z : Int) (n : Nat) (r : Int) : Prop := (r = -1 ∧ z < n) ∨ (r = z - n ∧ (n : Int) ≤ z)
end Go.Proofs.YtbkiogedipmioaaGreat.V
namespace Go.Proofs.YtbkiogedipmioaaGreat.V
open Go.Shelf Go.RowKit Go.Joins M
attribute [local go_sem] Oper.semAt_some

theorem Sg.setQ0 {w W : World} {A Bs : List Rw} {g n : Nat} {c : Cl} {a b : Sv} (h : Sg w W (A ++ rG kQ (.slice (some ⟨g, 0, none⟩) 1 n) [(c, a, b)] :: Bs)) (u : Sv) :
    Sg w (W.setCell ⟨g, 0, none⟩ (.slice u.p u.n u.c)) (A ++ rG kQ (.slice (some ⟨g, 0, none⟩) 1 n) [(c, u, b)] :: Bs) := Sg.setRaw h 0 (.slice u.p u.n u.c)
theorem Sg.setQ1 {w W : World} {A Bs : List Rw} {g n : Nat} {c : Cl} {a b : Sv} (h : Sg w W (A ++ rG kQ (.slice (some ⟨g, 0, none⟩) 1 n) [(c, a, b)] :: Bs)) (u : Sv) :
    Sg w (W.setCell ⟨g, 1, none⟩ (.slice u.p u.n u.c)) (A ++ rG kQ (.slice (some ⟨g, 0, none⟩) 1 n) [(c, a, u)] :: Bs) := Sg.setRaw h 1 (.slice u.p u.n u.c)
theorem Sg.setQ2 {w W : World} {A Bs : List Rw} {g n : Nat} {c : Cl} {a b : Sv} (h : Sg w W (A ++ rG kQ (.slice (some ⟨g, 0, none⟩) 1 n) [(c, a, b)] :: Bs)) (d : Cl) :
    Sg w (W.setCell ⟨g, 2, none⟩ (.int .i64 d.un)) (A ++ rG kQ (.slice (some ⟨g, 0, none⟩) 1 n) [(d, a, b)] :: Bs) := Sg.setRaw h 2 (.int .i64 d.un)
theorem Sg.setQ {w W : World} {A Bs : List Rw} {g n : Nat} {p : Cl × Sv × Sv} (h : Sg w W (A ++ rG kQ (.slice (some ⟨g, 0, none⟩) 1 n) [p] :: Bs)) (q : Cl × Sv × Sv) :
    Sg w (((W.setCell ⟨g, 0, none⟩ (.slice q.2.1.p q.2.1.n q.2.1.c)).setCell ⟨g, 1, none⟩ (.slice q.2.2.p q.2.2.n q.2.2.c)).setCell ⟨g, 2, none⟩ (.int .i64 q.1.un)) (A ++ rG kQ (.slice (some ⟨g, 0, none⟩) 1 n) [q] :: Bs) :=
  ((Sg.setRaw h 0 (.slice q.2.1.p q.2.1.n q.2.1.c)).setRaw 1 (.slice q.2.2.p q.2.2.n q.2.2.c)).setRaw 2 (.int .i64 q.1.un)
/-- The rows of a Clause. -/
def clR (c : Cl) (s t : Sv) : List Rw := [rG kC s.v c.rd, rG kC t.v c.wr]
theorem Sg.rdQ {w W : World} {rs : List Rw} {c : Cl} {s t : Sv} (h : Sg w W rs) (hm : ∀ r ∈ clR c s t, r ∈ rs) (b1 : s.n ≤ 10000000) (b2 : t.n ≤ 10000000) : RdQ W c s t := by
  have o1 := h.mem (K := kC) (v := .slice s.p s.n s.c) (L := c.rd) (hm _ (by simp [clR, Sv.v]))
  have o2 := h.mem (K := kC) (v := .slice t.p t.n t.c) (L := c.wr) (hm _ (by simp [clR, Sv.v]))
  exact ⟨OwG.sl o1, (OwG.len o1).symm, OwG.sl o2, (OwG.len o2).symm, b1, b2⟩

end Go.Proofs.YtbkiogedipmioaaGreat.V
namespace Go.Proofs.YtbkiogedipmioaaGreat.V
open Go.Shelf Go.RowKit Go.Joins M
attribute [local go_sem] Oper.semAt_some

/-- The rows of a list of Clauses, of which X are made. -/
def trX (v : Value) (X R : List CQ) : List Rw := rG kQ v (X ++ R) :: X.flatMap fun q => clR q.1 q.2.1 q.2.2
theorem Sg.setQAt {w W : World} {A Bs : List Rw} {g n c : Nat} {X Y : List CQ} {p : CQ} (h : Sg w W (A ++ rG kQ (.slice (some ⟨g, 0, none⟩) n c) (X ++ p :: Y) :: Bs)) (q : CQ) {o : Nat} (ho : o = X.length * 3) :
    Sg w (((W.setCell ⟨g, o, none⟩ (.slice q.2.1.p q.2.1.n q.2.1.c)).setCell ⟨g, o + 1, none⟩ (.slice q.2.2.p q.2.2.n q.2.2.c)).setCell ⟨g, o + 2, none⟩ (.int .i64 q.1.un)) (A ++ rG kQ (.slice (some ⟨g, 0, none⟩) n c) (X ++ q :: Y) :: Bs) := by
  have hn := OwG.len (h.mem (K := kQ) (v := .slice (some ⟨g, 0, none⟩) n c) (L := X ++ p :: Y) (by simp))
  subst hn
  have h1 := ((Sg.setRaw h o (.slice q.2.1.p q.2.1.n q.2.1.c)).setRaw (o + 1) (.slice q.2.2.p q.2.2.n q.2.2.c)).setRaw (o + 2) (.int .i64 q.1.un)
  have hl : (kQ.flat X).length = o := by rw [Kd.flat_len, ho]; rfl
  have e : ∀ q : CQ, kQ.flat (X ++ q :: Y) = kQ.flat X ++ (kQ.vs q ++ kQ.flat Y) := fun q => by rw [Kd.flat_append, Kd.flat_cons]
  have e2 : rG kQ (.slice (some ⟨g, 0, none⟩) (X ++ p :: Y).length c) (X ++ q :: Y) = ⟨.slice (some ⟨g, 0, none⟩) (X ++ p :: Y).length c, 110, 3, (X ++ p :: Y).length, (((kQ.flat (X ++ p :: Y)).set o (.slice q.2.1.p q.2.1.n q.2.1.c)).set (o + 1) (.slice q.2.2.p q.2.2.n q.2.2.c)).set (o + 2) (.int .i64 q.1.un)⟩ := by
    unfold rG
    rw [e, e]
    have s0 : ∀ (zs : List Value) (j : Nat) (u : Value), (kQ.flat X ++ zs).set (o + j) u = kQ.flat X ++ zs.set j u := fun zs j u => by
      rw [List.set_append_right _ _ (by omega), hl]; congr 2; omega
    have := s0 (kQ.vs p ++ kQ.flat Y) 0 (.slice q.2.1.p q.2.1.n q.2.1.c)
    rw [Nat.add_zero] at this
    rw [this, s0, s0]
    simp [kQ]
  rw [e2]; exact h1
theorem made_flatQ (n : Nat) : (madeCells #[.slice none 0 0, .slice none 0 0, .int .i64 0] (n * 3)).toList = kQ.flat (List.replicate n zq) := by
  refine List.ext_getElem? fun i => ?_
  have hl : (kQ.flat (List.replicate n zq)).length = n * 3 := by rw [Kd.flat_len]; simp [kQ]
  by_cases hi : i < n * 3
  · have h6 : i / 3 < n := by omega
    have hk : (List.replicate n zq)[i / 3]? = some zq := by simp [h6]
    have hg := Kd.flat_get (K := kQ) hk (i := i % 3) (Nat.mod_lt _ (by decide))
    have e3 : i / 3 * kQ.n + i % 3 = i := by show i / 3 * 3 + i % 3 = i; omega
    rw [e3] at hg
    rw [hg]
    have hm : i % 3 = 0 ∨ i % 3 = 1 ∨ i % 3 = 2 := by omega
    rcases hm with hm | hm | hm <;> simp [madeCells, hi, hm, kQ, zq, zcl, zsv]
  · rw [List.getElem?_eq_none (by simp [madeCells]; omega), List.getElem?_eq_none (by omega)]
theorem tr_more {w W : World} {v : Value} {X R : List CQ} {q : CQ} (h : Sg w W (clR q.1 q.2.1 q.2.2 ++ rG kQ v (X ++ q :: R) :: X.flatMap fun q => clR q.1 q.2.1 q.2.2)) : Sg w W (trX v (X ++ [q]) R) := by
  unfold trX
  refine h.perm ?_
  rw [List.flatMap_append, List.append_assoc]
  refine (List.perm_append_comm (l₁ := clR q.1 q.2.1 q.2.2)).trans ?_
  simp only [List.flatMap_cons, List.flatMap_nil, List.append_nil, List.cons_append, List.nil_append]
  exact List.Perm.refl _
theorem take_getQ {L : List CQ} {k : Nat} (hk : k < L.length) : L.take (k + 1) = L.take k ++ [L.getD k zq] := by
  rw [List.take_succ_eq_append_getElem hk]; simp [List.getD, hk]
end Go.Proofs.YtbkiogedipmioaaGreat.V
namespace Go.Proofs.YtbkiogedipmioaaGreat.V
open Go.Shelf Go.RowKit Go.Joins M
attribute [local go_sem] Oper.semAt_some

def smQ (QL : List CQ) : Prop := ∀ q ∈ QL, q.2.1.n ≤ 10000000 ∧ q.2.2.n ≤ 10000000
/-- A Paper's struct. -/
structure Pv where
  tn : Int
  s : Sv
  tag : Int
def kP : Kd Pv := ⟨26, 3, fun q => [.int .i64 q.tn, .slice q.s.p q.s.n q.s.c, .int .i64 q.tag], fun _ => rfl⟩
theorem Sg.setP0 {w W : World} {A Bs : List Rw} {g n : Nat} {a : Pv} (h : Sg w W (A ++ rG kP (.slice (some ⟨g, 0, none⟩) 1 n) [a] :: Bs)) (x : Int) :
    Sg w (W.setCell ⟨g, 0, none⟩ (.int .i64 x)) (A ++ rG kP (.slice (some ⟨g, 0, none⟩) 1 n) [⟨x, a.s, a.tag⟩] :: Bs) := Sg.setRaw h 0 (.int .i64 x)
theorem Sg.setP1 {w W : World} {A Bs : List Rw} {g n : Nat} {a : Pv} (h : Sg w W (A ++ rG kP (.slice (some ⟨g, 0, none⟩) 1 n) [a] :: Bs)) (u : Sv) :
    Sg w (W.setCell ⟨g, 1, none⟩ (.slice u.p u.n u.c)) (A ++ rG kP (.slice (some ⟨g, 0, none⟩) 1 n) [⟨a.tn, u, a.tag⟩] :: Bs) := Sg.setRaw h 1 (.slice u.p u.n u.c)
theorem Sg.setP2 {w W : World} {A Bs : List Rw} {g n : Nat} {a : Pv} (h : Sg w W (A ++ rG kP (.slice (some ⟨g, 0, none⟩) 1 n) [a] :: Bs)) (x : Int) :
    Sg w (W.setCell ⟨g, 2, none⟩ (.int .i64 x)) (A ++ rG kP (.slice (some ⟨g, 0, none⟩) 1 n) [⟨a.tn, a.s, x⟩] :: Bs) := Sg.setRaw h 2 (.int .i64 x)
theorem Sg.setP {w W : World} {A Bs : List Rw} {g n : Nat} {a : Pv} (h : Sg w W (A ++ rG kP (.slice (some ⟨g, 0, none⟩) 1 n) [a] :: Bs)) (q : Pv) :
    Sg w (((W.setCell ⟨g, 0, none⟩ (.int .i64 q.tn)).setCell ⟨g, 1, none⟩ (.slice q.s.p q.s.n q.s.c)).setCell ⟨g, 2, none⟩ (.int .i64 q.tag)) (A ++ rG kP (.slice (some ⟨g, 0, none⟩) 1 n) [q] :: Bs) :=
  ((Sg.setRaw h 0 (.int .i64 q.tn)).setRaw 1 (.slice q.s.p q.s.n q.s.c)).setRaw 2 (.int .i64 q.tag)
def zpv : Pv := ⟨0, zsv, 0⟩
end Go.Proofs.YtbkiogedipmioaaGreat.V
namespace Go.Proofs.YtbkiogedipmioaaGreat.V
open Go.Shelf Go.RowKit Go.Joins M
attribute [local go_sem] Oper.semAt_some

theorem Sg.rdS {w W : World} {rs : List Rw} {p : Option Addr} {n c : Nat} {QL : List CQ} (h : Sg w W rs) (hs : smQ QL) (hm : ∀ r ∈ trX (.slice p n c) QL [], r ∈ rs) : RdS W p QL := by
  refine ⟨OwG.sl (h.mem (K := kQ) (v := .slice p n c) (L := QL) (hm _ (by simp [trX]))), fun q hq => h.rdQ (fun r hr => hm r ?_) (hs q hq).1 (hs q hq).2⟩
  unfold trX
  exact List.mem_cons_of_mem _ (List.mem_flatMap.mpr ⟨q, hq, hr⟩)
end Go.Proofs.YtbkiogedipmioaaGreat.V
