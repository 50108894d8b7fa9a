/-
  The law's looks at lists of Clauses and at Papers.
-/
import Derived.Test.YtkinbgcnenieeaaGreatY2
import Derived.Test.YtkinbgcnenieeaaGreatPA
namespace Go.Proofs.YtkinbgcnenieeaaGreat
open Go.Shelf Go.RowKit Go.Joins M
attribute [local go_sem] Oper.semAt_some

/-- The rows of a list of Clauses, of which X are made. -/
def trX (v : Value) (X R : List CQ) : List Rw := rG kQ v (X ++ R) :: X.flatMap fun q => clR q.1 q.2.1 q.2.2
theorem Sg.setQAt {w W : World} {A Bs : List Rw} {g n c : Nat} {X Y : List CQ} {p : CQ} (h : Sg w W (A ++ rG kQ (.slice (some ⟨g, 0, none⟩) n c) (X ++ p :: Y) :: Bs)) (q : CQ) {o : Nat} (ho : o = X.length * 3) :
    Sg w (((W.setCell ⟨g, o, none⟩ (.slice q.2.1.p q.2.1.n q.2.1.c)).setCell ⟨g, o + 1, none⟩ (.slice q.2.2.p q.2.2.n q.2.2.c)).setCell ⟨g, o + 2, none⟩ (.int .i64 q.1.un)) (A ++ rG kQ (.slice (some ⟨g, 0, none⟩) n c) (X ++ q :: Y) :: Bs) := by
  have hn := OwG.len (h.mem (K := kQ) (v := .slice (some ⟨g, 0, none⟩) n c) (L := X ++ p :: Y) (by simp))
  subst hn
  have h1 := ((Sg.setRaw h o (.slice q.2.1.p q.2.1.n q.2.1.c)).setRaw (o + 1) (.slice q.2.2.p q.2.2.n q.2.2.c)).setRaw (o + 2) (.int .i64 q.1.un)
  have hl : (kQ.flat X).length = o := by rw [Kd.flat_len, ho]; rfl
  have e : ∀ q : CQ, kQ.flat (X ++ q :: Y) = kQ.flat X ++ (kQ.vs q ++ kQ.flat Y) := fun q => by rw [Kd.flat_append, Kd.flat_cons]
  have e2 : rG kQ (.slice (some ⟨g, 0, none⟩) (X ++ p :: Y).length c) (X ++ q :: Y) = ⟨.slice (some ⟨g, 0, none⟩) (X ++ p :: Y).length c, 39, 3, (X ++ p :: Y).length, (((kQ.flat (X ++ p :: Y)).set o (.slice q.2.1.p q.2.1.n q.2.1.c)).set (o + 1) (.slice q.2.2.p q.2.2.n q.2.2.c)).set (o + 2) (.int .i64 q.1.un)⟩ := by
    unfold rG
    rw [e, e]
    have s0 : ∀ (zs : List Value) (j : Nat) (u : Value), (kQ.flat X ++ zs).set (o + j) u = kQ.flat X ++ zs.set j u := fun zs j u => by
      rw [List.set_append_right _ _ (by omega), hl]; congr 2; omega
    have := s0 (kQ.vs p ++ kQ.flat Y) 0 (.slice q.2.1.p q.2.1.n q.2.1.c)
    rw [Nat.add_zero] at this
    rw [this, s0, s0]
    simp [kQ]
  rw [e2]; exact h1
theorem made_flatQ (n : Nat) : (madeCells #[.slice none 0 0, .slice none 0 0, .int .i64 0] (n * 3)).toList = kQ.flat (List.replicate n zq) := by
  refine List.ext_getElem? fun i => ?_
  have hl : (kQ.flat (List.replicate n zq)).length = n * 3 := by rw [Kd.flat_len]; simp [kQ]
  by_cases hi : i < n * 3
  · have h6 : i / 3 < n := by omega
    have hk : (List.replicate n zq)[i / 3]? = some zq := by simp [h6]
    have hg := Kd.flat_get (K := kQ) hk (i := i % 3) (Nat.mod_lt _ (by decide))
    have e3 : i / 3 * kQ.n + i % 3 = i := by show i / 3 * 3 + i % 3 = i; omega
    rw [e3] at hg
    rw [hg]
    have hm : i % 3 = 0 ∨ i % 3 = 1 ∨ i % 3 = 2 := by omega
    rcases hm with hm | hm | hm <;> simp [madeCells, hi, hm, kQ, zq, zcl, zsv]
  · rw [List.getElem?_eq_none (by simp [madeCells]; omega), List.getElem?_eq_none (by omega)]
theorem tr_more {w W : World} {v : Value} {X R : List CQ} {q : CQ} (h : Sg w W (clR q.1 q.2.1 q.2.2 ++ rG kQ v (X ++ q :: R) :: X.flatMap fun q => clR q.1 q.2.1 q.2.2)) : Sg w W (trX v (X ++ [q]) R) := by
  unfold trX
  refine h.perm ?_
  rw [List.flatMap_append, List.append_assoc]
  refine (List.perm_append_comm (l₁ := clR q.1 q.2.1 q.2.2)).trans ?_
  simp only [List.flatMap_cons, List.flatMap_nil, List.append_nil, List.cons_append, List.nil_append]
  exact List.Perm.refl _
theorem take_getQ {L : List CQ} {k : Nat} (hk : k < L.length) : L.take (k + 1) = L.take k ++ [L.getD k zq] := by
  rw [List.take_succ_eq_append_getElem hk]; simp [List.getD, hk]
end Go.Proofs.YtkinbgcnenieeaaGreat
