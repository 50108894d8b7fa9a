/-
  The law's looks at lists of Cells and at Clauses.
-/
import Derived.Test.YtkinbgcnenieeaaGreatP7
namespace Go.Proofs.YtkinbgcnenieeaaGreat
open Go.Shelf Go.RowKit Go.Joins M
attribute [local go_sem] Oper.semAt_some

theorem set3 {xs : List Value} {i : Nat} (h : i + 3 ≤ xs.length) (a b c : Value) : ((xs.set i a).set (i + 1) b).set (i + 2) c = xs.take i ++ [a, b, c] ++ xs.drop (i + 3) := by
  refine List.ext_getElem? fun j => ?_
  simp only [List.getElem?_append, List.length_append, List.length_take, List.length_cons, List.length_nil, List.getElem?_drop]
  have hmin : min i xs.length = i := by omega
  rw [hmin]
  by_cases h1 : j < i
  · rw [if_pos (by omega), if_pos h1, List.getElem?_set_ne (by omega), List.getElem?_set_ne (by omega), List.getElem?_set_ne (by omega), List.getElem?_take_of_lt h1]
  · by_cases h2 : j < i + 3
    · rw [if_pos (by omega), if_neg h1]
      have : j = i ∨ j = i + 1 ∨ j = i + 2 := by omega
      rcases this with rfl | rfl | rfl
      · rw [List.getElem?_set_ne (by omega), List.getElem?_set_ne (by omega), List.getElem?_set_self (by omega)]; simp
      · rw [List.getElem?_set_ne (by omega), List.getElem?_set_self (by simp; omega)]; simp
      · rw [List.getElem?_set_self (by simp; omega)]; simp
    · rw [if_neg (by omega), List.getElem?_set_ne (by omega), List.getElem?_set_ne (by omega), List.getElem?_set_ne (by omega)]
      congr 1; omega
theorem Sg.setC {w W : World} {A Bs : List Rw} {g n c : Nat} {M : List T3} (h : Sg w W (A ++ rG kC (.slice (some ⟨g, 0, none⟩) n c) M :: Bs)) {k : Nat} (hk : k < M.length) (m : T3) :
    Sg w (((W.setCell ⟨g, k * 3, none⟩ (.int .i64 m.l)).setCell ⟨g, k * 3 + 1, none⟩ (.int .i64 m.x)).setCell ⟨g, k * 3 + 2, none⟩ (.int .i64 m.y)) (A ++ rG kC (.slice (some ⟨g, 0, none⟩) n c) (M.set k m) :: Bs) := by
  have ho : OwG kC W w.heap.size (.slice (some ⟨g, 0, none⟩) n c) M := h.mem (by simp)
  have hn := OwG.len ho
  subst hn
  have h1 := ((Sg.setRaw h (k * 3) (.int .i64 m.l)).setRaw (k * 3 + 1) (.int .i64 m.x)).setRaw (k * 3 + 2) (.int .i64 m.y)
  have hl := Kd.flat_len (K := kC) M
  have e : kC.flat (M.set k m) = (((kC.flat M).set (k * 3) (.int .i64 m.l)).set (k * 3 + 1) (.int .i64 m.x)).set (k * 3 + 2) (.int .i64 m.y) := by
    rw [set3 (by rw [hl]; show k * 3 + 3 ≤ M.length * 3; omega), Kd.flat_set m hk]; rfl
  have e2 : rG kC (.slice (some ⟨g, 0, none⟩) M.length c) (M.set k m) = ⟨.slice (some ⟨g, 0, none⟩) M.length c, 55, 3, M.length, (((kC.flat M).set (k * 3) (.int .i64 m.l)).set (k * 3 + 1) (.int .i64 m.x)).set (k * 3 + 2) (.int .i64 m.y)⟩ := by
    unfold rG; rw [e, List.length_set]; rfl
  rw [e2]; exact h1
theorem made_flatC (n : Nat) : (madeCells #[.int .i64 0, .int .i64 0, .int .i64 0] (n * 3)).toList = kC.flat (List.replicate n z3) := by
  refine List.ext_getElem? fun i => ?_
  have hl : (kC.flat (List.replicate n z3)).length = n * 3 := by rw [Kd.flat_len]; simp [kC]
  by_cases hi : i < n * 3
  · have h6 : i / 3 < n := by omega
    have hk : (List.replicate n z3)[i / 3]? = some z3 := by simp [h6]
    have hg := Kd.flat_get (K := kC) hk (i := i % 3) (Nat.mod_lt _ (by decide))
    have e3 : i / 3 * kC.n + i % 3 = i := by show i / 3 * 3 + i % 3 = i; omega
    rw [e3] at hg
    rw [hg]
    have hm : i % 3 = 0 ∨ i % 3 = 1 ∨ i % 3 = 2 := by omega
    rcases hm with hm | hm | hm <;> simp [madeCells, hi, hm, kC, z3]
  · rw [List.getElem?_eq_none (by simp [madeCells]; omega), List.getElem?_eq_none (by omega)]
/-- What a size leaves: -1, or the rest. -/
def szR (z : Int) (n : Nat) (r : Int) : Prop := (r = -1 ∧ z < n) ∨ (r = z - n ∧ (n : Int) ≤ z)
end Go.Proofs.YtkinbgcnenieeaaGreat
