/-
  The law's looks at Records and lists of Records: made the program's, held against each other.
-/
import Derived.Test.YtgpfdoiiholncaaDoorKB6
namespace Go.Proofs.YtgpfdoiiholncaaDoor.K
open Go.Shelf Go.RowKit Go.Joins
attribute [local go_sem] Oper.semAt_some

theorem set5 {xs : List Value} {i : Nat} (h : i + 5 ≤ xs.length) (a b c d e : Value) : ((((xs.set i a).set (i + 1) b).set (i + 2) c).set (i + 3) d).set (i + 4) e = xs.take i ++ [a, b, c, d, e] ++ xs.drop (i + 5) := by
  refine List.ext_getElem? fun j => ?_
  simp only [List.getElem?_append, List.length_append, List.length_take, List.length_cons, List.length_nil, List.getElem?_drop]
  have hmin : min i xs.length = i := by omega
  rw [hmin]
  by_cases h1 : j < i
  · rw [if_pos (by omega), if_pos h1, List.getElem?_set_ne (by omega), List.getElem?_set_ne (by omega), List.getElem?_set_ne (by omega), List.getElem?_set_ne (by omega), List.getElem?_set_ne (by omega), List.getElem?_take_of_lt h1]
  · by_cases h2 : j < i + 5
    · rw [if_pos (by omega), if_neg h1]
      have : j = i ∨ j = i + 1 ∨ j = i + 2 ∨ j = i + 3 ∨ j = i + 4 := by omega
      rcases this with rfl | rfl | rfl | rfl | rfl
      · rw [List.getElem?_set_ne (by omega), List.getElem?_set_ne (by omega), List.getElem?_set_ne (by omega), List.getElem?_set_ne (by omega), List.getElem?_set_self (by omega)]; simp
      · rw [List.getElem?_set_ne (by omega), List.getElem?_set_ne (by omega), List.getElem?_set_ne (by omega), List.getElem?_set_self (by simp; omega)]; simp
      · rw [List.getElem?_set_ne (by omega), List.getElem?_set_ne (by omega), List.getElem?_set_self (by simp; omega)]; simp
      · rw [List.getElem?_set_ne (by omega), List.getElem?_set_self (by simp; omega)]; simp
      · rw [List.getElem?_set_self (by simp; omega)]; simp
    · rw [if_neg (by omega), List.getElem?_set_ne (by omega), List.getElem?_set_ne (by omega), List.getElem?_set_ne (by omega), List.getElem?_set_ne (by omega), List.getElem?_set_ne (by omega)]
      congr 1; omega
theorem Sg.setR {w W : World} {A Bs : List Rw} {g n c : Nat} {M : List Rc} (h : Sg w W (A ++ rG kR (.slice (some ⟨g, 0, none⟩) n c) M :: Bs)) {k : Nat} (hk : k < M.length) (m : Rc) :
    Sg w (((((W.setCell ⟨g, k * 5, none⟩ (.int .i64 m.t)).setCell ⟨g, k * 5 + 1, none⟩ (.int .i64 m.i)).setCell ⟨g, k * 5 + 2, none⟩ (.int .i64 m.x)).setCell ⟨g, k * 5 + 3, none⟩ (.int .i64 m.y)).setCell ⟨g, k * 5 + 4, none⟩ (.string m.s)) (A ++ rG kR (.slice (some ⟨g, 0, none⟩) n c) (M.set k m) :: Bs) := by
  have ho : OwG kR W w.heap.size (.slice (some ⟨g, 0, none⟩) n c) M := h.mem (by simp)
  have hn := OwG.len ho
  subst hn
  have h1 := ((((Sg.setRaw h (k * 5) (.int .i64 m.t)).setRaw (k * 5 + 1) (.int .i64 m.i)).setRaw (k * 5 + 2) (.int .i64 m.x)).setRaw (k * 5 + 3) (.int .i64 m.y)).setRaw (k * 5 + 4) (.string m.s)
  have hl := Kd.flat_len (K := kR) M
  have e : kR.flat (M.set k m) = (((((kR.flat M).set (k * 5) (.int .i64 m.t)).set (k * 5 + 1) (.int .i64 m.i)).set (k * 5 + 2) (.int .i64 m.x)).set (k * 5 + 3) (.int .i64 m.y)).set (k * 5 + 4) (.string m.s) := by
    rw [set5 (by rw [hl]; show k * 5 + 5 ≤ M.length * 5; omega), Kd.flat_set m hk]; rfl
  have e2 : rG kR (.slice (some ⟨g, 0, none⟩) M.length c) (M.set k m) = ⟨.slice (some ⟨g, 0, none⟩) M.length c, 142, 5, M.length, (((((kR.flat M).set (k * 5) (.int .i64 m.t)).set (k * 5 + 1) (.int .i64 m.i)).set (k * 5 + 2) (.int .i64 m.x)).set (k * 5 + 3) (.int .i64 m.y)).set (k * 5 + 4) (.string m.s)⟩ := by
    unfold rG; rw [e, List.length_set]; rfl
  rw [e2]; exact h1
theorem toSpot_any (x y : Int) (w : World) : Calls Tryd.prog 38 #[.agg #[.int .i64 x, .int .i64 y]] w fun e w' => e = .returned (.agg #[.int .i64 x, .int .i64 y]) ∧ Below w.heap.size w w' := by
  go_enter Tryd.func38, Tryd.ntmps38
  go_wp2
  refine bodyPost_ret (v := .agg #[.int .i64 x, .int .i64 y]) (by simp [results, Tryd.results38, go_sem]) rfl ⟨rfl, ?_⟩
  exact below_alloc3 _ _ _ _
theorem made_flatR (n : Nat) : (madeCells #[.int .i64 0, .int .i64 0, .int .i64 0, .int .i64 0, .string ByteArray.empty] (n * 5)).toList = kR.flat (List.replicate n zrc) := by
  refine List.ext_getElem? fun i => ?_
  have hl : (kR.flat (List.replicate n zrc)).length = n * 5 := by rw [Kd.flat_len]; simp [kR]
  by_cases hi : i < n * 5
  · have h6 : i / 5 < n := by omega
    have hk : (List.replicate n zrc)[i / 5]? = some zrc := by simp [h6]
    have hg := Kd.flat_get (K := kR) hk (i := i % 5) (Nat.mod_lt _ (by decide))
    have e3 : i / 5 * kR.n + i % 5 = i := by show i / 5 * 5 + i % 5 = i; omega
    rw [e3] at hg
    rw [hg]
    have hm : i % 5 = 0 ∨ i % 5 = 1 ∨ i % 5 = 2 ∨ i % 5 = 3 ∨ i % 5 = 4 := by omega
    rcases hm with hm | hm | hm | hm | hm <;> simp [madeCells, hi, hm, kR, zrc]
  · rw [List.getElem?_eq_none (by simp [madeCells]; omega), List.getElem?_eq_none (by omega)]
end Go.Proofs.YtgpfdoiiholncaaDoor.K
