/-
  Owns in memory: four numbers each; the looks of the law at them, one by one and made the program's.
-/
import Derived.Test.YtmfbkbifoehoeaaKSA
import Derived.Test.YtmfbkbifoehoeaaKYI
import Derived.Test.YtmfbkbifoehoeaaMC3
namespace Go.Proofs.Ytmfbkbifoehoeaa.K.D
open Go.Shelf Go.RowKit Go.Joins
attribute [local go_sem] Oper.semAt_some

/-- An Own. -/
structure On where
  l : Int
  x : Int
  y : Int
  s : Int
abbrev On.v (o : On) : Value := .agg #[.int .i64 o.l, .int .i64 o.x, .int .i64 o.y, .int .i64 o.s]
def kO : Kd On := ⟨39, 4, fun o => [.int .i64 o.l, .int .i64 o.x, .int .i64 o.y, .int .i64 o.s], fun _ => rfl⟩
def zon : On := ⟨0, 0, 0, 0⟩
theorem info39 : (Try.prog.info? 39).map (fun i => (i.zero, i.size, i.bytes)) = some (some (.agg #[.int .i64 0, .int .i64 0, .int .i64 0, .int .i64 0]), 4, 32) := by kernel_rfl
theorem appO : Ap kO 22 (.agg #[.int .i64 0, .int .i64 0, .int .i64 0, .int .i64 0]) 32 := ⟨Try.underlying22, info39, rfl, by decide, by decide⟩
theorem oneOs (L : List On) : ∀ u ∈ kO.flat L, u.oneCell' = true := fun u hu => by
  unfold Kd.flat at hu
  obtain ⟨s, _, hs⟩ := List.mem_flatMap.mp hu
  simp [kO] at hs
  rcases hs with rfl | rfl | rfl | rfl <;> rfl
theorem getO {L : List On} {k : Nat} (hk : k < L.length) : L[k]? = some (L.getD k zon) := by simp [List.getD, hk]
theorem CsG.o4 {w : World} {g off : Nat} {L : List On} (h : CsG kO w g off L) {k : Nat} {o : On} (hk : L[k]? = some o) : w.cell? ⟨g, off + k * 4, none⟩ = some (.int .i64 o.l) ∧ w.cell? ⟨g, off + k * 4 + 1, none⟩ = some (.int .i64 o.x) ∧ w.cell? ⟨g, off + k * 4 + 2, none⟩ = some (.int .i64 o.y) ∧ w.cell? ⟨g, off + k * 4 + 3, none⟩ = some (.int .i64 o.s) := by
  have h0 := h.at hk (i := 0) (u := .int .i64 o.l) rfl
  have h1 := h.at hk (i := 1) (u := .int .i64 o.x) rfl
  have h2 := h.at hk (i := 2) (u := .int .i64 o.y) rfl
  have h3 := h.at hk (i := 3) (u := .int .i64 o.s) rfl
  exact ⟨h0, h1, h2, h3⟩
theorem set4 {xs : List Value} {i : Nat} (h : i + 4 ≤ xs.length) (a b c d : Value) : (((xs.set i a).set (i + 1) b).set (i + 2) c).set (i + 3) d = xs.take i ++ [a, b, c, d] ++ xs.drop (i + 4) := by
  refine List.ext_getElem? fun j => ?_
  simp only [List.getElem?_append, List.length_append, List.length_take, List.length_cons, List.length_nil, List.getElem?_drop]
  have hmin : min i xs.length = i := by omega
  rw [hmin]
  by_cases h1 : j < i
  · rw [if_pos (by omega), if_pos h1, List.getElem?_set_ne (by omega), List.getElem?_set_ne (by omega), List.getElem?_set_ne (by omega), List.getElem?_set_ne (by omega), List.getElem?_take_of_lt h1]
  · by_cases h2 : j < i + 4
    · rw [if_pos (by omega), if_neg h1]
      have : j = i ∨ j = i + 1 ∨ j = i + 2 ∨ j = i + 3 := by omega
      rcases this with rfl | rfl | rfl | rfl
      · rw [List.getElem?_set_ne (by omega), List.getElem?_set_ne (by omega), List.getElem?_set_ne (by omega), List.getElem?_set_self (by omega)]; simp
      · rw [List.getElem?_set_ne (by omega), List.getElem?_set_ne (by omega), List.getElem?_set_self (by simp; omega)]; simp
      · rw [List.getElem?_set_ne (by omega), List.getElem?_set_self (by simp; omega)]; simp
      · rw [List.getElem?_set_self (by simp; omega)]; simp
    · rw [if_neg (by omega), List.getElem?_set_ne (by omega), List.getElem?_set_ne (by omega), List.getElem?_set_ne (by omega), List.getElem?_set_ne (by omega)]
      congr 1; omega
theorem Sg.setO {w W : World} {A Bs : List Rw} {g n c : Nat} {M : List On} (h : Sg w W (A ++ rG kO (.slice (some ⟨g, 0, none⟩) n c) M :: Bs)) {k : Nat} (hk : k < M.length) (m : On) :
    Sg w ((((W.setCell ⟨g, k * 4, none⟩ (.int .i64 m.l)).setCell ⟨g, k * 4 + 1, none⟩ (.int .i64 m.x)).setCell ⟨g, k * 4 + 2, none⟩ (.int .i64 m.y)).setCell ⟨g, k * 4 + 3, none⟩ (.int .i64 m.s)) (A ++ rG kO (.slice (some ⟨g, 0, none⟩) n c) (M.set k m) :: Bs) := by
  have ho : OwG kO W w.heap.size (.slice (some ⟨g, 0, none⟩) n c) M := h.mem (by simp)
  have hn := OwG.len ho
  subst hn
  have h1 := (((Sg.setRaw h (k * 4) (.int .i64 m.l)).setRaw (k * 4 + 1) (.int .i64 m.x)).setRaw (k * 4 + 2) (.int .i64 m.y)).setRaw (k * 4 + 3) (.int .i64 m.s)
  have hl := Kd.flat_len (K := kO) M
  have e : kO.flat (M.set k m) = ((((kO.flat M).set (k * 4) (.int .i64 m.l)).set (k * 4 + 1) (.int .i64 m.x)).set (k * 4 + 2) (.int .i64 m.y)).set (k * 4 + 3) (.int .i64 m.s) := by
    rw [set4 (by rw [hl]; show k * 4 + 4 ≤ M.length * 4; omega), Kd.flat_set m hk]; rfl
  have e2 : rG kO (.slice (some ⟨g, 0, none⟩) M.length c) (M.set k m) = ⟨.slice (some ⟨g, 0, none⟩) M.length c, 39, 4, M.length, ((((kO.flat M).set (k * 4) (.int .i64 m.l)).set (k * 4 + 1) (.int .i64 m.x)).set (k * 4 + 2) (.int .i64 m.y)).set (k * 4 + 3) (.int .i64 m.s)⟩ := by
    unfold rG; rw [e, List.length_set]; rfl
  rw [e2]; exact h1
theorem Sg.set1 {w W : World} {A Bs : List Rw} {g n c : Nat} {M : List On} (h : Sg w W (A ++ rG kO (.slice (some ⟨g, 0, none⟩) n c) M :: Bs)) {k i : Nat} (hk : k < M.length) (hi : i < 4) (u : Value) (m : On) (hm : kO.vs m = (kO.vs (M.getD k zon)).set i u) :
    Sg w (W.setCell ⟨g, k * 4 + i, none⟩ u) (A ++ rG kO (.slice (some ⟨g, 0, none⟩) n c) (M.set k m) :: Bs) := by
  refine h.set (L' := M.set k m) (k * 4 + i) u (by simp) ?_
  have hl := Kd.flat_len (K := kO) M
  have hk4 : k * 4 + 4 ≤ M.length * 4 := by omega
  rw [Kd.flat_set m hk, hm]
  refine List.ext_getElem? fun j => ?_
  have e4 : kO.n = 4 := rfl
  rw [e4] at hl ⊢
  have hvl : (kO.vs (M.getD k zon)).length = 4 := kO.len _
  simp only [List.getElem?_append, List.length_append, List.length_take, List.length_set, hl, hvl, List.getElem?_drop, List.getElem?_take]
  by_cases h1 : j < k * 4
  · rw [if_pos (by omega), if_pos (by omega), List.getElem?_set_ne (by omega)]; simp [h1]
  · by_cases h2 : j < k * 4 + 4
    · rw [if_pos (by omega), if_neg (by omega), Nat.min_eq_left (by omega)]
      have hg := Kd.flat_get (K := kO) (getO hk) (i := j - k * 4) (by rw [e4]; omega)
      rw [e4, show k * 4 + (j - k * 4) = j by omega] at hg
      by_cases h3 : j = k * 4 + i
      · subst h3
        rw [show k * 4 + i - k * 4 = i by omega, List.getElem?_set_self (by rw [hvl]; exact hi), List.getElem?_set_self (by rw [hl]; omega)]
      · rw [List.getElem?_set_ne (by omega), List.getElem?_set_ne (by omega), hg]
    · rw [if_neg (by omega), List.getElem?_set_ne (by omega)]
      congr 1; omega
theorem made_flatO (n : Nat) : (madeCells #[.int .i64 0, .int .i64 0, .int .i64 0, .int .i64 0] (n * 4)).toList = kO.flat (List.replicate n zon) := by
  refine List.ext_getElem? fun i => ?_
  have hl : (kO.flat (List.replicate n zon)).length = n * 4 := by rw [Kd.flat_len]; simp [kO]
  by_cases hi : i < n * 4
  · have h6 : i / 4 < n := by omega
    have hk : (List.replicate n zon)[i / 4]? = some zon := by simp [h6]
    have hg := Kd.flat_get (K := kO) hk (i := i % 4) (Nat.mod_lt _ (by decide))
    have e3 : i / 4 * kO.n + i % 4 = i := by show i / 4 * 4 + i % 4 = i; omega
    rw [e3] at hg
    rw [hg]
    have hm : i % 4 = 0 ∨ i % 4 = 1 ∨ i % 4 = 2 ∨ i % 4 = 3 := by omega
    rcases hm with hm | hm | hm | hm <;> simp [madeCells, hi, hm, kO, zon]
  · rw [List.getElem?_eq_none (by simp [madeCells]; omega), List.getElem?_eq_none (by omega)]
end Go.Proofs.Ytmfbkbifoehoeaa.K.D
