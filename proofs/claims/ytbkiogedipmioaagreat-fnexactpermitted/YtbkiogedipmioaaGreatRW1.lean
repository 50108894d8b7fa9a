/-
  The law of RecordsOk, walked.
-/
import Derived.Test.YtbkiogedipmioaaGreatRL2
namespace Go.Proofs.YtbkiogedipmioaaGreat.R
open Go.Shelf Go.RowKit Go.Joins
attribute [local go_sem] Oper.semAt_some

def mk5 (k : Int) : Rc := ⟨k, k + 1, k + 1 + 1, k + 1 + 1 + 1, mtx (k + 1 + 1 + 1 + 1)⟩
def mkRs (k : Int) (n : Nat) : List Rc := (List.range n).map fun i : Nat => mk5 (k + 5 * (i : Int))
theorem mkRs_get {k : Int} {n i : Nat} (h : i < n) : (mkRs k n)[i]? = some (mk5 (k + 5 * i)) := by simp [mkRs, h]
theorem mkRs_len (k : Int) (n : Nat) : (mkRs k n).length = n := by simp [mkRs]
theorem ow_some {α : Type} {K : Kd α} {W : World} {base n c : Nat} {p : Option Addr} {L : List α} (h : OwG K W base (.slice p n c) L) (h0 : 0 < n) : ∃ g, p = some ⟨g, 0, none⟩ := by
  obtain ⟨g, off, rfl, _⟩ := (OwG.sl h).at (k := 0) (by have := OwG.len h; omega)
  have hz := OwG.zero h
  subst hz
  exact ⟨g, rfl⟩
theorem Sg.set1 {w W : World} {A Bs : List Rw} {g n c : Nat} {M : List Rc} (h : Sg w W (A ++ rG kR (.slice (some ⟨g, 0, none⟩) n c) M :: Bs)) {k i : Nat} (hk : k < M.length) (hi : i < 5) (u : Value) (m : Rc) (hm : kR.vs m = (kR.vs (M.getD k zrc)).set i u) :
    Sg w (W.setCell ⟨g, k * 5 + i, none⟩ u) (A ++ rG kR (.slice (some ⟨g, 0, none⟩) n c) (M.set k m) :: Bs) := by
  refine h.set (L' := M.set k m) (k * 5 + i) u (by simp) ?_
  have hl := Kd.flat_len (K := kR) M
  have hk5 : k * 5 + 5 ≤ M.length * 5 := by omega
  rw [Kd.flat_set m hk, hm]
  refine List.ext_getElem? fun j => ?_
  have e5 : kR.n = 5 := rfl
  rw [e5] at hl ⊢
  have hvl : (kR.vs (M.getD k zrc)).length = 5 := kR.len _
  simp only [List.getElem?_append, List.length_append, List.length_take, List.length_set, hl, hvl, List.getElem?_drop, List.getElem?_take]
  by_cases h1 : j < k * 5
  · rw [if_pos (by omega), if_pos (by omega), List.getElem?_set_ne (by omega)]; simp [h1]
  · by_cases h2 : j < k * 5 + 5
    · rw [if_pos (by omega), if_neg (by omega), Nat.min_eq_left (by omega)]
      have hg := Kd.flat_get (K := kR) (getR hk) (i := j - k * 5) (by rw [e5]; omega)
      rw [e5, show k * 5 + (j - k * 5) = j by omega] at hg
      by_cases h3 : j = k * 5 + i
      · subst h3
        rw [show k * 5 + i - k * 5 = i by omega, List.getElem?_set_self (by rw [hvl]; exact hi), List.getElem?_set_self (by rw [hl]; omega)]
      · rw [List.getElem?_set_ne (by omega), List.getElem?_set_ne (by omega), hg]
    · rw [if_neg (by omega), List.getElem?_set_ne (by omega)]
      congr 1; omega
end Go.Proofs.YtbkiogedipmioaaGreat.R
namespace Go.Proofs.YtbkiogedipmioaaGreat.R
open Go.Shelf Go.RowKit Go.Joins
attribute [local go_sem] Oper.semAt_some

/-- What a law's first lines know of a list that is not too big. -/
theorem rsz_len {L : List Rc} {n : Nat} (hn : L.length = n) (h : rsz L ≤ 1048576) : n ≤ 1048576 := by unfold rsz at h; omega
end Go.Proofs.YtbkiogedipmioaaGreat.R
