/-
  What the laws of Split and Given share: the argument boxes, an answer's row, rows picked and moved.
-/
import Derived.Test.YtamnmakegdnblaaKP8
namespace Go.Proofs.Ytamnmakegdnblaa.K.D
open Go.Shelf Go.RowKit Go.Joins
attribute [local go_sem] Oper.semAt_some

theorem bx23 {w W : World} {v0 v1 u0 u1 u2 : Value} {ty ty2 : TypeId} (h : Below ((w.alloc (.cells #[v0, v1] ty)).alloc (.cells #[u0, u1, u2] ty2)).heap.size ((w.alloc (.cells #[v0, v1] ty)).alloc (.cells #[u0, u1, u2] ty2)) W) : (W.cell? ⟨w.heap.size, 0, none⟩ = some v0 ∧ W.cell? ⟨w.heap.size, 1, none⟩ = some v1) ∧ (W.cell? ⟨w.heap.size + 1, 0, none⟩ = some u0 ∧ W.cell? ⟨w.heap.size + 1, 1, none⟩ = some u1 ∧ W.cell? ⟨w.heap.size + 1, 2, none⟩ = some u2) := by
  have := ((((St.nil w).push [v0, v1] ty).push [u0, u1, u2] ty2).step h).has
  simp [Has, HasAt] at this
  simp [this]
theorem Sg.al {w W : World} {rs : List Rw} (h : Sg w W rs) (o : Obj) : Sg w (W.alloc o) rs := h.step (below_alloc1 _ _)
theorem Sg.litZ {w W : World} {rs : List Rw} (h : Sg w W rs) : Sg w (W.alloc (.cells #[.int .i64 0, .slice none 0 0] 26)) (rG kD (.slice (some ⟨W.heap.size, 0, none⟩) 1 1) [zdv] :: rs) := h.lit kD [zdv] 1 rfl (by decide) #[.int .i64 0, .slice none 0 0] rfl
theorem len_in {w : World} {f : Nat} {args : Array Value} {E : Int} {b : Bool} {L : List On} (h : Calls Try.prog f args w fun ee w' => ∃ q m c', ee = .returned (.tuple #[Dv.v ⟨E, q, m, c'⟩, .bool b]) ∧ Sg w w' [rG kO (.slice q m c') L]) : Calls Try.prog f args w fun ee w' => ∃ q c', ee = .returned (.tuple #[Dv.v ⟨E, q, L.length, c'⟩, .bool b]) ∧ Sg w w' [rG kO (.slice q L.length c') L] := by
  refine h.mono ?_
  rintro ee w' ⟨q, m, c', rfl, hS⟩
  have hl := OwG.len (hS.mem (K := kO) (v := .slice q m c') (L := L) (List.mem_cons_self ..))
  subst hl
  exact ⟨q, c', rfl, hS⟩
theorem pickA (a d x : Rw) (T : List Rw) : (a :: d :: T).Sublist (a :: d :: x :: T) := .cons_cons _ (.cons_cons _ (.cons _ (List.Sublist.refl _)))
theorem permA (d x a : Rw) (T : List Rw) : (d :: x :: a :: T).Perm (a :: d :: x :: T) := ((List.Perm.swap a x T).cons d).trans (List.Perm.swap a d (x :: T))
theorem pickB (a d x : Rw) (T : List Rw) : (a :: d :: T).Sublist (a :: d :: x :: T) := pickA a d x T
theorem permB (d a : Rw) (T : List Rw) : (d :: a :: T).Perm (a :: d :: T) := List.Perm.swap a d T
theorem pickC (a d x : Rw) (T : List Rw) : (a :: d :: T).Sublist (a :: d :: x :: T) := pickA a d x T
theorem pickD (a b c d f g : Rw) : [a, b, f, g].Sublist [a, b, c, d, f, g] := .cons_cons _ (.cons_cons _ (.cons _ (.cons _ (List.Sublist.refl _))))
theorem splL_len (e : Int) (L : List On) (l x y : Int) : (splL e L l x y).length ≤ 64 := by
  unfold splL
  cases hd : dirB e L
  · simp
  · have h1 := (dir_on hd).1
    cases hs : splB e L l x y
    · simpa using h1
    · unfold splB at hs
      simp only [Bool.and_eq_true, decide_eq_true_eq, Bool.not_eq_true', decide_eq_false_iff_not] at hs
      obtain ⟨-, hp, -, h2, -⟩ := hs
      simp [quL_len]
      omega
theorem givL_len (e : Int) (L : List On) (l x y s : Int) : (givL e L l x y s).length ≤ 64 := by
  unfold givL
  cases hd : dirB e L
  · simp
  · have h1 := (dir_on hd).1
    cases hs : givB e L l x y s
    · simpa using h1
    · simpa using h1
end Go.Proofs.Ytamnmakegdnblaa.K.D
