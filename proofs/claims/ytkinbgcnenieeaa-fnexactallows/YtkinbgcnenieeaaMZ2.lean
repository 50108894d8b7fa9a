/-
  Contracts of the spec's Order and of the program's place.
-/
import Derived.Test.YtkinbgcnenieeaaMZ1
namespace Go.Proofs.Ytkinbgcnenieeaa.M
open Go.RowKit Go.Joins

theorem bit_w {b : Int} {m : Nat} (hm : m ≤ 20) (h0 : 0 ≤ b) (h1 : b ≤ 1) : wrap64 (b * 2 ^ m) = b * 2 ^ m := by
  have hp : (2 : Int) ^ m = ((2 ^ m : Nat) : Int) := by simp
  have hle : 2 ^ m ≤ 2 ^ 20 := Nat.pow_le_pow_right (by decide) hm
  rw [hp]
  generalize 2 ^ m = P at hle
  have h3 : 0 ≤ b * (P : Int) := Int.mul_nonneg h0 (by omega)
  have h4 : b * (P : Int) ≤ 1 * (P : Int) := Int.mul_le_mul_of_nonneg_right h1 (by omega)
  exact w64 (by omega) (by omega)
def plI (x y : Int) : Int := 2 * (y % 2) + x % 2
set_option maxHeartbeats 400000 in
theorem place_any (l x y : Int) (w : World) :
    Calls Try.prog 94 #[.agg #[.int .i64 l, .int .i64 x, .int .i64 y]] w fun e w' => e = .returned (.int .i64 (plI x y)) ∧ Below w.heap.size w w' := by
  have h1 := i64_and1 x
  have h2 := i64_and1 y
  have h3 : wrap64 (2 * (y % 2)) = 2 * (y % 2) := w64 (by omega) (by omega)
  have h4 : wrap64 (2 * (y % 2) + x % 2) = 2 * (y % 2) + x % 2 := w64 (by omega) (by omega)
  go_enter Try.func94, Try.ntmps94
  go_wp2
  go_ret
  exact ⟨ret_i64 rfl, below_alloc1 _ _⟩

def ordI (s t : Int) : Int := if spB s t then zz s t 8 else -1

theorem St.add {w W : World} {v : Nat} {vs : List Value} {t : TypeId} {l : List (Nat × List Value)} (h : St w W l) (hv : W.heap[v]? = some (.cells vs.toArray t)) : St w W ((v, vs) :: l) :=
  ⟨h.bel, ⟨(Array.getElem?_eq_some_iff.1 hv).1, fun o => by simp [World.frozen?, hv], hasAt_of _ _ (fun j u hj => by simp [World.cell?, hv]; simpa using hj)⟩, h.has⟩

theorem iCellAt8 {s t : Int} (h : spB s t = true) (w : World) :
    Calls Try.prog 56 #[.agg #[.int .i64 s, .int .i64 t], .int .i64 8] w fun e w' => e = .returned (.agg #[.int .i64 8, .int .i64 s, .int .i64 t]) ∧ Below w.heap.size w w' := by
  have hl : levB 8 = true := by decide
  have := iCellAt_any s t 8 w
  simp only [aL, aX, aY, h, hl, Bool.and_self, if_true] at this
  simpa using this

end Go.Proofs.Ytkinbgcnenieeaa.M
