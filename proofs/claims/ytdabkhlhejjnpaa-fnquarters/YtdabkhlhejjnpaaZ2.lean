/-
  Contracts of the spec's Order and of the program's place.
-/
import Derived.Test.YtdabkhlhejjnpaaZ1
namespace Go.Proofs.Ytdabkhlhejjnpaa
open Go.RowKit Go.Joins

theorem bit_w {b : Int} {m : Nat} (hm : m ≤ 20) (h0 : 0 ≤ b) (h1 : b ≤ 1) : wrap64 (b * 2 ^ m) = b * 2 ^ m := by
  have hp : (2 : Int) ^ m = ((2 ^ m : Nat) : Int) := by simp
  have hle : 2 ^ m ≤ 2 ^ 20 := Nat.pow_le_pow_right (by decide) hm
  rw [hp]
  generalize 2 ^ m = P at hle
  have h3 : 0 ≤ b * (P : Int) := Int.mul_nonneg h0 (by omega)
  have h4 : b * (P : Int) ≤ 1 * (P : Int) := Int.mul_le_mul_of_nonneg_right h1 (by omega)
  exact w64 (by omega) (by omega)
def plI (x y : Int) : Int := 2 * (y % 2) + x % 2
set_option maxHeartbeats 400000 in
theorem place_any (l x y : Int) (w : World) :
    Calls Try.prog 64 #[.agg #[.int .i64 l, .int .i64 x, .int .i64 y]] w fun e w' => e = .returned (.int .i64 (plI x y)) ∧ Below w.heap.size w w' := by
  have h1 := i64_and1 x
  have h2 := i64_and1 y
  have h3 : wrap64 (2 * (y % 2)) = 2 * (y % 2) := w64 (by omega) (by omega)
  have h4 : wrap64 (2 * (y % 2) + x % 2) = 2 * (y % 2) + x % 2 := w64 (by omega) (by omega)
  go_enter Try.func64, Try.ntmps64
  go_wp2
  go_ret
  exact ⟨ret_i64 rfl, below_alloc1 _ _⟩

def ordI (s t : Int) : Int := if spB s t then zz s t 8 else -1

set_option maxHeartbeats 1000000 in
theorem l2Order_any {s t : Int} (h : spB s t = true) (w : World) :
    Calls Try.prog 62 #[.agg #[.int .i64 s, .int .i64 t]] w fun e w' => e = .returned (.int .i64 (zz s t 8)) ∧ Below w.heap.size w w' := by
  obtain ⟨a, b, c, d⟩ := spB_t.mp h
  go_enter Try.func62, Try.ntmps62
  go_wp2
  go_loop [3, 4] (fun n i => ∃ k : Nat, k ≤ 8 ∧ n = .int .i64 (zz s t k) ∧ i = .int .i64 k) (fun _ i => 8 - (intOf i).toNat)
  case atStart => exact ⟨0, by omega, rfl, rfl⟩
  case round =>
    obtain ⟨k, hk, rfl, rfl⟩ := hrel
    by_cases hlt : k < 8
    · have q1 := half_eq s k
      have q2 := half_eq t k
      have q3 : (s / 2 ^ k).tmod 2 = half s k % 2 := by rw [← q1]; exact Int.tmod_eq_emod_of_nonneg (half_nn a k)
      have q4 : (t / 2 ^ k).tmod 2 = half t k % 2 := by rw [← q2]; exact Int.tmod_eq_emod_of_nonneg (half_nn c k)
      have r1 : wrap64 ((s / 2 ^ k).tmod 2 * 2 ^ (2 * k)) = half s k % 2 * 2 ^ (2 * k) := by rw [q3]; exact bit_w (by omega) (by omega) (by omega)
      have r2 : wrap64 ((t / 2 ^ k).tmod 2 * 2 ^ (2 * k + 1)) = half t k % 2 * 2 ^ (2 * k + 1) := by rw [q4]; exact bit_w (by omega) (by omega) (by omega)
      have r3 := or_step (s := s) (t := t) hlt
      clear q1 q2 q3 q4
      go_wp2
      refine ⟨⟨k + 1, by omega, ?_, by go_num⟩, by simp [intOf]; omega⟩
      first | rfl | rw [r1, r2, r3]
    · go_wp2
      obtain rfl : k = 8 := by omega
      go_ret
      exact ⟨rfl, below_alloc1 _ _⟩

theorem l2Order_v {s t : Int} (h : spB s t = true) (w : World) :
    Calls Try.prog 62 #[.agg #[.int .i64 s, .int .i64 t]] w fun e w' => e = .returned (.int .i64 (ordI s t)) ∧ Below w.heap.size w w' := by
  have : ordI s t = zz s t 8 := by simp [ordI, h]
  rw [this]; exact l2Order_any h w

set_option maxHeartbeats 1000000 in
theorem sOrder_any (s t : Int) (w : World) :
    Calls Try.prog 31 #[.agg #[.int .i64 s, .int .i64 t]] w fun e w' => e = .returned (.int .i64 (ordI s t)) ∧ Below w.heap.size w w' := by
  have hs := St.nil w
  cases h : spB s t
  · have e0 : ordI s t = -1 := by simp [ordI, h]
    rw [e0]
    go_enter Try.func31, Try.ntmps31
    go_wp2_with (go_at_call 57; refine (sSpot_v h _).mono ?_; rintro e w1 ⟨rfl, hb2⟩; (first | replace hs := hs.step hb2 | replace hs := (hs.push _ _).step hb2 | replace hs := ((hs.push _ _).push _ _).step hb2 | replace hs := (((hs.push _ _).push _ _).push _ _).step hb2); (try simp only [World.size_alloc] at hs); (try clear hk); have hk := hs.has; simp [Has, HasAt] at hk)
    go_ret
    exact ⟨rfl, hs.bel⟩
  · go_enter Try.func31, Try.ntmps31
    go_wp2_with (first | (go_at_call 57; refine (sSpot_v h _).mono ?_; rintro e w1 ⟨rfl, hb2⟩; (first | replace hs := hs.step hb2 | replace hs := (hs.push _ _).step hb2 | replace hs := ((hs.push _ _).push _ _).step hb2 | replace hs := (((hs.push _ _).push _ _).push _ _).step hb2); (try simp only [World.size_alloc] at hs); (try clear hk); have hk := hs.has; simp [Has, HasAt] at hk) | (go_at_call 62; refine (l2Order_v h _).mono ?_; rintro e w1 ⟨rfl, hb2⟩; (first | replace hs := hs.step hb2 | replace hs := (hs.push _ _).step hb2 | replace hs := ((hs.push _ _).push _ _).step hb2 | replace hs := (((hs.push _ _).push _ _).push _ _).step hb2); (try simp only [World.size_alloc] at hs); (try clear hk); have hk := hs.has; simp [Has, HasAt] at hk))
    go_ret
    exact ⟨rfl, hs.bel⟩

theorem St.add {w W : World} {v : Nat} {vs : List Value} {t : TypeId} {l : List (Nat × List Value)} (h : St w W l) (hv : W.heap[v]? = some (.cells vs.toArray t)) : St w W ((v, vs) :: l) :=
  ⟨h.bel, ⟨(Array.getElem?_eq_some_iff.1 hv).1, fun o => by simp [World.frozen?, hv], hasAt_of _ _ (fun j u hj => by simp [World.cell?, hv]; simpa using hj)⟩, h.has⟩

theorem iCellAt8 {s t : Int} (h : spB s t = true) (w : World) :
    Calls Try.prog 17 #[.agg #[.int .i64 s, .int .i64 t], .int .i64 8] w fun e w' => e = .returned (.agg #[.int .i64 8, .int .i64 s, .int .i64 t]) ∧ Below w.heap.size w w' := by
  have hl : levB 8 = true := by decide
  have := iCellAt_any s t 8 w
  simp only [aL, aX, aY, h, hl, Bool.and_self, if_true] at this
  simpa using this

end Go.Proofs.Ytdabkhlhejjnpaa
