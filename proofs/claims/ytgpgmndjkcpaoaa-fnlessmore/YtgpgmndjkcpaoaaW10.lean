/-
  Contracts of the drawing functions, fourth part: two rects; the laws' own spot.
-/
import Derived.Test.YtgpgmndjkcpaoaaW8
namespace Go.Proofs.Ytgpgmndjkcpaoaa
open Go.RowKit Go.Joins
attribute [local go_sem ↓] Go.wp_at_zero Go.wp_at_succ

theorem Cur.fresh {w : World} {a : Option Addr} {len cap : Nat} {zs : List Int} {h : Int} (hl : len ≤ 4096) (hr : Rd w w.heap.size a len zs) : Cur (w.alloc (.cells #[.slice a len cap, .int .i64 0, .int .i64 h] 74)) w.heap.size a len cap zs :=
  ⟨by simp, hl, by simp [go_sem], ⟨0, Nat.zero_le _, by simp [go_sem]⟩, ⟨h, by simp [go_sem]⟩, by simp [go_sem], by simp [go_sem], hr.turn ((Turn.refl _ w).alloc _)⟩
theorem Rd.up {w w' : World} {g g' : Nat} {a : Option Addr} {len : Nat} {zs : List Int} (h : Rd w g a len zs) (t : Below w.heap.size w w') (hg : w.heap.size ≤ g') : Rd w' g' a len zs := by
  rcases h with h | ⟨b, off, ha, _, hb, hc⟩
  · exact .inl h
  · exact .inr ⟨b, off, ha, by omega, Nat.lt_of_lt_of_le hb t.size, fun j hj => ⟨(t.cell (p := ⟨b, off + j, none⟩) hb).trans (hc j hj).1, (hc j hj).2⟩⟩

set_option maxHeartbeats 400000 in
theorem big_any (a : Option Addr) (len cap : Nat) (w : World) :
    Calls Try.prog 9 #[.slice a len cap] w fun e w' => e = .returned (.bool (decide (4096 < (len : Int)))) ∧ w = w' := by
  go_enter Try.func9, Try.ntmps9
  go_wp2
  go_ret
  exact ⟨rfl, rfl⟩

set_option maxHeartbeats 1000000 in
theorem spot_any (a : Option Addr) (len cap : Nat) (zs : List Int) (seed : Int) (g : Nat) (w : World) (hl : len ≤ 4096) (hr : Rd w g a len zs) (hs1 : 0 ≤ seed) (hs2 : seed ≤ 100) :
    Calls Try.prog 22 #[.slice a len cap, .int .i64 seed, .int .i64 24] w fun e w' => ∃ x y : Int, e = .returned (.agg #[.int .i64 x, .int .i64 y]) ∧ 0 ≤ x ∧ x < 24 ∧ 0 ≤ y ∧ y < 24 ∧ Below w.heap.size w w' := by
  have HR : Hid (Rd (w.alloc (.cells #[.int .i64 0, .int .i64 0] 37)) (g + w.heap.size) a len zs) := hr.up (below_alloc1 _ _) (by omega)
  clear hr
  have tok1 : True := trivial
  go_enter Try.func22, Try.ntmps22
  go_wp2_with (first | (go_at_call 26; have _t := tok1; clear _t tok1; refine (pick_any a len cap zs _ _ _ _ hl HR.out (by omega) (by omega) (by omega)).mono ?_; rintro e w1 ⟨x, rfl, hx0, hx1, rfl⟩) | (go_at_call 26; refine (pick_any a len cap zs _ _ _ _ hl HR.out (by omega) (by omega) (by omega)).mono ?_; rintro e w1 ⟨y, rfl, hy0, hy1, rfl⟩))
  refine bodyPost_ret (v := .agg #[.int .i64 x, .int .i64 y]) (by simp [results, Try.results22, go_sem]) rfl ⟨_, _, rfl, hx0, hx1, hy0, hy1, ?_⟩
  exact below_alloc1 _ _
end Go.Proofs.Ytgpgmndjkcpaoaa
