/-
  A Spot of the laws below any bound.
-/
import Derived.Test.YthmpemamagjeeaaE2
namespace Go.Proofs.Ythmpemamagjeeaa
open Go.RowKit Go.Joins
attribute [local go_sem ↓] Go.wp_at_zero Go.wp_at_succ

set_option maxHeartbeats 1000000 in
theorem spot_n (a : Option Addr) (len cap : Nat) (zs : List Int) (seed n : Int) (g : Nat) (w : World) (hl : len ≤ 4096) (hr : Rd w g a len zs) (hs1 : 0 ≤ seed) (hs2 : seed ≤ 100) (hn : 1 ≤ n) :
    Calls Try.prog 32 #[.slice a len cap, .int .i64 seed, .int .i64 n] w fun e w' => ∃ x y : Int, e = .returned (.agg #[.int .i64 x, .int .i64 y]) ∧ 0 ≤ x ∧ x < n ∧ 0 ≤ y ∧ y < n ∧ Below w.heap.size w w' := by
  have HR : Hid (Rd (w.alloc (.cells #[.int .i64 0, .int .i64 0] 30)) (g + w.heap.size) a len zs) := hr.up (below_alloc1 _ _) (by omega)
  clear hr
  have tok1 : True := trivial
  go_enter Try.func32, Try.ntmps32
  go_wp2_with (first | (go_at_call 73; have _t := tok1; clear _t tok1; refine (pick_any a len cap zs _ _ _ _ hl HR.out (by omega) (by omega) (by omega)).mono ?_; rintro e w1 ⟨x, rfl, hx0, hx1, rfl⟩) | (go_at_call 73; refine (pick_any a len cap zs _ _ _ _ hl HR.out (by omega) (by omega) (by omega)).mono ?_; rintro e w1 ⟨y, rfl, hy0, hy1, rfl⟩))
  refine bodyPost_ret (v := .agg #[.int .i64 x, .int .i64 y]) (by simp [results, Try.results32, go_sem]) rfl ⟨_, _, rfl, hx0, hx1, hy0, hy1, ?_⟩
  exact below_alloc1 _ _

theorem Sx.box {w W : World} {ls : List (Value × List T3)} (h : Sx w W ls) {b : Nat} (hb : w.heap.size ≤ b) (hd : ∀ p ∈ ls, p.1.ownBlock ≠ some b) (i : Nat) (v : Value) : Sx w (W.setCell ⟨b, i, none⟩ v) ls := by
  refine ⟨h.bel.setCell (p := ⟨b, i, none⟩) hb v, fun p hp => (h.own p hp).kept (row := some b) ⟨rfl, rfl, rfl, by simp, fun k _ hne => Below.heap_setCell W ⟨b, i, none⟩ v k (fun e => hne (by rw [show k = b from e]))⟩ (.inr (hd p hp)), h.dis⟩
theorem below_drewN (W : World) (n : Nat) : Below W.heap.size W (W.drewN n) := bdrewN (Below.refl _ _) n
theorem Sx.new {w W : World} {ls : List (Value × List T3)} (h : Sx w W ls) : ∀ p ∈ ls, p.1.ownBlock ≠ some W.heap.size := fun p hp e => by have := ((h.own p hp).lt _ e).2; omega

end Go.Proofs.Ythmpemamagjeeaa
