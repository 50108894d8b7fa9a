/-
  Contracts of the drawing functions, second part: a spot drawn; the laws' own spot. What is drawn is not told: that the call answers numbers, and that of what was there only the cursor turns.
-/
import Derived.Test.YtamnmakegdnblaaMM3
import Derived.Test.YtamnmakegdnblaaMD4
import Derived.Test.YtamnmakegdnblaaMD1
import Derived.Deep.Cut
import Derived.Deep.RegionHeld3
import Derived.Deep.DrawnRows
namespace Go.Proofs.Ytamnmakegdnblaa.M
open Go.RowKit Go.Joins
attribute [local go_sem ↓] Go.wp_at_zero Go.wp_at_succ

set_option maxHeartbeats 1000000 in
theorem spot_any (a : Option Addr) (len cap : Nat) (zs : List Int) (seed : Int) (g : Nat) (w : World) (hl : len ≤ 4096) (hr : Rd w g a len zs) (hs1 : 0 ≤ seed) (hs2 : seed ≤ 100) :
    Calls Try.prog 24 #[.slice a len cap, .int .i64 seed, .int .i64 256] w fun e w' => ∃ x y : Int, e = .returned (.agg #[.int .i64 x, .int .i64 y]) ∧ 0 ≤ x ∧ x < 256 ∧ 0 ≤ y ∧ y < 256 ∧ Below w.heap.size w w' := by
  have HR : Hid (Rd (w.alloc (.cells #[.int .i64 0, .int .i64 0] 37)) (g + w.heap.size) a len zs) := hr.up (below_alloc1 _ _) (by omega)
  clear hr
  have tok1 : True := trivial
  go_enter Try.func24, Try.ntmps24
  go_wp2_with (first | (go_at_call 62; have _t := tok1; clear _t tok1; refine (pick_any a len cap zs _ _ _ _ hl HR.out (by omega) (by omega) (by omega)).mono ?_; rintro e w1 ⟨x, rfl, hx0, hx1, rfl⟩) | (go_at_call 62; refine (pick_any a len cap zs _ _ _ _ hl HR.out (by omega) (by omega) (by omega)).mono ?_; rintro e w1 ⟨y, rfl, hy0, hy1, rfl⟩))
  refine bodyPost_ret (v := .agg #[.int .i64 x, .int .i64 y]) (by simp [results, Try.results24, go_sem]) rfl ⟨_, _, rfl, hx0, hx1, hy0, hy1, ?_⟩
  exact below_alloc1 _ _
end Go.Proofs.Ytamnmakegdnblaa.M
