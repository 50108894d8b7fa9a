/-
  Contracts of the program's Apart, Far, Holds: what each answers for whatever numbers; nothing old in memory turns.
-/
import Derived.Test.YtipfcmfcdfofmaaGreatW4
namespace Go.Proofs.YtipfcmfcdfofmaaGreat
open Go.RowKit Go.Joins
attribute [local go_sem ↓] Go.wp_at_zero Go.wp_at_succ

theorem keepS {P C : World → Prop} (hS : ∀ w', P w' → C w') {w' : World} (h : P w') : P w' ∧ C w' := ⟨h, hS _ h⟩
theorem every_rr_v (x1 y1 a1 b1 x2 y2 a2 b2 : Int) (v : Bool) (g : Nat) (w : World) (hv : (okB x1 y1 a1 b1 && okB x2 y2 a2 b2) = v) (hg : g < w.heap.size)
    (h0 : w.cell? ⟨g, 0, none⟩ = some (.func (Fn.func 45) #[.agg #[.int .i64 x1, .int .i64 y1, .int .i64 a1, .int .i64 b1]] #[])) (h1 : w.cell? ⟨g, 1, none⟩ = some (.func (Fn.func 45) #[.agg #[.int .i64 x2, .int .i64 y2, .int .i64 a2, .int .i64 b2]] #[])) :
    Calls Tryz.prog 43 #[.slice (some ⟨g, 0, none⟩) 2 2] w fun e w' => e = .returned (.bool v) ∧ Below w.heap.size w w' := by
  subst hv; exact every_rr x1 y1 a1 b1 x2 y2 a2 b2 g w hg h0 h1
theorem every_rs_v (x1 y1 a1 b1 x2 y2 : Int) (v : Bool) (g : Nat) (w : World) (hv : (okB x1 y1 a1 b1 && spB x2 y2) = v) (hg : g < w.heap.size)
    (h0 : w.cell? ⟨g, 0, none⟩ = some (.func (Fn.func 45) #[.agg #[.int .i64 x1, .int .i64 y1, .int .i64 a1, .int .i64 b1]] #[])) (h1 : w.cell? ⟨g, 1, none⟩ = some (.func (Fn.func 54) #[.agg #[.int .i64 x2, .int .i64 y2]] #[])) :
    Calls Tryz.prog 43 #[.slice (some ⟨g, 0, none⟩) 2 2] w fun e w' => e = .returned (.bool v) ∧ Below w.heap.size w w' := by
  subst hv; exact every_rs x1 y1 a1 b1 x2 y2 g w hg h0 h1
theorem every_ss_v (x1 y1 x2 y2 : Int) (v : Bool) (g : Nat) (w : World) (hv : (spB x1 y1 && spB x2 y2) = v) (hg : g < w.heap.size)
    (h0 : w.cell? ⟨g, 0, none⟩ = some (.func (Fn.func 54) #[.agg #[.int .i64 x1, .int .i64 y1]] #[])) (h1 : w.cell? ⟨g, 1, none⟩ = some (.func (Fn.func 54) #[.agg #[.int .i64 x2, .int .i64 y2]] #[])) :
    Calls Tryz.prog 43 #[.slice (some ⟨g, 0, none⟩) 2 2] w fun e w' => e = .returned (.bool v) ∧ Below w.heap.size w w' := by
  subst hv; exact every_ss x1 y1 x2 y2 g w hg h0 h1

theorem near_sq (x a s : Int) (h1 : 1 ≤ a) : (near x a s - s) * (near x a s - s) = fd x a s * fd x a s := by
  have h : near x a s - s = fd x a s ∨ near x a s - s = - fd x a s := by unfold near fd; omega
  rcases h with h | h <;> rw [h]
  rw [Int.neg_mul_neg]
theorem near_in {x a s : Int} (h1 : 1 ≤ a) : near x a s = s ↔ (x ≤ s ∧ s < x + a) := by unfold near; omega
theorem near_sp {x y a b s t : Int} (h : okB x y a b = true) (h' : spB s t = true) : spB (near x a s) (near y b t) = true := by
  have k := okB_t.mp h
  have k' := spB_t.mp h'
  apply spB_t.mpr; unfold near; omega
theorem ap_near (x y a b s t : Int) (h : okB x y a b = true) (h' : spB s t = true) : apI (near x a s) (near y b t) s t = farI x y a b s t := by
  have k := okB_t.mp h
  simp only [apI, farI, near_sp h h', h, h', Bool.and_self, if_true]
  rw [near_sq x a s (by omega), near_sq y b t (by omega)]

end Go.Proofs.YtipfcmfcdfofmaaGreat
