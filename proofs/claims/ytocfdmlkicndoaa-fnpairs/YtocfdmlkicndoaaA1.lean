/-
  Side: the sign of a triangle's area, the program's and the spec's.
-/
import Derived.Test.YtocfdmlkicndoaaN1
import Derived.Test.YtocfdmlkicndoaaM1
namespace Go.Proofs.Ytocfdmlkicndoaa
open Go.RowKit Go.Joins
attribute [local go_sem ↓] Go.wp_at_zero Go.wp_at_succ

def sg (n : Int) : Int := if 0 < n then 1 else if n < 0 then -1 else 0
theorem sg_bd (n : Int) : -1 ≤ sg n ∧ sg n ≤ 1 := by unfold sg; split <;> (try split) <;> omega
theorem sg_p {n : Int} (h : 0 < n) : sg n = 1 := by unfold sg; rw [if_pos h]
theorem sg_m {n : Int} (h : n < 0) : sg n = -1 := by unfold sg; rw [if_neg (by omega), if_pos h]
theorem sg_z {n : Int} (h : n = 0) : sg n = 0 := by subst h; rfl
theorem pr_bd {u v : Int} (h1 : -255 ≤ u) (h2 : u ≤ 255) (h3 : -255 ≤ v) (h4 : v ≤ 255) : -65025 ≤ u * v ∧ u * v ≤ 65025 := by
  have a := Int.mul_nonneg (show 0 ≤ 255 - u by omega) (show 0 ≤ 255 - v by omega)
  have b := Int.mul_nonneg (show 0 ≤ 255 + u by omega) (show 0 ≤ 255 + v by omega)
  have c := Int.mul_nonneg (show 0 ≤ 255 - u by omega) (show 0 ≤ 255 + v by omega)
  have d := Int.mul_nonneg (show 0 ≤ 255 + u by omega) (show 0 ≤ 255 - v by omega)
  have a' : (255 - u) * (255 - v) = 65025 - 255 * v - 255 * u + u * v := by grind
  have b' : (255 + u) * (255 + v) = 65025 + 255 * v + 255 * u + u * v := by grind
  have c' : (255 - u) * (255 + v) = 65025 + 255 * v - 255 * u - u * v := by grind
  have d' : (255 + u) * (255 - v) = 65025 - 255 * v + 255 * u - u * v := by grind
  omega
def crT (a b c : T2) : Int := cr a.x a.y b.x b.y c.x c.y
theorem cr_bd {a b c : T2} (ha : a.ok = true) (hb : b.ok = true) (hc : c.ok = true) : -130050 ≤ crT a b c ∧ crT a b c ≤ 130050 := by
  have k1 := spB_t.mp ha
  have k2 := spB_t.mp hb
  have k3 := spB_t.mp hc
  have h1 := pr_bd (u := b.x - a.x) (v := c.y - a.y) (by omega) (by omega) (by omega) (by omega)
  have h2 := pr_bd (u := b.y - a.y) (v := c.x - a.x) (by omega) (by omega) (by omega) (by omega)
  unfold crT cr; omega

/-- An edge: a slice of two Spots. -/
def Eg (w : World) (p : Option Addr) (a b : T2) : Prop := ∃ g off, p = some ⟨g, off, none⟩ ∧ g < w.heap.size ∧ w.cell? ⟨g, off, none⟩ = some (.int .i64 a.x) ∧ w.cell? ⟨g, off + 1, none⟩ = some (.int .i64 a.y) ∧ w.cell? ⟨g, off + 2, none⟩ = some (.int .i64 b.x) ∧ w.cell? ⟨g, off + 2 + 1, none⟩ = some (.int .i64 b.y)
theorem Eg.step {w w' : World} {p : Option Addr} {a b : T2} (h : Eg w p a b) (hb : Below w.heap.size w w') : Eg w' p a b := by
  obtain ⟨g, off, rfl, hg, h0, h1, h2, h3⟩ := h
  exact ⟨g, off, rfl, Nat.lt_of_lt_of_le hg hb.size, (hb.cell (p := ⟨g, _, none⟩) hg).trans h0, (hb.cell (p := ⟨g, _, none⟩) hg).trans h1, (hb.cell (p := ⟨g, _, none⟩) hg).trans h2, (hb.cell (p := ⟨g, _, none⟩) hg).trans h3⟩

set_option maxHeartbeats 1000000 in
theorem side_any {a b c : T2} (ha : a.ok = true) (hb : b.ok = true) (hc : c.ok = true) (p : Option Addr) (w : World) (hE : Eg w p a b) :
    Calls Try.prog 63 #[.slice p 2 2, .agg #[.int .i64 c.x, .int .i64 c.y]] w fun e w' => e = .returned (.int .i64 (sg (crT a b c))) ∧ Below w.heap.size w w' := by
  have k1 := spB_t.mp ha
  have k2 := spB_t.mp hb
  have k3 := spB_t.mp hc
  have h1 := pr_bd (u := b.x - a.x) (v := c.y - a.y) (by omega) (by omega) (by omega) (by omega)
  have h2 := pr_bd (u := b.y - a.y) (v := c.x - a.x) (by omega) (by omega) (by omega) (by omega)
  clear ha hb hc
  obtain ⟨g, off, rfl, hg, c0, c1, c2, c3⟩ := hE
  have hc3 : ∀ (o1 o2 o3 : Obj) (k : Nat), (((w.alloc o1).alloc o2).alloc o3).cell? ⟨g, k, none⟩ = w.cell? ⟨g, k, none⟩ := fun o1 o2 o3 k => (below_alloc3 w o1 o2 o3).cell (p := ⟨g, k, none⟩) hg
  have hsg : sg (crT a b c) = sg ((b.x - a.x) * (c.y - a.y) - (b.y - a.y) * (c.x - a.x)) := rfl
  rcases Int.lt_trichotomy ((b.x - a.x) * (c.y - a.y) - (b.y - a.y) * (c.x - a.x)) 0 with h | h | h
  all_goals
    go_enter Try.func63, Try.ntmps63
    go_wp2
    go_region
    go_wp2
  all_goals (go_ret; exact ⟨ret_i64 (by rw [hsg]; first | exact (sg_p h).symm | exact (sg_m h).symm | exact (sg_z h).symm), (below_alloc3 _ _ _ _).drew⟩)
theorem side_v {a b c : T2} {v : Int} (hv : sg (crT a b c) = v) (ha : a.ok = true) (hb : b.ok = true) (hc : c.ok = true) (p : Option Addr) (w : World) (hE : Eg w p a b) :
    Calls Try.prog 63 #[.slice p 2 2, .agg #[.int .i64 c.x, .int .i64 c.y]] w fun e w' => e = .returned (.int .i64 v) ∧ Below w.heap.size w w' := by subst hv; exact side_any ha hb hc p w hE

set_option maxHeartbeats 1000000 in
theorem every_sss (x1 y1 x2 y2 x3 y3 : Int) (g : Nat) (w : World) (hg : g < w.heap.size)
    (h0 : w.cell? ⟨g, 0, none⟩ = some (.func (Fn.func 42) #[.agg #[.int .i64 x1, .int .i64 y1]] #[])) (h1 : w.cell? ⟨g, 1, none⟩ = some (.func (Fn.func 42) #[.agg #[.int .i64 x2, .int .i64 y2]] #[])) (h2 : w.cell? ⟨g, 2, none⟩ = some (.func (Fn.func 42) #[.agg #[.int .i64 x3, .int .i64 y3]] #[])) :
    Calls Try.prog 41 #[.slice (some ⟨g, 0, none⟩) 3 3] w fun e w' => e = .returned (.bool (spB x1 y1 && spB x2 y2 && spB x3 y3)) ∧ Below w.heap.size w w' := by
  cases k1 : spB x1 y1
  · go_enter Try.func41, Try.ntmps41
    go_wp2
    refine wp_loop_rounds 4 ?_
    rw [rounds_succ]
    go_wp2_with ((go_at_call 42; refine (spRight_any x1 y1 _).mono ?_; rintro e w1 ⟨rfl, hb2⟩; (first | replace hb := bstep hb hb2 (Nat.le_refl _) | replace hb := bstepA hb hb2 (Nat.le_refl _) | have hb := hb2); (try clear hc hf); obtain ⟨hc, hf⟩ := bcell hb))
    go_ret
    exact ⟨rfl, hb⟩
  cases k2 : spB x2 y2
  · go_enter Try.func41, Try.ntmps41
    go_wp2
    refine wp_loop_rounds 4 ?_
    rw [rounds_succ]
    go_wp2_with ((go_at_call 42; refine (spRight_any x1 y1 _).mono ?_; rintro e w1 ⟨rfl, hb2⟩; (first | replace hb := bstep hb hb2 (Nat.le_refl _) | replace hb := bstepA hb hb2 (Nat.le_refl _) | have hb := hb2); (try clear hc hf); obtain ⟨hc, hf⟩ := bcell hb))
    rw [rounds_succ]
    go_wp2_with ((go_at_call 42; refine (spRight_any x2 y2 _).mono ?_; rintro e w1 ⟨rfl, hb2⟩; (first | replace hb := bstep hb hb2 (Nat.le_refl _) | replace hb := bstepA hb hb2 (Nat.le_refl _) | have hb := hb2); (try clear hc hf); obtain ⟨hc, hf⟩ := bcell hb))
    go_ret
    exact ⟨rfl, hb⟩
  cases k3 : spB x3 y3
  · go_enter Try.func41, Try.ntmps41
    go_wp2
    refine wp_loop_rounds 4 ?_
    rw [rounds_succ]
    go_wp2_with ((go_at_call 42; refine (spRight_any x1 y1 _).mono ?_; rintro e w1 ⟨rfl, hb2⟩; (first | replace hb := bstep hb hb2 (Nat.le_refl _) | replace hb := bstepA hb hb2 (Nat.le_refl _) | have hb := hb2); (try clear hc hf); obtain ⟨hc, hf⟩ := bcell hb))
    rw [rounds_succ]
    go_wp2_with ((go_at_call 42; refine (spRight_any x2 y2 _).mono ?_; rintro e w1 ⟨rfl, hb2⟩; (first | replace hb := bstep hb hb2 (Nat.le_refl _) | replace hb := bstepA hb hb2 (Nat.le_refl _) | have hb := hb2); (try clear hc hf); obtain ⟨hc, hf⟩ := bcell hb))
    rw [rounds_succ]
    go_wp2_with ((go_at_call 42; refine (spRight_any x3 y3 _).mono ?_; rintro e w1 ⟨rfl, hb2⟩; (first | replace hb := bstep hb hb2 (Nat.le_refl _) | replace hb := bstepA hb hb2 (Nat.le_refl _) | have hb := hb2); (try clear hc hf); obtain ⟨hc, hf⟩ := bcell hb))
    go_ret
    exact ⟨rfl, hb⟩
  · go_enter Try.func41, Try.ntmps41
    go_wp2
    refine wp_loop_rounds 4 ?_
    rw [rounds_succ]
    go_wp2_with ((go_at_call 42; refine (spRight_any x1 y1 _).mono ?_; rintro e w1 ⟨rfl, hb2⟩; (first | replace hb := bstep hb hb2 (Nat.le_refl _) | replace hb := bstepA hb hb2 (Nat.le_refl _) | have hb := hb2); (try clear hc hf); obtain ⟨hc, hf⟩ := bcell hb))
    rw [rounds_succ]
    go_wp2_with ((go_at_call 42; refine (spRight_any x2 y2 _).mono ?_; rintro e w1 ⟨rfl, hb2⟩; (first | replace hb := bstep hb hb2 (Nat.le_refl _) | replace hb := bstepA hb hb2 (Nat.le_refl _) | have hb := hb2); (try clear hc hf); obtain ⟨hc, hf⟩ := bcell hb))
    rw [rounds_succ]
    go_wp2_with ((go_at_call 42; refine (spRight_any x3 y3 _).mono ?_; rintro e w1 ⟨rfl, hb2⟩; (first | replace hb := bstep hb hb2 (Nat.le_refl _) | replace hb := bstepA hb hb2 (Nat.le_refl _) | have hb := hb2); (try clear hc hf); obtain ⟨hc, hf⟩ := bcell hb))
    rw [rounds_succ]
    go_wp2
    go_ret
    exact ⟨rfl, hb⟩
theorem every_sss_v {x1 y1 x2 y2 x3 y3 : Int} {v : Bool} (hv : (spB x1 y1 && spB x2 y2 && spB x3 y3) = v) (g : Nat) (w : World) (hg : g < w.heap.size)
    (h0 : w.cell? ⟨g, 0, none⟩ = some (.func (Fn.func 42) #[.agg #[.int .i64 x1, .int .i64 y1]] #[])) (h1 : w.cell? ⟨g, 1, none⟩ = some (.func (Fn.func 42) #[.agg #[.int .i64 x2, .int .i64 y2]] #[])) (h2 : w.cell? ⟨g, 2, none⟩ = some (.func (Fn.func 42) #[.agg #[.int .i64 x3, .int .i64 y3]] #[])) :
    Calls Try.prog 41 #[.slice (some ⟨g, 0, none⟩) 3 3] w fun e w' => e = .returned (.bool v) ∧ Below w.heap.size w w' := by subst hv; exact every_sss x1 y1 x2 y2 x3 y3 g w hg h0 h1 h2

def sideI (a b c : T2) : Int := if a.ok && b.ok && c.ok then sg (crT a b c) else 0

end Go.Proofs.Ytocfdmlkicndoaa
