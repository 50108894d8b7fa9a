/-
  The law of Reaches, walked: the program answers as the spec, and the list that was handed in reads as before.
-/
import Derived.Test.YtkinbgcnenieeaaGreatDoorML3
import Derived.Laws.EntriesVeiled
import Derived.Deep.RegionHeld3
import Derived.Deep.DrawnRows
import Derived.Test.YtkinbgcnenieeaaGreatDoorML4
import Derived.Deep.Cut
import Derived.Deep.CutBlock
namespace Go.Proofs.YtkinbgcnenieeaaGreatDoor.M
open Go.RowKit Go.Joins
def okB (x y w h : Int) : Bool := decide (0 ≤ x ∧ x ≤ 255 ∧ 0 ≤ y ∧ y ≤ 255 ∧ 1 ≤ w ∧ w ≤ 256 - x ∧ 1 ≤ h ∧ h ≤ 256 - y)
theorem okB_t {x y w h : Int} : okB x y w h = true ↔ (0 ≤ x ∧ x ≤ 255 ∧ 0 ≤ y ∧ y ≤ 255 ∧ 1 ≤ w ∧ w ≤ 256 - x ∧ 1 ≤ h ∧ h ≤ 256 - y) := by unfold okB; exact decide_eq_true_iff
def areaI (x y a b : Int) : Int := if okB x y a b then a * b else 0
def inR (x y a b s t : Int) : Bool := decide (x ≤ s ∧ s < x + a ∧ y ≤ t ∧ t < y + b)
def mW (x1 a1 x2 a2 : Int) : Int := min (x1 + a1) (x2 + a2) - max x1 x2
def mB (x1 y1 a1 b1 x2 y2 a2 b2 : Int) : Bool := decide (1 ≤ mW x1 a1 x2 a2 ∧ 1 ≤ mW y1 b1 y2 b2)
theorem okB_f {x y w h : Int} : okB x y w h = false ↔ ¬ (0 ≤ x ∧ x ≤ 255 ∧ 0 ≤ y ∧ y ≤ 255 ∧ 1 ≤ w ∧ w ≤ 256 - x ∧ 1 ≤ h ∧ h ≤ 256 - y) := by unfold okB; exact decide_eq_false_iff_not
theorem mul_bd2 {a b : Int} (h1 : 0 ≤ a) (h2 : a ≤ 256) (h3 : 0 ≤ b) (h4 : b ≤ 256) : 0 ≤ a * b ∧ a * b ≤ 65536 :=
  ⟨Int.mul_nonneg h1 h3, by have := Int.mul_le_mul h2 h4 h3 (by decide); omega⟩
set_option maxHeartbeats 400000 in
theorem sMin_any (a b : Int) (w : World) :
    Calls Tryz.prog 82 #[.int .i64 a, .int .i64 b] w fun e w' => e = .returned (.int .i64 (min a b)) ∧ w = w' := by
  go_enter Tryz.func82, Tryz.ntmps82
  go_wp2
  all_goals (go_ret; exact ⟨ret_i64 (by omega), rfl⟩)
def meetV (x1 y1 a1 b1 x2 y2 a2 b2 : Int) : Value := if okB x1 y1 a1 b1 && okB x2 y2 a2 b2 && mB x1 y1 a1 b1 x2 y2 a2 b2 then .tuple #[.agg #[.int .i64 (max x1 x2), .int .i64 (max y1 y2), .int .i64 (mW x1 a1 x2 a2), .int .i64 (mW y1 b1 y2 b2)], .bool true] else .tuple #[.agg #[.int .i64 0, .int .i64 0, .int .i64 0, .int .i64 0], .bool false]
theorem ret_two {a b c d : Int} (h : a = c) (k : b = d) : Ending.returned (.tuple #[.int .i64 a, .int .i64 b]) = .returned (.tuple #[.int .i64 c, .int .i64 d]) := by rw [h, k]
theorem wrI {n : Int} (h1 : -1000000 ≤ n) (h2 : n ≤ 1000000) : IntKind.i64.wrap n = n := by rw [IntKind.wrap_i64]; omega
def peek (w : World) (a : Addr) : Value := (w.cell? a).getD undef
theorem peek_of {w : World} {a : Addr} {v : Value} (h : w.cell? a = some v) : w.cell? a = some (peek w a) := by simp [peek, h]
theorem peek_set {w : World} {a b : Addr} {u : Value} (h : w.cell? a = some (peek w a)) : (w.setCell b u).cell? a = some (peek (w.setCell b u) a) := by
  obtain ⟨v', hv⟩ := cell?_setCell_some (w := w) (p := b) (x := u) (q := a) h
  exact peek_of hv
theorem thr_step {P w1 : World} {g : Nat} (hg : g < P.heap.size) (hb : Below P.heap.size P w1) (h : P.cell? ⟨g, 0, none⟩ = some (peek P ⟨g, 0, none⟩) ∧ P.cell? ⟨g, 1, none⟩ = some (peek P ⟨g, 1, none⟩) ∧ P.frozen? ⟨g, 0, none⟩ = false ∧ P.frozen? ⟨g, 1, none⟩ = false) :
    w1.cell? ⟨g, 0, none⟩ = some (peek w1 ⟨g, 0, none⟩) ∧ w1.cell? ⟨g, 1, none⟩ = some (peek w1 ⟨g, 1, none⟩) ∧ w1.frozen? ⟨g, 0, none⟩ = false ∧ w1.frozen? ⟨g, 1, none⟩ = false := by
  obtain ⟨hc, hf⟩ := bcell hb
  exact ⟨peek_of ((hc g 0 hg).trans h.1), peek_of ((hc g 1 hg).trans h.2.1), (hf g 0 hg).trans h.2.2.1, (hf g 1 hg).trans h.2.2.2⟩
theorem thr_set {P : World} {g : Nat} {u v : Value} (h : P.cell? ⟨g, 0, none⟩ = some (peek P ⟨g, 0, none⟩) ∧ P.cell? ⟨g, 1, none⟩ = some (peek P ⟨g, 1, none⟩) ∧ P.frozen? ⟨g, 0, none⟩ = false ∧ P.frozen? ⟨g, 1, none⟩ = false) :
    ((P.setCell ⟨g, 0, none⟩ u).setCell ⟨g, 1, none⟩ v).cell? ⟨g, 0, none⟩ = some (peek ((P.setCell ⟨g, 0, none⟩ u).setCell ⟨g, 1, none⟩ v) ⟨g, 0, none⟩) ∧ ((P.setCell ⟨g, 0, none⟩ u).setCell ⟨g, 1, none⟩ v).cell? ⟨g, 1, none⟩ = some (peek ((P.setCell ⟨g, 0, none⟩ u).setCell ⟨g, 1, none⟩ v) ⟨g, 1, none⟩) ∧ ((P.setCell ⟨g, 0, none⟩ u).setCell ⟨g, 1, none⟩ v).frozen? ⟨g, 0, none⟩ = false ∧ ((P.setCell ⟨g, 0, none⟩ u).setCell ⟨g, 1, none⟩ v).frozen? ⟨g, 1, none⟩ = false :=
  ⟨peek_set (peek_set h.1), peek_set (peek_set h.2.1), by simp [h.2.2.1], by simp [h.2.2.2]⟩
theorem ok_meet {x1 y1 a1 b1 x2 y2 a2 b2 : Int} (h1 : okB x1 y1 a1 b1 = true) (h2 : okB x2 y2 a2 b2 = true) :
    okB (max x1 x2) (max y1 y2) (min (x1 + a1 - 1) (x2 + a2 - 1) - max x1 x2 + 1) (min (y1 + b1 - 1) (y2 + b2 - 1) - max y1 y2 + 1) = mB x1 y1 a1 b1 x2 y2 a2 b2 := by
  have k := okB_t.mp h1
  have k' := okB_t.mp h2
  unfold okB mB mW
  exact decide_eq_decide.mpr (by omega)
theorem meet_val {x1 y1 a1 b1 x2 y2 a2 b2 : Int} (hv : (okB x1 y1 a1 b1 && okB x2 y2 a2 b2) = true) (hm : mB x1 y1 a1 b1 x2 y2 a2 b2 = true) : Ending.returned (.tuple #[.agg #[.int .i64 (max x1 x2), .int .i64 (max y1 y2), .int .i64 (min (x1 + a1 - 1) (x2 + a2 - 1) - max x1 x2 + 1), .int .i64 (min (y1 + b1 - 1) (y2 + b2 - 1) - max y1 y2 + 1)], .bool true]) = .returned (meetV x1 y1 a1 b1 x2 y2 a2 b2) := by
  have e1 : min (x1 + a1 - 1) (x2 + a2 - 1) - max x1 x2 + 1 = mW x1 a1 x2 a2 := by unfold mW; omega
  have e2 : min (y1 + b1 - 1) (y2 + b2 - 1) - max y1 y2 + 1 = mW y1 b1 y2 b2 := by unfold mW; omega
  rw [e1, e2]; simp [meetV, hv, hm]
end Go.Proofs.YtkinbgcnenieeaaGreatDoor.M
namespace Go.Proofs.YtkinbgcnenieeaaGreatDoor.M
open Go.RowKit Go.Joins
attribute [local go_sem ↓] Go.wp_at_zero Go.wp_at_succ

theorem areRight_v {L : List T3} {v : Bool} (hv : okL L = v) (p : Option Addr) (cap : Nat) (w : World) (hL : Sl w p L) (hn : L.length ≤ 1048576) :
    Calls Tryz.prog 72 #[.slice p L.length cap] w fun e w' => e = .returned (.bool v) ∧ Below w.heap.size w w' := by subst hv; exact areRight_any p cap L w hL hn
theorem l3Cells_v {L : List T3} {v : Bool} (hv : okL L = v) (p : Option Addr) (cap : Nat) (w : World) (hL : Sl w p L) (hn : L.length ≤ 10000000) :
    Calls Tryz.prog 62 #[.slice p L.length cap] w fun e w' => e = .returned (.bool v) ∧ Below w.heap.size w w' := by subst hv; exact l3Cells_any p cap L w hL hn
theorem have_v {L : List T3} {c : T3} {v : Bool} (hv : haveB L c = v) (p : Option Addr) (cap : Nat) (w : World) (hL : Sl w p L) (hn : L.length ≤ 10000000) :
    Calls Tryz.prog 80 #[.slice p L.length cap, .agg #[.int .i64 c.l, .int .i64 c.x, .int .i64 c.y]] w fun e w' => e = .returned (.bool v) ∧ Below w.heap.size w w' := by subst hv; exact have_any p cap L c w hL hn

set_option maxHeartbeats 1000000 in
theorem every_ls (p : Option Addr) (cap : Nat) (L : List T3) (s t : Int) (g : Nat) (w : World) (hg : g < w.heap.size) (hL : Sl w p L) (hn : L.length ≤ 1048576)
    (h0 : w.cell? ⟨g, 0, none⟩ = some (.func (Fn.func 72) #[.slice p L.length cap] #[])) (h1 : w.cell? ⟨g, 1, none⟩ = some (.func (Fn.func 79) #[.agg #[.int .i64 s, .int .i64 t]] #[])) :
    Calls Tryz.prog 24 #[.slice (some ⟨g, 0, none⟩) 2 2] w fun e w' => e = .returned (.bool (okL L && spB s t)) ∧ Below w.heap.size w w' := by
  cases k1 : okL L
  · go_enter Tryz.func24, Tryz.ntmps24
    go_wp2
    refine wp_loop_rounds 3 ?_
    rw [rounds_succ]
    go_wp2_with ((go_at_call 72; refine (areRight_v k1 p cap w hL hn).mono ?_; rintro e w1 ⟨rfl, hb2⟩; (first | replace hb := bstep hb hb2 (Nat.le_refl _) | replace hb := bstepA hb hb2 (Nat.le_refl _) | have hb := hb2); (try clear hc hf); obtain ⟨hc, hf⟩ := bcell hb))
    go_ret
    exact ⟨rfl, hb⟩
  cases k2 : spB s t
  · go_enter Tryz.func24, Tryz.ntmps24
    go_wp2
    refine wp_loop_rounds 3 ?_
    rw [rounds_succ]
    go_wp2_with ((go_at_call 72; refine (areRight_v k1 p cap w hL hn).mono ?_; rintro e w1 ⟨rfl, hb2⟩; (first | replace hb := bstep hb hb2 (Nat.le_refl _) | replace hb := bstepA hb hb2 (Nat.le_refl _) | have hb := hb2); (try clear hc hf); obtain ⟨hc, hf⟩ := bcell hb))
    rw [rounds_succ]
    go_wp2_with ((go_at_call 79; refine (spRight_v k2 _).mono ?_; rintro e w1 ⟨rfl, hb2⟩; (first | replace hb := bstep hb hb2 (Nat.le_refl _) | replace hb := bstepA hb hb2 (Nat.le_refl _) | have hb := hb2); (try clear hc hf); obtain ⟨hc, hf⟩ := bcell hb))
    go_ret
    exact ⟨rfl, hb⟩
  · go_enter Tryz.func24, Tryz.ntmps24
    go_wp2
    refine wp_loop_rounds 3 ?_
    rw [rounds_succ]
    go_wp2_with ((go_at_call 72; refine (areRight_v k1 p cap w hL hn).mono ?_; rintro e w1 ⟨rfl, hb2⟩; (first | replace hb := bstep hb hb2 (Nat.le_refl _) | replace hb := bstepA hb hb2 (Nat.le_refl _) | have hb := hb2); (try clear hc hf); obtain ⟨hc, hf⟩ := bcell hb))
    rw [rounds_succ]
    go_wp2_with ((go_at_call 79; refine (spRight_v k2 _).mono ?_; rintro e w1 ⟨rfl, hb2⟩; (first | replace hb := bstep hb hb2 (Nat.le_refl _) | replace hb := bstepA hb hb2 (Nat.le_refl _) | have hb := hb2); (try clear hc hf); obtain ⟨hc, hf⟩ := bcell hb))
    rw [rounds_succ]
    go_wp2
    go_ret
    exact ⟨rfl, hb⟩

set_option maxHeartbeats 1000000 in
theorem every_ll (p q : Option Addr) (cap cap2 : Nat) (L M : List T3) (g : Nat) (w : World) (hg : g < w.heap.size) (hL : Sl w p L) (hn : L.length ≤ 1048576) (hM : Sl w q M) (hm : M.length ≤ 1048576)
    (h0 : w.cell? ⟨g, 0, none⟩ = some (.func (Fn.func 72) #[.slice p L.length cap] #[])) (h1 : w.cell? ⟨g, 1, none⟩ = some (.func (Fn.func 72) #[.slice q M.length cap2] #[])) :
    Calls Tryz.prog 24 #[.slice (some ⟨g, 0, none⟩) 2 2] w fun e w' => e = .returned (.bool (okL L && okL M)) ∧ Below w.heap.size w w' := by
  cases k1 : okL L
  · go_enter Tryz.func24, Tryz.ntmps24
    go_wp2
    refine wp_loop_rounds 3 ?_
    rw [rounds_succ]
    go_wp2_with ((go_at_call 72; refine (areRight_v k1 p cap w hL hn).mono ?_; rintro e w1 ⟨rfl, hb2⟩; (first | replace hb := bstep hb hb2 (Nat.le_refl _) | replace hb := bstepA hb hb2 (Nat.le_refl _) | have hb := hb2); (try clear hc hf); obtain ⟨hc, hf⟩ := bcell hb))
    go_ret
    exact ⟨rfl, hb⟩
  cases k2 : okL M
  · go_enter Tryz.func24, Tryz.ntmps24
    go_wp2
    refine wp_loop_rounds 3 ?_
    rw [rounds_succ]
    go_wp2_with ((go_at_call 72; refine (areRight_v k1 p cap w hL hn).mono ?_; rintro e w1 ⟨rfl, hb2⟩; (first | replace hb := bstep hb hb2 (Nat.le_refl _) | replace hb := bstepA hb hb2 (Nat.le_refl _) | have hb := hb2); (try clear hc hf); obtain ⟨hc, hf⟩ := bcell hb))
    rw [rounds_succ]
    go_wp2_with ((go_at_call 72; refine (areRight_v k2 q cap2 _ (hM.step hb) hm).mono ?_; rintro e w1 ⟨rfl, hb2⟩; (first | replace hb := bstep hb hb2 (Nat.le_refl _) | replace hb := bstepA hb hb2 (Nat.le_refl _) | have hb := hb2); (try clear hc hf); obtain ⟨hc, hf⟩ := bcell hb))
    go_ret
    exact ⟨rfl, hb⟩
  · go_enter Tryz.func24, Tryz.ntmps24
    go_wp2
    refine wp_loop_rounds 3 ?_
    rw [rounds_succ]
    go_wp2_with ((go_at_call 72; refine (areRight_v k1 p cap w hL hn).mono ?_; rintro e w1 ⟨rfl, hb2⟩; (first | replace hb := bstep hb hb2 (Nat.le_refl _) | replace hb := bstepA hb hb2 (Nat.le_refl _) | have hb := hb2); (try clear hc hf); obtain ⟨hc, hf⟩ := bcell hb))
    rw [rounds_succ]
    go_wp2_with ((go_at_call 72; refine (areRight_v k2 q cap2 _ (hM.step hb) hm).mono ?_; rintro e w1 ⟨rfl, hb2⟩; (first | replace hb := bstep hb hb2 (Nat.le_refl _) | replace hb := bstepA hb hb2 (Nat.le_refl _) | have hb := hb2); (try clear hc hf); obtain ⟨hc, hf⟩ := bcell hb))
    rw [rounds_succ]
    go_wp2
    go_ret
    exact ⟨rfl, hb⟩

theorem every_ls_v {L : List T3} {s t : Int} {v : Bool} (hv : (okL L && spB s t) = v) (p : Option Addr) (cap : Nat) (g : Nat) (w : World) (hg : g < w.heap.size) (hL : Sl w p L) (hn : L.length ≤ 1048576)
    (h0 : w.cell? ⟨g, 0, none⟩ = some (.func (Fn.func 72) #[.slice p L.length cap] #[])) (h1 : w.cell? ⟨g, 1, none⟩ = some (.func (Fn.func 79) #[.agg #[.int .i64 s, .int .i64 t]] #[])) :
    Calls Tryz.prog 24 #[.slice (some ⟨g, 0, none⟩) 2 2] w fun e w' => e = .returned (.bool v) ∧ Below w.heap.size w w' := by subst hv; exact every_ls p cap L s t g w hg hL hn h0 h1
theorem every_ll_v {L M : List T3} {v : Bool} (hv : (okL L && okL M) = v) (p q : Option Addr) (cap cap2 : Nat) (g : Nat) (w : World) (hg : g < w.heap.size) (hL : Sl w p L) (hn : L.length ≤ 1048576) (hM : Sl w q M) (hm : M.length ≤ 1048576)
    (h0 : w.cell? ⟨g, 0, none⟩ = some (.func (Fn.func 72) #[.slice p L.length cap] #[])) (h1 : w.cell? ⟨g, 1, none⟩ = some (.func (Fn.func 72) #[.slice q M.length cap2] #[])) :
    Calls Tryz.prog 24 #[.slice (some ⟨g, 0, none⟩) 2 2] w fun e w' => e = .returned (.bool v) ∧ Below w.heap.size w w' := by subst hv; exact every_ll p q cap cap2 L M g w hg hL hn hM hm h0 h1

def reachI (L : List T3) (s t : Int) : Bool := (okL L && spB s t) && haveB L ⟨8, s, t⟩

set_option maxHeartbeats 1000000 in
theorem iReaches_any (p : Option Addr) (cap : Nat) (L : List T3) (s t : Int) (w : World) (hL : Sl w p L) (hn : L.length ≤ 1048576) :
    Calls Tryz.prog 68 #[.slice p L.length cap, .agg #[.int .i64 s, .int .i64 t]] w fun e w' => e = .returned (.bool (reachI L s t)) ∧ Below w.heap.size w w' := by
  have hs := St.nil w
  cases hv : (okL L && spB s t)
  · rw [reachI, hv]
    go_enter Tryz.func68, Tryz.ntmps68
    go_wp2_with (go_at_call 24; refine (every_ls_v hv p cap _ _ ?_ (hL.step (St.bel ((hs.push _ _).push _ _))) hn ?_ ?_).mono ?_; (focus (simp; done)); (focus (simp [go_sem]; done)); (focus (simp [go_sem]; done)); rintro e w1 ⟨rfl, hb2⟩; replace hs := ((hs.push _ _).push _ _).step hb2; (try simp only [World.size_alloc] at hs); have hk := hs.has; simp [Has, HasAt] at hk)
    go_ret
    exact ⟨rfl, hs.bel⟩
  · have hsp := ((Bool.and_eq_true _ _).mp hv).2
    rw [reachI, hv]
    cases hh : haveB L ⟨8, s, t⟩
    all_goals
      go_enter Tryz.func68, Tryz.ntmps68
      go_wp2_with (first
        | (go_at_call 24; refine (every_ls_v hv p cap _ _ ?_ (hL.step (St.bel ((hs.push _ _).push _ _))) hn ?_ ?_).mono ?_; (focus (simp; done)); (focus (simp [go_sem]; done)); (focus (simp [go_sem]; done)); rintro e w1 ⟨rfl, hb2⟩; replace hs := ((hs.push _ _).push _ _).step hb2; (try simp only [World.size_alloc] at hs); have hk := hs.has; simp [Has, HasAt] at hk)
        | (go_at_call 81; refine (iCellAt8 hsp _).mono ?_; rintro e w1 ⟨rfl, hb2⟩; replace hs := hs.step hb2; clear hk; have hk := hs.has; simp [Has, HasAt] at hk)
        | (go_at_call 80; refine (have_v hh p cap _ (hL.step hs.bel) (by omega)).mono ?_; rintro e w1 ⟨rfl, hb2⟩; replace hs := hs.step hb2; clear hk; have hk := hs.has; simp [Has, HasAt] at hk))
      go_ret
      exact ⟨rfl, hs.bel⟩

/-- The spec's look at one Cell. -/
def inC (c : T3) (s t : Int) : Bool := inR (rX c.l c.x c.y) (rY c.l c.x c.y) (rS c.l c.x c.y) (rS c.l c.x c.y) s t
theorem rect_ok {l x y : Int} (h : cellB l x y = true) : okB (rX l x y) (rY l x y) (rS l x y) (rS l x y) = true := by
  obtain ⟨h0, h8, hx, hx1, hy, hy1⟩ := cellB_t.mp h
  have a := mul_bd h0 h8 hx hx1
  have b := mul_bd h0 h8 hy hy1
  have c := sd_bd h0 h8
  simp only [rX, rY, rS, h, if_true]
  exact okB_t.mpr (by omega)
end Go.Proofs.YtkinbgcnenieeaaGreatDoor.M
namespace Go.Proofs.YtkinbgcnenieeaaGreatDoor.M
open Go.RowKit Go.Joins
attribute [local go_sem ↓] Go.wp_at_zero Go.wp_at_succ

theorem ins8 {c : T3} {s t : Int} (h : c.ok = true) (hs : spB s t = true) : insT ⟨8, s, t⟩ c = inC c s t := by
  have h' : cellB c.l c.x c.y = true := h
  obtain ⟨h0, h8, hx, hx1, hy, hy1⟩ := cellB_t.mp h'
  obtain ⟨s0, s1, t0, t1⟩ := spB_t.mp hs
  unfold insT inC inR
  rw [insB_eq]
  simp only [rX, rY, rS, h', if_true, cell8_ok hs, Bool.and_self, Bool.true_and, lInB]
  generalize c.l = l at *
  generalize c.x = x at *
  generalize c.y = y at *
  refine decide_eq_decide.mpr ?_
  unfold sd
  rcases nine h0 h8 with rfl | rfl | rfl | rfl | rfl | rfl | rfl | rfl | rfl <;> simp at hx1 hy1 ⊢ <;> omega
theorem any_ins8 {L : List T3} {s t : Int} (h : okL L = true) (hs : spB s t = true) : haveB L ⟨8, s, t⟩ = L.any fun c => inC c s t := by
  have h2 := List.all_eq_true.mp ((Bool.and_eq_true _ _).mp h).2
  unfold haveB
  rw [Bool.eq_iff_iff, List.any_eq_true, List.any_eq_true]
  constructor
  · rintro ⟨c, hc, hi⟩; exact ⟨c, hc, by rw [← ins8 (h2 c hc) hs]; exact hi⟩
  · rintro ⟨c, hc, hi⟩; exact ⟨c, hc, by rw [ins8 (h2 c hc) hs]; exact hi⟩
theorem okL_all {L : List T3} (h : okL L = true) : ∀ c ∈ L, c.ok = true := List.all_eq_true.mp ((Bool.and_eq_true _ _).mp h).2

theorem iReaches_v {L : List T3} {s t : Int} {v : Bool} (hv : reachI L s t = v) (p : Option Addr) (cap : Nat) (w : World) (hL : Sl w p L) (hn : L.length ≤ 1048576) :
    Calls Tryz.prog 68 #[.slice p L.length cap, .agg #[.int .i64 s, .int .i64 t]] w fun e w' => e = .returned (.bool v) ∧ Below w.heap.size w w' := by subst hv; exact iReaches_any p cap L s t w hL hn

end Go.Proofs.YtkinbgcnenieeaaGreatDoor.M
