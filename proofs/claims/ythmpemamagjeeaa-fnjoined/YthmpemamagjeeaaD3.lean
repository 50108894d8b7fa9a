/-
  Contracts of the drawing functions, third part: a Cell drawn.
-/
import Derived.Test.YthmpemamagjeeaaD2
import Derived.Test.YthmpemamagjeeaaQ5
namespace Go.Proofs.Ythmpemamagjeeaa
open Go.RowKit Go.Joins
attribute [local go_sem ↓] Go.wp_at_zero Go.wp_at_succ

theorem Has.keep {X Y : World} : ∀ {l : List (Nat × List Value)}, Has X l → X.heap.size ≤ Y.heap.size → (∀ p ∈ l, Y.heap[p.1]? = X.heap[p.1]?) → Has Y l
  | [], _, _, _ => trivial
  | p :: _, ⟨⟨h1, h2, h3⟩, t⟩, hz, hl => by
    have hp := hl p (List.mem_cons_self ..)
    refine ⟨⟨Nat.lt_of_lt_of_le h1 hz, fun o => (World.frozen?_of_block hp).trans (h2 o), hasAt_of _ _ (fun j u hj => ?_)⟩, Has.keep t hz (fun q hq => hl q (List.mem_cons_of_mem _ hq))⟩
    exact (World.cell?_of_block hp).trans (HasAt.get h3 j u hj)
theorem Has.set {W : World} {b : Nat} {vs : List Value} {l : List (Nat × List Value)} (h : Has W ((b, vs) :: l)) (i : Nat) (hi : i < vs.length) (v : Value) (hl : ∀ p ∈ l, b ≠ p.1) : Has (W.setCell ⟨b, i, none⟩ v) ((b, vs.set i v) :: l) := by
  have h0 : St W W ((b, vs) :: l) := ⟨Below.refl _ _, h⟩
  obtain ⟨⟨h2, h3, h4⟩, h5⟩ := h
  refine ⟨⟨by simpa using h2, fun o => (World.frozen?_setCell ..).trans (h3 o), hasAt_of _ _ (fun j u hj => ?_)⟩, Has.far hl h5⟩
  have hg := HasAt.get h4
  by_cases e : i = j
  · subst e
    have hu : u = v := by rw [List.getElem?_set_self hi] at hj; exact (Option.some.inj hj).symm
    subst hu
    have := hg i _ (List.getElem?_eq_getElem hi)
    rw [Nat.zero_add] at this ⊢
    exact World.cell?_setCell_same' _ _ _ (by rw [this]; rfl)
  · rw [List.getElem?_set_ne e] at hj
    have := hg j u hj
    rw [Nat.zero_add] at this ⊢
    refine (World.cell?_setCell_other _ _ _ _ (fun q => e ?_)).trans this
    injection q

/-- What lies where while a cursor in block g goes on: of what was there in w only block g has turned; each listed block holds its values. -/
structure StC (w wx : World) (g : Nat) (a : Option Addr) (len cap : Nat) (zs : List Int) (l : List (Nat × List Value)) : Prop where
  rd : Rd w g a len zs
  turn : Turn g w wx
  cur : Cur wx g a len cap zs
  has : Has wx l
  ne : ∀ p ∈ l, p.1 ≠ g
theorem StC.nil {w : World} {g : Nat} {a : Option Addr} {len cap : Nat} {zs : List Int} (h : Cur w g a len cap zs) : StC w w g a len cap zs [] := ⟨h.rd, Turn.refl _ _, h, trivial, fun p hp => by cases hp⟩
theorem StC.call {w wx w1 : World} {g : Nat} {a : Option Addr} {len cap : Nat} {zs : List Int} {l : List (Nat × List Value)} (h : StC w wx g a len cap zs l) (t : Turn g wx w1) (c : Cur w1 g a len cap zs) : StC w w1 g a len cap zs l :=
  ⟨h.rd, h.turn.trans t, c, h.has.keep t.size (fun p hp => t.block p.1 (h.has.mem hp).1 (h.ne p hp)), h.ne⟩
theorem StC.step {w wx w1 : World} {g : Nat} {a : Option Addr} {len cap : Nat} {zs : List Int} {l : List (Nat × List Value)} (h : StC w wx g a len cap zs l) (hb : Below wx.heap.size wx w1) : StC w w1 g a len cap zs l := h.call (Turn.of hb) (h.cur.below hb)
theorem StC.push {w wx : World} {g : Nat} {a : Option Addr} {len cap : Nat} {zs : List Int} {l : List (Nat × List Value)} (h : StC w wx g a len cap zs l) (vs : List Value) (t : TypeId) : StC w (wx.alloc (.cells vs.toArray t)) g a len cap zs ((wx.heap.size, vs) :: l) := by
  have h1 := h.step (below_alloc1 wx (.cells vs.toArray t))
  have h2 := ((St.nil wx).push vs t).has
  exact ⟨h.rd, h1.turn, h1.cur, ⟨h2.1, h1.has⟩, fun p hp => by
    rcases List.mem_cons.mp hp with rfl | hp
    · have := h.cur.hg; show wx.heap.size ≠ g; omega
    · exact h.ne p hp⟩
theorem StC.set {w wx : World} {g b : Nat} {a : Option Addr} {len cap : Nat} {zs vs} {l : List (Nat × List Value)} (h : StC w wx g a len cap zs ((b, vs) :: l)) (i : Nat) (hi : i < vs.length) (v : Value) (hb : w.heap.size ≤ b) (hl : ∀ p ∈ l, b ≠ p.1) : StC w (wx.setCell ⟨b, i, none⟩ v) g a len cap zs ((b, vs.set i v) :: l) := by
  have hn : b ≠ g := h.ne _ (List.mem_cons_self ..)
  obtain ⟨t, c⟩ := Cur.set (o := i) (v := v) h.rd ⟨h.turn, h.cur⟩ hb hn
  exact ⟨h.rd, t, c, h.has.set i hi v hl, fun p hp => by
    rcases List.mem_cons.mp hp with rfl | hp
    · exact hn
    · exact h.ne p (List.mem_cons_of_mem _ hp)⟩
theorem StC.sub {w wx : World} {g : Nat} {a : Option Addr} {len cap : Nat} {zs : List Int} {l l' : List (Nat × List Value)} (h : StC w wx g a len cap zs l) (hs : ∀ p ∈ l', p ∈ l) : StC w wx g a len cap zs l' := ⟨h.rd, h.turn, h.cur, h.has.sub hs, fun p hp => h.ne p (hs p hp)⟩
theorem StC.dr {w wx : World} {g : Nat} {a : Option Addr} {len cap : Nat} {zs : List Int} {l : List (Nat × List Value)} (h : StC w wx g a len cap zs l) : StC w wx.drew g a len cap zs l := h.step (Below.refl _ _).drew

set_option maxHeartbeats 400000 in
theorem sMin6_any (b : Int) (w : World) :
    Calls Try.prog 91 #[.int .i64 6, .int .i64 b] w fun e w' => e = .returned (.int .i64 (min 6 b)) ∧ w' = w := by
  go_enter Try.func91, Try.ntmps91
  go_wp2
  all_goals (go_ret; exact ⟨ret_i64 (by omega), rfl⟩)
end Go.Proofs.Ythmpemamagjeeaa
