/-
  The state that is carried through the walk of FnBoxes, and plain laws on how far a Spot is from a box.
-/
import Derived.Test.YtjkandboanecgaaB0
import Derived.Test.YtjkandboanecgaaW11
import Derived.Test.YtjkandboanecgaaW12
namespace Go.Proofs.Ytjkandboanecgaa
open Go.RowKit Go.Joins

/-- What lies where: behind w nothing old has turned; each listed block holds its numbers. -/
structure St (w wx : World) (l : List (Nat × List Int)) : Prop where
  bel : Below w.heap.size w wx
  has : ∀ p ∈ l, p.1 < wx.heap.size ∧ ∀ i v, p.2[i]? = some v → wx.cell? ⟨p.1, i, none⟩ = some (.int .i64 v)
theorem St.nil (w : World) : St w w [] := ⟨Below.refl _ _, fun p hp => by cases hp⟩
theorem St.step {w wx w1 : World} {l : List (Nat × List Int)} (h : St w wx l) (hb : Below wx.heap.size wx w1) : St w w1 l :=
  ⟨bstep h.bel hb (Nat.le_refl _), fun p hp => ⟨Nat.lt_of_lt_of_le (h.has p hp).1 hb.size, fun i v hv => (hb.cell (p := ⟨p.1, i, none⟩) (h.has p hp).1).trans ((h.has p hp).2 i v hv)⟩⟩
theorem St.al {w wx : World} {l : List (Nat × List Int)} (h : St w wx l) (o : Obj) : St w (wx.alloc o) l := h.step (below_alloc1 wx o)
theorem St.dr {w wx : World} {l : List (Nat × List Int)} (h : St w wx l) : St w wx.drew l := h.step (Below.refl _ _).drew
theorem St.push4 {w wx : World} {l : List (Nat × List Int)} (h : St w wx l) {g : Nat} (hg : g = wx.heap.size) (x y c d : Int) (t : TypeId) : St w (wx.alloc (.cells #[.int .i64 x, .int .i64 y, .int .i64 c, .int .i64 d] t)) ((g, [x, y, c, d]) :: l) := by
  subst hg
  refine ⟨(h.al _).bel, fun p hp => ?_⟩
  rcases List.mem_cons.mp hp with rfl | hp
  · refine ⟨by simp, fun i v hv => ?_⟩
    match i, hv with
    | 0, hv => simp at hv; subst hv; simp [go_sem]
    | 1, hv => simp at hv; subst hv; simp [go_sem]
    | 2, hv => simp at hv; subst hv; simp [go_sem]
    | 3, hv => simp at hv; subst hv; simp [go_sem]
  · exact (h.al _).has p hp
theorem St.push2 {w wx : World} {l : List (Nat × List Int)} (h : St w wx l) {g : Nat} (hg : g = wx.heap.size) (x y : Int) (t : TypeId) : St w (wx.alloc (.cells #[.int .i64 x, .int .i64 y] t)) ((g, [x, y]) :: l) := by
  subst hg
  refine ⟨(h.al _).bel, fun p hp => ?_⟩
  rcases List.mem_cons.mp hp with rfl | hp
  · refine ⟨by simp, fun i v hv => ?_⟩
    match i, hv with
    | 0, hv => simp at hv; subst hv; simp [go_sem]
    | 1, hv => simp at hv; subst hv; simp [go_sem]
  · exact (h.al _).has p hp
theorem St.r4 {w wx : World} {l : List (Nat × List Int)} {g : Nat} {x y c d : Int} (h : St w wx l) (hm : (g, [x, y, c, d]) ∈ l) : wx.cell? ⟨g, 0, none⟩ = some (.int .i64 x) ∧ wx.cell? ⟨g, 1, none⟩ = some (.int .i64 y) ∧ wx.cell? ⟨g, 2, none⟩ = some (.int .i64 c) ∧ wx.cell? ⟨g, 3, none⟩ = some (.int .i64 d) :=
  ⟨(h.has _ hm).2 0 x rfl, (h.has _ hm).2 1 y rfl, (h.has _ hm).2 2 c rfl, (h.has _ hm).2 3 d rfl⟩
theorem St.r2 {w wx : World} {l : List (Nat × List Int)} {g : Nat} {x y : Int} (h : St w wx l) (hm : (g, [x, y]) ∈ l) : wx.cell? ⟨g, 0, none⟩ = some (.int .i64 x) ∧ wx.cell? ⟨g, 1, none⟩ = some (.int .i64 y) :=
  ⟨(h.has _ hm).2 0 x rfl, (h.has _ hm).2 1 y rfl⟩

theorem far_some {x y a b s t : Int} (h : (okB x y a b && spB s t) = true) : 0 ≤ farI x y a b s t ∧ (farI x y a b s t == 0) = holdsB x y a b s t := by
  obtain ⟨h1, h2⟩ := (Bool.and_eq_true _ _).mp h
  have k := okB_t.mp h1
  have k' := spB_t.mp h2
  have f1 := fd_bd (x := x) (a := a) (s := s) (by omega) (by omega) (by omega) (by omega) (by omega)
  have f2 := fd_bd (x := y) (a := b) (s := t) (by omega) (by omega) (by omega) (by omega) (by omega)
  obtain ⟨k1, _⟩ := sq_bd (d := fd x a s) (by omega) (by omega)
  obtain ⟨k3, _⟩ := sq_bd (d := fd y b t) (by omega) (by omega)
  have e : farI x y a b s t = fd x a s * fd x a s + fd y b t * fd y b t := by simp [farI, h]
  have eh : holdsB x y a b s t = inR x y a b s t := by simp [holdsB, h]
  refine ⟨by omega, ?_⟩
  rw [e, eh, Bool.eq_iff_iff, beq_iff_eq, inR, decide_eq_true_iff]
  have z1 : fd x a s = 0 ↔ (x ≤ s ∧ s < x + a) := by unfold fd; omega
  have z2 : fd y b t = 0 ↔ (y ≤ t ∧ t < y + b) := by unfold fd; omega
  constructor
  · intro hz
    have q1 : fd x a s * fd x a s = 0 := by omega
    have q2 : fd y b t * fd y b t = 0 := by omega
    have p1 := z1.mp (by rcases Int.mul_eq_zero.mp q1 with q | q <;> exact q)
    have p2 := z2.mp (by rcases Int.mul_eq_zero.mp q2 with q | q <;> exact q)
    exact ⟨p1.1, p1.2, p2.1, p2.2⟩
  · rintro ⟨p1, p2, p3, p4⟩
    rw [z1.mpr ⟨p1, p2⟩, z2.mpr ⟨p3, p4⟩]; rfl
theorem far_none {x y a b s t : Int} (h : (okB x y a b && spB s t) = false) : farI x y a b s t = -1 ∧ holdsB x y a b s t = false := by
  constructor <;> simp [farI, holdsB, h]
theorem sq_le {d e : Int} (h0 : 0 ≤ e) (h : e ≤ d ∨ d ≤ -e) : e * e ≤ d * d := by
  rcases h with h | h
  · exact Int.mul_le_mul h h h0 (by omega)
  · have : d * d = (-d) * (-d) := by rw [Int.neg_mul_neg]
    rw [this]; exact Int.mul_le_mul (by omega) (by omega) h0 (by omega)
theorem far_least {x y a b s t p q : Int} (h : (okB x y a b && spB s t) = true) (p0 : 0 ≤ p) (p1 : p < a) (q0 : 0 ≤ q) (q1 : q < b) : ¬ apI (x + p) (y + q) s t < farI x y a b s t ∧ holdsB x y a b (x + p) (y + q) = true := by
  obtain ⟨h1, h2⟩ := (Bool.and_eq_true _ _).mp h
  have k := okB_t.mp h1
  have k' := spB_t.mp h2
  have hs : spB (x + p) (y + q) = true := spB_t.mpr (by omega)
  have e : farI x y a b s t = fd x a s * fd x a s + fd y b t * fd y b t := by simp [farI, h]
  have ea : apI (x + p) (y + q) s t = (x + p - s) * (x + p - s) + (y + q - t) * (y + q - t) := by simp [apI, hs, h2]
  have f1 := sq_le (e := fd x a s) (d := x + p - s) (by unfold fd; omega) (by unfold fd; omega)
  have f2 := sq_le (e := fd y b t) (d := y + q - t) (by unfold fd; omega) (by unfold fd; omega)
  refine ⟨by omega, ?_⟩
  simp only [holdsB, h1, hs, Bool.and_self, Bool.true_and, inR]
  exact decide_eq_true (by omega)


/-- What stands behind the first n parts of a text. -/
def dropN : Nat → Code → Code
  | n + 1, .seq _ b => dropN n b
  | _, c => c

end Go.Proofs.Ytjkandboanecgaa
