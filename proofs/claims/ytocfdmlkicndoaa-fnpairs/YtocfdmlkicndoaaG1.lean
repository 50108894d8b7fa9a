/-
  The comparison by which the program sorts Spots: by X, of alike ones by Y. Contracts that say, too, that a call draws no answer back.
-/
import Derived.Test.YtocfdmlkicndoaaN1
import Derived.Sort.Grow
import Derived.Deep.RegionHeld3
namespace Go.Proofs.Ytocfdmlkicndoaa.D
open Go.RowKit Go.Joins
attribute [local go_sem] Oper.semAt_some

structure Below (B : Nat) (w w' : World) : Prop where
  os : w'.os = w.os
  tape : w'.tape = w.tape
  output : w'.output = w.output
  size : w.heap.size ≤ w'.heap.size
  block : ∀ k, k < B → w'.heap[k]? = w.heap[k]?
  drawn : w.drawn ≤ w'.drawn
theorem Below.old {B : Nat} {w w' : World} (h : Below B w w') : Go.RowKit.Below B w w' := ⟨h.os, h.tape, h.output, h.size, h.block⟩
theorem Below.of {B : Nat} {w w' : World} (h : Go.RowKit.Below B w w') (hd : w.drawn ≤ w'.drawn) : Below B w w' := ⟨h.os, h.tape, h.output, h.size, h.block, hd⟩
theorem Below.refl (B : Nat) (w : World) : Below B w w := ⟨rfl, rfl, rfl, Nat.le_refl _, fun _ _ => rfl, Nat.le_refl _⟩
theorem Below.trans {B : Nat} {a b c : World} (h : Below B a b) (k : Below B b c) : Below B a c := .of (h.old.trans k.old) (Nat.le_trans h.drawn k.drawn)
theorem Below.mono {B B' : Nat} {a b : World} (h : Below B a b) (hb : B' ≤ B) : Below B' a b := .of (h.old.mono hb) h.drawn
theorem Below.cell {B : Nat} {w w' : World} (h : Below B w w') {p : Addr} (hp : p.block < B) : w'.cell? p = w.cell? p := h.old.cell hp
theorem Below.frozen {B : Nat} {w w' : World} (h : Below B w w') {p : Addr} (hp : p.block < B) : w'.frozen? p = w.frozen? p := h.old.frozen hp
theorem Below.alloc {B : Nat} {a w : World} (h : Below B a w) (hb : B ≤ w.heap.size) (o : Obj) : Below B a (w.alloc o) := .of (h.old.alloc hb o) h.drawn
theorem Below.setCell {B : Nat} {a w : World} (h : Below B a w) {p : Addr} (hp : B ≤ p.block) (v : Value) : Below B a (w.setCell p v) := .of (h.old.setCell hp v) h.drawn
theorem Below.drew {B : Nat} {a w : World} (h : Below B a w) : Below B a w.drew := .of h.old.drew (Nat.le_trans h.drawn (Nat.le_succ _))
theorem Below.heap_alloc (w : World) (o : Obj) (k : Nat) (hk : k < w.heap.size) : (w.alloc o).heap[k]? = w.heap[k]? := Go.RowKit.Below.heap_alloc w o k hk
theorem Below.heap_setCell (w : World) (p : Addr) (v : Value) (k : Nat) (hk : k ≠ p.block) : (w.setCell p v).heap[k]? = w.heap[k]? := Go.RowKit.Below.heap_setCell w p v k hk
theorem below_alloc1 (w : World) (o : Obj) : Below w.heap.size w (w.alloc o) := .of (Go.Joins.below_alloc1 w o) (Nat.le_refl _)
theorem below_alloc2 (w : World) (o p : Obj) : Below w.heap.size w ((w.alloc o).alloc p) := .of (Go.Joins.below_alloc2 w o p) (Nat.le_refl _)
theorem below_alloc3 (w : World) (o p q : Obj) : Below w.heap.size w (((w.alloc o).alloc p).alloc q) := .of (Go.Joins.below_alloc3 w o p q) (Nat.le_refl _)
/-- What only makes memory and draws. -/
theorem Below.grown {w w' : World} (h : Below w.heap.size w w') : ∃ q os', w' = Go.Sort.grow (w.drewN q) os' := by
  obtain ⟨h1, h2, h3, h4, h5, h6⟩ := h
  refine ⟨w'.drawn - w.drawn, w'.heap.extract w.heap.size w'.heap.size, ?_⟩
  obtain ⟨heap, tape, drawn, os, output⟩ := w
  obtain ⟨heap', tape', drawn', os', output'⟩ := w'
  simp only at h1 h2 h3 h4 h5 h6
  subst h1 h2 h3
  simp only [Go.Sort.grow, World.drewN]
  congr 1
  · refine Array.ext_getElem? fun i => ?_
    by_cases hi : i < heap.size
    · rw [Array.getElem?_append_left hi]; exact h5 i hi
    · rw [Array.getElem?_append_right (by omega), Array.getElem?_extract]
      simp only [Nat.min_self]
      split
      · congr 1; omega
      · exact Array.getElem?_eq_none (by omega)
  · omega
theorem bcell {W w1 : World} (hb : Below W.heap.size W w1) : (∀ b o, b < W.heap.size → w1.cell? ⟨b, o, none⟩ = W.cell? ⟨b, o, none⟩) ∧ (∀ b o, b < W.heap.size → w1.frozen? ⟨b, o, none⟩ = W.frozen? ⟨b, o, none⟩) :=
  ⟨fun b o h => hb.cell (p := ⟨b, o, none⟩) h, fun b o h => hb.frozen (p := ⟨b, o, none⟩) h⟩
theorem bstep {B : Nat} {W w1 w2 : World} (h : Below B W w1) (hb : Below w1.heap.size w1 w2) (hB : B ≤ W.heap.size) : Below B W w2 := h.trans (hb.mono (Nat.le_trans hB h.size))
theorem bstepA {B : Nat} {W w1 w2 : World} {o : Obj} (h : Below B W w1) (hb : Below (w1.alloc o).heap.size (w1.alloc o) w2) (hB : B ≤ W.heap.size) : Below B W w2 :=
  bstep (h.alloc (Nat.le_trans hB h.size) o) hb hB
theorem bstepB {B : Nat} {W w1 w2 : World} {o o2 : Obj} (h : Below B W w1) (hb : Below ((w1.alloc o).alloc o2).heap.size ((w1.alloc o).alloc o2) w2) (hB : B ≤ W.heap.size) : Below B W w2 :=
  bstepA (h.alloc (Nat.le_trans hB h.size) o) hb hB
theorem ba1 {w w1 : World} {o : Obj} (hb : Below (w.alloc o).heap.size (w.alloc o) w1) : Below w.heap.size w w1 := (below_alloc1 w o).trans (hb.mono (by simp))
theorem ba2 {w w1 : World} {o p : Obj} (hb : Below ((w.alloc o).alloc p).heap.size ((w.alloc o).alloc p) w1) : Below w.heap.size w w1 := (below_alloc2 w o p).trans (hb.mono (by simp; omega))
theorem ba3 {w w1 : World} {o p q : Obj} (hb : Below (((w.alloc o).alloc p).alloc q).heap.size (((w.alloc o).alloc p).alloc q) w1) : Below w.heap.size w w1 := (below_alloc3 w o p q).trans (hb.mono (by simp; omega))
def HasAt (wx : World) (b : Nat) : Nat → List Value → Prop
  | _, [] => True
  | i, v :: vs => wx.cell? ⟨b, i, none⟩ = some v ∧ HasAt wx b (i + 1) vs
def Has (wx : World) : List (Nat × List Value) → Prop
  | [] => True
  | p :: l => (p.1 < wx.heap.size ∧ (∀ o, wx.frozen? ⟨p.1, o, none⟩ = false) ∧ HasAt wx p.1 0 p.2) ∧ Has wx l
theorem HasAt.step {wx w1 : World} {b : Nat} (hb : Below wx.heap.size wx w1) (hlt : b < wx.heap.size) : ∀ {i : Nat} {vs : List Value}, HasAt wx b i vs → HasAt w1 b i vs
  | _, [], _ => trivial
  | i, _ :: _, ⟨h, t⟩ => ⟨(hb.cell (p := ⟨b, i, none⟩) hlt).trans h, HasAt.step hb hlt t⟩
theorem Has.step {wx w1 : World} (hb : Below wx.heap.size wx w1) : ∀ {l : List (Nat × List Value)}, Has wx l → Has w1 l
  | [], _ => trivial
  | p :: _, ⟨⟨h1, h2, h3⟩, t⟩ => ⟨⟨Nat.lt_of_lt_of_le h1 hb.size, fun o => (hb.frozen (p := ⟨p.1, o, none⟩) h1).trans (h2 o), HasAt.step hb h1 h3⟩, Has.step hb t⟩
theorem Has.mem {wx : World} {p : Nat × List Value} : ∀ {l : List (Nat × List Value)}, Has wx l → p ∈ l → (p.1 < wx.heap.size ∧ (∀ o, wx.frozen? ⟨p.1, o, none⟩ = false) ∧ HasAt wx p.1 0 p.2)
  | _ :: _, ⟨h, t⟩, hm => by
    rcases List.mem_cons.mp hm with rfl | hm
    · exact h
    · exact Has.mem t hm
theorem Has.sub {wx : World} {l : List (Nat × List Value)} (h : Has wx l) : ∀ {l' : List (Nat × List Value)}, (∀ p ∈ l', p ∈ l) → Has wx l'
  | [], _ => trivial
  | p :: _, hs => ⟨h.mem (hs p (List.mem_cons_self ..)), Has.sub h (fun q hq => hs q (List.mem_cons_of_mem _ hq))⟩
theorem hasAt_of {wx : World} {b : Nat} : ∀ (vs : List Value) (i : Nat), (∀ j v, vs[j]? = some v → wx.cell? ⟨b, i + j, none⟩ = some v) → HasAt wx b i vs
  | [], _, _ => trivial
  | v :: vs, i, h => ⟨h 0 v rfl, hasAt_of vs (i + 1) (fun j u hj => by have := h (j + 1) u hj; rwa [show i + (j + 1) = i + 1 + j by omega] at this)⟩
/-- Behind w nothing old has turned; each listed block holds its values. -/
structure St (w wx : World) (l : List (Nat × List Value)) : Prop where
  bel : Below w.heap.size w wx
  has : Has wx l
theorem St.nil (w : World) : St w w [] := ⟨Below.refl _ _, trivial⟩
theorem St.step {w wx w1 : World} {l : List (Nat × List Value)} (h : St w wx l) (hb : Below wx.heap.size wx w1) : St w w1 l := ⟨bstep h.bel hb (Nat.le_refl _), h.has.step hb⟩
theorem St.al {w wx : World} {l : List (Nat × List Value)} (h : St w wx l) (o : Obj) : St w (wx.alloc o) l := h.step (below_alloc1 wx o)
theorem St.dr {w wx : World} {l : List (Nat × List Value)} (h : St w wx l) : St w wx.drew l := h.step (Below.refl _ _).drew
theorem St.sub {w wx : World} {l l' : List (Nat × List Value)} (h : St w wx l) (hs : ∀ p ∈ l', p ∈ l) : St w wx l' := ⟨h.bel, h.has.sub hs⟩
theorem St.push {w wx : World} {l : List (Nat × List Value)} (h : St w wx l) (vs : List Value) (t : TypeId) : St w (wx.alloc (.cells vs.toArray t)) ((wx.heap.size, vs) :: l) := by
  refine ⟨(h.al _).bel, ⟨by simp, fun o => World.frozen?_alloc_at _ _ _ _ rfl, hasAt_of _ _ (fun j v hj => ?_)⟩, (h.al _).has⟩
  rw [Nat.zero_add, World.cell?_alloc_at _ _ _ _ rfl]
  simpa using hj
theorem St.size {w wx : World} {l : List (Nat × List Value)} (h : St w wx l) : w.heap.size ≤ wx.heap.size := h.bel.size

def cmpI (a b : Int) : Int := if a < b then -1 else if b < a then 1 else 0
def orI (a b : Int) : Int := if a ≠ 0 then a else b
def cmpT (a b : T2) : Int := orI (cmpI a.x b.x) (cmpI a.y b.y)
theorem isNaN_any (a : Int) (w : World) : Calls Try.prog 73 #[.int .i64 a] w fun e w' => e = .returned (.bool false) ∧ w' = w := by
  go_enter Try.func73, Try.ntmps73
  go_wp2
  go_ret
  exact ⟨rfl, rfl⟩
theorem compare_any (a b : Int) (w : World) : Calls Try.prog 62 #[.int .i64 a, .int .i64 b] w fun e w' => e = .returned (.int .i64 (cmpI a b)) ∧ w' = w := by
  go_enter Try.func62, Try.ntmps62
  go_wp2_with (go_at_call 73; refine (isNaN_any _ _).mono ?_; rintro e w1 ⟨rfl, rfl⟩)
  all_goals (go_ret; exact ⟨ret_i64 (by unfold cmpI; split <;> (try split) <;> omega), rfl⟩)
theorem compare_v {a b v : Int} (h : cmpI a b = v) (w : World) : Calls Try.prog 62 #[.int .i64 a, .int .i64 b] w fun e w' => e = .returned (.int .i64 v) ∧ w' = w := by subst h; exact compare_any a b w

set_option maxHeartbeats 1000000 in
theorem or_any (a b : Int) (g : Nat) (w : World) (h0 : w.cell? ⟨g, 0, none⟩ = some (.int .i64 a)) (h1 : w.cell? ⟨g, 1, none⟩ = some (.int .i64 b)) :
    Calls Try.prog 61 #[.slice (some ⟨g, 0, none⟩) 2 2] w fun e w' => e = .returned (.int .i64 (orI a b)) ∧ w' = w := by
  by_cases ha : a = 0
  · subst ha
    by_cases hb : b = 0
    · subst hb
      go_enter Try.func61, Try.ntmps61
      go_wp2
      refine wp_loop_rounds 3 ?_
      rw [rounds_succ]
      go_wp2
      rw [rounds_succ]
      go_wp2
      rw [rounds_succ]
      go_wp2
      go_ret
      exact ⟨by simp [orI], rfl⟩
    · go_enter Try.func61, Try.ntmps61
      go_wp2
      refine wp_loop_rounds 3 ?_
      rw [rounds_succ]
      go_wp2
      rw [rounds_succ]
      go_wp2
      go_ret
      exact ⟨by simp [orI], rfl⟩
  · go_enter Try.func61, Try.ntmps61
    go_wp2
    refine wp_loop_rounds 3 ?_
    rw [rounds_succ]
    go_wp2
    go_ret
    exact ⟨by simp [orI, ha], rfl⟩

set_option maxRecDepth 100000 in
set_option maxHeartbeats 4000000 in
theorem cmp_any (a b : T2) (w : World) :
    Calls Try.prog 45 #[.agg #[.int .i64 a.x, .int .i64 a.y], .agg #[.int .i64 b.x, .int .i64 b.y]] w fun e w' => e = .returned (.int .i64 (cmpT a b)) ∧ Below w.heap.size w w' := by
  have hst := ((St.nil w).push [.int .i64 a.x, .int .i64 a.y] 37).push [.int .i64 b.x, .int .i64 b.y] 37
  rw [World.size_alloc] at hst
  have hS : ∀ w', St w w' [(w.heap.size + 1, [.int .i64 b.x, .int .i64 b.y]), (w.heap.size, [.int .i64 a.x, .int .i64 a.y])] → ((w'.cell? ⟨w.heap.size + 1, 0, none⟩ = some (.int .i64 b.x) ∧ w'.cell? ⟨w.heap.size + 1, 1, none⟩ = some (.int .i64 b.y)) ∧ (w'.cell? ⟨w.heap.size, 0, none⟩ = some (.int .i64 a.x) ∧ w'.cell? ⟨w.heap.size, 1, none⟩ = some (.int .i64 a.y))) :=
    fun w' h => by have := h.has; simp [Has, HasAt] at this; simp [this]
  have hcc := hS _ hst
  unfold cmpT
  go_enter Try.func45, Try.ntmps45
  go_wp2
  go_region_held3 (fun w' => St w w' [(w.heap.size + 1, [.int .i64 b.x, .int .i64 b.y]), (w.heap.size, [.int .i64 a.x, .int .i64 a.y])] ∧ ((w'.cell? ⟨w.heap.size + 1, 0, none⟩ = some (.int .i64 b.x) ∧ w'.cell? ⟨w.heap.size + 1, 1, none⟩ = some (.int .i64 b.y)) ∧ (w'.cell? ⟨w.heap.size, 0, none⟩ = some (.int .i64 a.x) ∧ w'.cell? ⟨w.heap.size, 1, none⟩ = some (.int .i64 a.y)))) (first | exact ‹St _ _ _ ∧ _› | exact keepS hS ((‹St _ _ _ ∧ _›).1.step hb2) | exact keepS hS ((‹St _ _ _ ∧ _›).1.al _) | exact keepS hS hst.dr | fail)
    (first
      | (go_at_call 62; refine (compare_any _ _ _).mono ?_; rintro e w1 ⟨rfl, rfl⟩)
      | (go_at_call 61; refine (or_any (cmpI a.x b.x) (cmpI a.y b.y) _ _ ?_ ?_).mono ?_; (focus (simp [go_sem]; done)); (focus (simp [go_sem]; done)); rintro e w1 ⟨rfl, rfl⟩))
  clear hst hcc
  obtain ⟨hst, hcc⟩ := ‹St _ _ _ ∧ _›
  go_wp2
  go_ret
  exact ⟨rfl, hst.bel⟩
end Go.Proofs.Ytocfdmlkicndoaa.D
