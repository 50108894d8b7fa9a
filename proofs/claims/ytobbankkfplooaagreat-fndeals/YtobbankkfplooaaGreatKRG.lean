/-
  Lists in memory, of elements of any kind: rows that one reads, rows of one's own.
-/
import Derived.Test.YtobbankkfplooaaGreatKA0
import Derived.Deep.Cut
import Derived.Below
namespace Go.Proofs.YtobbankkfplooaaGreat.K
open Go.RowKit Go.Joins

/-- A kind of element: its type, how many cells it takes, its cells. -/
structure Kd (α : Type) where
  t : TypeId
  n : Nat
  vs : α → List Value
  len : ∀ a, (vs a).length = n
section
variable {α : Type} (K : Kd α)
def Kd.flat (L : List α) : List Value := L.flatMap K.vs
variable {K}
theorem Kd.flat_nil : K.flat [] = [] := rfl
theorem Kd.flat_cons (a : α) (L : List α) : K.flat (a :: L) = K.vs a ++ K.flat L := by simp [Kd.flat]
theorem Kd.flat_len : ∀ L : List α, (K.flat L).length = L.length * K.n
  | [] => by simp [Kd.flat]
  | a :: t => by rw [Kd.flat_cons, List.length_append, K.len, Kd.flat_len t, List.length_cons, Nat.add_mul]; omega
theorem Kd.flat_append (A B : List α) : K.flat (A ++ B) = K.flat A ++ K.flat B := List.flatMap_append ..
theorem Kd.flat_one (a : α) : K.flat [a] = K.vs a := by simp [Kd.flat]
theorem Kd.flat_drop : ∀ (L : List α) (k : Nat), K.flat (L.drop k) = (K.flat L).drop (k * K.n)
  | L, 0 => by simp
  | [], k + 1 => by simp [Kd.flat]
  | a :: t, k + 1 => by
    have e : (K.vs a).drop ((k + 1) * K.n) = [] := List.drop_eq_nil_of_le (by rw [K.len, Nat.add_mul]; omega)
    have e2 : (k + 1) * K.n - K.n = k * K.n := by rw [Nat.add_mul]; omega
    rw [List.drop_succ_cons, Kd.flat_drop t k, Kd.flat_cons, List.drop_append, K.len, e, List.nil_append, e2]
theorem Kd.flat_take : ∀ (L : List α) (k : Nat), K.flat (L.take k) = (K.flat L).take (k * K.n)
  | L, 0 => by simp [Kd.flat]
  | [], k + 1 => by simp [Kd.flat]
  | a :: t, k + 1 => by
    have e : (K.vs a).take ((k + 1) * K.n) = K.vs a := List.take_of_length_le (by rw [K.len, Nat.add_mul]; omega)
    have e2 : (k + 1) * K.n - K.n = k * K.n := by rw [Nat.add_mul]; omega
    rw [List.take_succ_cons, Kd.flat_cons, Kd.flat_take t k, Kd.flat_cons, List.take_append, K.len, e, e2]
theorem Kd.flat_get {L : List α} {k : Nat} {a : α} (h : L[k]? = some a) {i : Nat} (hi : i < K.n) : (K.flat L)[k * K.n + i]? = (K.vs a)[i]? := by
  have hd : L.drop k = a :: L.drop (k + 1) := by
    have hk := (List.getElem?_eq_some_iff.1 h).1
    rw [List.drop_eq_getElem_cons hk]; congr 1; exact (List.getElem?_eq_some_iff.1 h).2
  have := Kd.flat_drop (K := K) L k
  rw [hd, Kd.flat_cons] at this
  rw [← List.getElem?_drop, ← this, List.getElem?_append_left (by rw [K.len]; exact hi)]
theorem Kd.flat_set : ∀ {L : List α} {k : Nat} (a : α), k < L.length → K.flat (L.set k a) = (K.flat L).take (k * K.n) ++ K.vs a ++ (K.flat L).drop (k * K.n + K.n)
  | L, k, a, h => by
    rw [List.set_eq_take_append_cons_drop, if_pos h, Kd.flat_append, Kd.flat_cons, Kd.flat_take, Kd.flat_drop, Nat.add_mul, Nat.one_mul, List.append_assoc]
/-- From the cell at off on block g holds the elements of L. -/
def CsG (K : Kd α) (w : World) (g off : Nat) (L : List α) : Prop := g < w.heap.size ∧ ∀ j u, (K.flat L)[j]? = some u → w.cell? ⟨g, off + j, none⟩ = some u
def SlG (K : Kd α) (w : World) (p : Option Addr) (L : List α) : Prop := L = [] ∨ ∃ g off, p = some ⟨g, off, none⟩ ∧ CsG K w g off L
theorem CsG.step {w w' : World} {g off : Nat} {L : List α} (h : CsG K w g off L) (hb : Below w.heap.size w w') : CsG K w' g off L :=
  ⟨Nat.lt_of_lt_of_le h.1 hb.size, fun j u hj => (hb.cell (p := ⟨g, _, none⟩) h.1).trans (h.2 j u hj)⟩
theorem SlG.step {w w' : World} {p : Option Addr} {L : List α} (h : SlG K w p L) (hb : Below w.heap.size w w') : SlG K w' p L := by
  rcases h with h | ⟨g, off, h1, h2⟩
  · exact .inl h
  · exact .inr ⟨g, off, h1, h2.step hb⟩
theorem SlG.at {w : World} {p : Option Addr} {L : List α} (h : SlG K w p L) {k : Nat} (hk : k < L.length) : ∃ g off, p = some ⟨g, off, none⟩ ∧ CsG K w g off L := by
  rcases h with rfl | h
  · simp at hk
  · exact h
theorem CsG.at {w : World} {g off : Nat} {L : List α} (h : CsG K w g off L) {k : Nat} {a : α} (hk : L[k]? = some a) {i : Nat} {u : Value} (hu : (K.vs a)[i]? = some u) : w.cell? ⟨g, off + k * K.n + i, none⟩ = some u := by
  rw [Nat.add_assoc]
  refine h.2 _ u ?_
  rw [Kd.flat_get hk (by rw [← K.len a]; exact (List.getElem?_eq_some_iff.1 hu).1)]; exact hu
theorem CsG.drop {w : World} {g off : Nat} {L : List α} (h : CsG K w g off L) (k : Nat) : CsG K w g (off + k * K.n) (L.drop k) :=
  ⟨h.1, fun j u hj => by rw [Kd.flat_drop, List.getElem?_drop] at hj; have := h.2 _ u hj; rwa [← Nat.add_assoc] at this⟩
theorem CsG.take {w : World} {g off : Nat} {L : List α} (h : CsG K w g off L) (k : Nat) : CsG K w g off (L.take k) :=
  ⟨h.1, fun j u hj => by
    rw [Kd.flat_take] at hj
    have hlt := (List.getElem?_eq_some_iff.1 hj).1
    rw [List.getElem?_take_of_lt (by rw [List.length_take] at hlt; omega)] at hj
    exact h.2 j u hj⟩
/-- A list of memory of one's own. -/
abbrev OwG (K : Kd α) (W : World) (base : Nat) (v : Value) (L : List α) : Prop := W.ownsRow base K.t K.n v L.length (K.flat L)
theorem OwG.cs {W : World} {base : Nat} {g n cap : Nat} {L : List α} (h : OwG K W base (.slice (some ⟨g, 0, none⟩) n cap) L) : CsG K W g 0 L := by
  have hn : n = L.length := by rcases h.2 with ⟨h1, _⟩ | ⟨_, _, _, h1, _⟩ <;> cases h1; rfl
  subst hn
  refine ⟨(h.lt g rfl).2, fun j u hj => ?_⟩
  have hlt : j < L.length * K.n := by have := (List.getElem?_eq_some_iff.1 hj).1; rwa [Kd.flat_len] at this
  rw [Nat.zero_add]
  exact (h.cellAt _ hlt).trans hj
theorem OwG.form {W : World} {base : Nat} {v : Value} {L : List α} (h : OwG K W base v L) : ∃ p cap, v = .slice p L.length cap ∧ SlG K W p L := by
  rcases h.2 with ⟨rfl, h0⟩ | ⟨g, cap, cur, rfl, _⟩
  · exact ⟨none, 0, by rw [h0], .inl (List.eq_nil_of_length_eq_zero h0)⟩
  · exact ⟨_, _, rfl, .inr ⟨g, 0, rfl, OwG.cs h⟩⟩
theorem OwG.sl {W : World} {base : Nat} {p : Option Addr} {n cap : Nat} {L : List α} (h : OwG K W base (.slice p n cap) L) : SlG K W p L := by
  obtain ⟨p', cap', e, hs⟩ := h.form
  cases e; exact hs
theorem OwG.len {W : World} {base : Nat} {p : Option Addr} {n cap : Nat} {L : List α} (h : OwG K W base (.slice p n cap) L) : n = L.length := by
  obtain ⟨p', cap', e, hs⟩ := h.form
  cases e; rfl
theorem OwG.zero {W : World} {base : Nat} {g off n cap : Nat} {L : List α} (h : OwG K W base (.slice (some ⟨g, off, none⟩) n cap) L) : off = 0 := by
  rcases h.2 with ⟨h1, _⟩ | ⟨_, _, _, h1, _⟩ <;> injection h1 with h1 <;> first | (cases h1; done) | (injection h1 with h1; injection h1)
theorem own_mono {W : World} {b b' size n : Nat} {e : TypeId} {v : Value} {xs : List Value} (h : W.ownsRow b e size v n xs) (hb : b' ≤ b) : W.ownsRow b' e size v n xs := by
  rcases h with ⟨h0, h1 | ⟨g, cap, cur, e, hg, r⟩⟩
  · exact ⟨h0, .inl h1⟩
  · exact ⟨h0, .inr ⟨g, cap, cur, e, Nat.le_trans hb hg, r⟩⟩
theorem own_of_below {X Y : World} {base size n : Nat} {e : TypeId} {v : Value} {xs : List Value} (h : X.ownsRow base e size v n xs) (hb : Below X.heap.size X Y) : Y.ownsRow base e size v n xs :=
  h.kept (row := none) ⟨hb.os, hb.tape, hb.output, hb.size, fun k hk _ => hb.block k hk⟩ (by cases hv : v.ownBlock <;> simp)
end
def HasAt (wx : World) (b : Nat) : Nat → List Value → Prop
  | _, [] => True
  | i, v :: vs => wx.cell? ⟨b, i, none⟩ = some v ∧ HasAt wx b (i + 1) vs
def Has (wx : World) : List (Nat × List Value) → Prop
  | [] => True
  | p :: l => (p.1 < wx.heap.size ∧ (∀ o, wx.frozen? ⟨p.1, o, none⟩ = false) ∧ HasAt wx p.1 0 p.2) ∧ Has wx l
theorem HasAt.step {wx w1 : World} {b : Nat} (hb : Below wx.heap.size wx w1) (hlt : b < wx.heap.size) : ∀ {i : Nat} {vs : List Value}, HasAt wx b i vs → HasAt w1 b i vs
  | _, [], _ => trivial
  | i, _ :: _, ⟨h, t⟩ => ⟨(hb.cell (p := ⟨b, i, none⟩) hlt).trans h, HasAt.step hb hlt t⟩
theorem Has.step {wx w1 : World} (hb : Below wx.heap.size wx w1) : ∀ {l : List (Nat × List Value)}, Has wx l → Has w1 l
  | [], _ => trivial
  | p :: _, ⟨⟨h1, h2, h3⟩, t⟩ => ⟨⟨Nat.lt_of_lt_of_le h1 hb.size, fun o => (hb.frozen (p := ⟨p.1, o, none⟩) h1).trans (h2 o), HasAt.step hb h1 h3⟩, Has.step hb t⟩
theorem Has.mem {wx : World} {p : Nat × List Value} : ∀ {l : List (Nat × List Value)}, Has wx l → p ∈ l → (p.1 < wx.heap.size ∧ (∀ o, wx.frozen? ⟨p.1, o, none⟩ = false) ∧ HasAt wx p.1 0 p.2)
  | _ :: _, ⟨h, t⟩, hm => by
    rcases List.mem_cons.mp hm with rfl | hm
    · exact h
    · exact Has.mem t hm
theorem Has.sub {wx : World} {l : List (Nat × List Value)} (h : Has wx l) : ∀ {l' : List (Nat × List Value)}, (∀ p ∈ l', p ∈ l) → Has wx l'
  | [], _ => trivial
  | p :: _, hs => ⟨h.mem (hs p (List.mem_cons_self ..)), Has.sub h (fun q hq => hs q (List.mem_cons_of_mem _ hq))⟩
theorem hasAt_of {wx : World} {b : Nat} : ∀ (vs : List Value) (i : Nat), (∀ j v, vs[j]? = some v → wx.cell? ⟨b, i + j, none⟩ = some v) → HasAt wx b i vs
  | [], _, _ => trivial
  | v :: vs, i, h => ⟨h 0 v rfl, hasAt_of vs (i + 1) (fun j u hj => by have := h (j + 1) u hj; rwa [show i + (j + 1) = i + 1 + j by omega] at this)⟩

/-- Behind w nothing old has turned; each listed block holds its values. -/
structure St (w wx : World) (l : List (Nat × List Value)) : Prop where
  bel : Below w.heap.size w wx
  has : Has wx l
theorem St.nil (w : World) : St w w [] := ⟨Below.refl _ _, trivial⟩
theorem St.step {w wx w1 : World} {l : List (Nat × List Value)} (h : St w wx l) (hb : Below wx.heap.size wx w1) : St w w1 l := ⟨bstep h.bel hb (Nat.le_refl _), h.has.step hb⟩
theorem St.al {w wx : World} {l : List (Nat × List Value)} (h : St w wx l) (o : Obj) : St w (wx.alloc o) l := h.step (below_alloc1 wx o)
theorem St.dr {w wx : World} {l : List (Nat × List Value)} (h : St w wx l) : St w wx.drew l := h.step (Below.refl _ _).drew
theorem St.sub {w wx : World} {l l' : List (Nat × List Value)} (h : St w wx l) (hs : ∀ p ∈ l', p ∈ l) : St w wx l' := ⟨h.bel, h.has.sub hs⟩
theorem St.push {w wx : World} {l : List (Nat × List Value)} (h : St w wx l) (vs : List Value) (t : TypeId) : St w (wx.alloc (.cells vs.toArray t)) ((wx.heap.size, vs) :: l) := by
  refine ⟨(h.al _).bel, ⟨by simp, fun o => World.frozen?_alloc_at _ _ _ _ rfl, hasAt_of _ _ (fun j v hj => ?_)⟩, (h.al _).has⟩
  rw [Nat.zero_add, World.cell?_alloc_at _ _ _ _ rfl]
  simpa using hj
theorem St.size {w wx : World} {l : List (Nat × List Value)} (h : St w wx l) : w.heap.size ≤ wx.heap.size := h.bel.size


theorem sc2o {B : Nat} {w w1 : World} {g i j : Nat} (h : Below B w w1) (hg : B ≤ g) {v0 v1 : Value} : Below B w ((w1.setCell ⟨g, i, none⟩ v0).setCell ⟨g, j, none⟩ v1) :=
  (h.setCell (p := ⟨g, i, none⟩) hg v0).setCell (p := ⟨g, j, none⟩) hg v1
theorem gtrans {X Y Z : World} {row : Option Nat} (h : X.grownBy Y row) (k : Y.grownBy Z row) : X.grownBy Z row :=
  ⟨k.os.trans h.os, k.tape.trans h.tape, k.output.trans h.output, Nat.le_trans h.size k.size, fun b hb hr => (k.block b (Nat.lt_of_lt_of_le hb h.size) hr).trans (h.block b hb hr)⟩
theorem HasAt.far {W : World} {b g i : Nat} {v : Value} (hne : b ≠ g) : ∀ {j : Nat} {vs : List Value}, HasAt W g j vs → HasAt (W.setCell ⟨b, i, none⟩ v) g j vs
  | _, [], _ => trivial
  | j, _ :: _, ⟨h, t⟩ => ⟨(World.cell?_of_block (Below.heap_setCell W ⟨b, i, none⟩ v g (fun e => hne (by have e' : g = b := e; omega)))).trans h, HasAt.far hne t⟩
theorem Has.far {W : World} {b i : Nat} {v : Value} : ∀ {l : List (Nat × List Value)}, (∀ p ∈ l, b ≠ p.1) → Has W l → Has (W.setCell ⟨b, i, none⟩ v) l
  | [], _, _ => trivial
  | p :: _, hl, ⟨⟨h1, h2, h3⟩, t⟩ => ⟨⟨by simpa using h1, fun o => (World.frozen?_setCell ..).trans (h2 o), HasAt.far (hl p (List.mem_cons_self ..)) h3⟩, Has.far (fun q hq => hl q (List.mem_cons_of_mem _ hq)) t⟩
theorem St.join {w X Y : World} {l l2 : List (Nat × List Value)} (h : St w X l) (h2 : St X Y l2) : St w Y (l2 ++ l) := by
  have hx := h.step h2.bel
  refine ⟨hx.bel, ?_⟩
  have hh := h2.has
  clear h h2
  induction l2 with
  | nil => exact hx.has
  | cons p t ih => exact ⟨hh.1, ih hh.2⟩
theorem St.dist {w X : World} {l : List (Nat × List Value)} (h : St w X l) {g : Nat} (hg : X.heap.size ≤ g) : ∀ p ∈ l, g ≠ p.1 := fun p hp => by have := (h.has.mem hp).1; omega
theorem HasAt.get {W : World} {b : Nat} : ∀ {vs : List Value} {i : Nat}, HasAt W b i vs → ∀ j v, vs[j]? = some v → W.cell? ⟨b, i + j, none⟩ = some v
  | _ :: _, i, ⟨h, t⟩, 0, v, hv => by simp at hv; subst hv; exact h
  | _ :: vs, i, ⟨h, t⟩, j + 1, v, hv => by have := HasAt.get t j v (by simpa using hv); rwa [show i + (j + 1) = i + 1 + j by omega]
theorem St.set {w W : World} {b : Nat} {vs : List Value} {l : List (Nat × List Value)} (h : St w W ((b, vs) :: l)) (i : Nat) (hi : i < vs.length) (v : Value) (hb : w.heap.size ≤ b) (hl : ∀ p ∈ l, b ≠ p.1) : St w (W.setCell ⟨b, i, none⟩ v) ((b, vs.set i v) :: l) := by
  obtain ⟨h1, ⟨h2, h3, h4⟩, h5⟩ := h
  refine ⟨h1.setCell (p := ⟨b, i, none⟩) hb _, ⟨⟨by simpa using h2, fun o => (World.frozen?_setCell ..).trans (h3 o), hasAt_of _ _ (fun j u hj => ?_)⟩, Has.far hl h5⟩⟩
  have hg := HasAt.get h4
  by_cases e : i = j
  · subst e
    have hu : u = v := by rw [List.getElem?_set_self hi] at hj; exact (Option.some.inj hj).symm
    subst hu
    have := hg i _ (List.getElem?_eq_getElem hi)
    rw [Nat.zero_add] at this ⊢
    exact World.cell?_setCell_same' _ _ _ (by rw [this]; rfl)
  · rw [List.getElem?_set_ne e] at hj
    have := hg j u hj
    rw [Nat.zero_add] at this ⊢
    refine (World.cell?_setCell_other _ _ _ _ (fun q => e ?_)).trans this
    injection q
theorem St.set4 {w W : World} {b : Nat} {a0 a1 a2 a3 : Value} {l : List (Nat × List Value)} (h : St w W ((b, [a0, a1, a2, a3]) :: l)) (v0 v1 v2 v3 : Value) (hb : w.heap.size ≤ b) (hl : ∀ p ∈ l, b ≠ p.1) : St w ((((W.setCell ⟨b, 0, none⟩ v0).setCell ⟨b, 1, none⟩ v1).setCell ⟨b, 2, none⟩ v2).setCell ⟨b, 3, none⟩ v3) ((b, [v0, v1, v2, v3]) :: l) :=
  (((h.set 0 (by simp) v0 hb hl).set 1 (by simp) v1 hb hl).set 2 (by simp) v2 hb hl).set 3 (by simp) v3 hb hl
structure Rw where
  v : Value
  e : TypeId
  s : Nat
  n : Nat
  xs : List Value
def Rw.own (r : Rw) (W : World) (base : Nat) : Prop := W.ownsRow base r.e r.s r.v r.n r.xs
structure Sg (w W : World) (rs : List Rw) : Prop where
  bel : Below w.heap.size w W
  own : ∀ r ∈ rs, r.own W w.heap.size
  dis : rs.Pairwise fun p q => p.v.ownBlock = none ∨ p.v.ownBlock ≠ q.v.ownBlock
theorem Sg.nil (w : World) : Sg w w [] := ⟨Below.refl _ _, by simp, .nil⟩
theorem Sg.step {w W W' : World} {rs : List Rw} (h : Sg w W rs) (hb : Below W.heap.size W W') : Sg w W' rs :=
  ⟨bstep h.bel hb (Nat.le_refl _), fun p hp => own_of_below (h.own p hp) hb, h.dis⟩
theorem Sg.add {w W W' : World} {rs : List Rw} {r : Rw} (h : Sg w W rs) (hr : r.own W' W.heap.size) (hb : Below W.heap.size W W') : Sg w W' (r :: rs) := by
  have h' := h.step hb
  refine ⟨h'.bel, fun p hp => ?_, .cons (fun q hq => ?_) h'.dis⟩
  · rcases List.mem_cons.mp hp with rfl | hp
    · exact own_mono hr h.bel.size
    · exact h'.own p hp
  · cases hv : r.v.ownBlock with
    | none => exact .inl rfl
    | some g =>
      refine .inr fun e => ?_
      have h1 := World.ownsRow.lt hr g hv
      have h2 := World.ownsRow.lt (h.own q hq) g e.symm
      omega
theorem Sg.sub {w W : World} {rs rs' : List Rw} (h : Sg w W rs) (hs : rs'.Sublist rs) : Sg w W rs' := ⟨h.bel, fun p hp => h.own p (hs.subset hp), h.dis.sublist hs⟩
theorem Sg.put {w W W' : World} {A B : List Rw} {r r' : Rw} (h : Sg w W (A ++ r :: B)) (hv : r'.v = r.v) (hr : r'.own W' w.heap.size) (hg : W.grownBy W' r.v.ownBlock) : Sg w W' (A ++ r' :: B) := by
  have hd := h.dis
  rw [List.pairwise_append, List.pairwise_cons] at hd
  obtain ⟨dA, ⟨dv, dB⟩, dAB⟩ := hd
  have hrr := h.own r (by simp)
  refine ⟨⟨hg.os.trans h.bel.os, hg.tape.trans h.bel.tape, hg.output.trans h.bel.output, Nat.le_trans h.bel.size hg.size, fun k hk => ?_⟩, fun p hp => ?_, ?_⟩
  · refine (hg.block k (Nat.lt_of_lt_of_le hk h.bel.size) (fun e => ?_)).trans (h.bel.block k hk)
    have := World.ownsRow.lt hrr k e.symm
    omega
  · simp only [List.mem_append, List.mem_cons] at hp
    rcases hp with hp | rfl | hp
    · refine World.ownsRow.kept (h.own p (by simp [hp])) hg ?_
      exact dAB p hp r (by simp)
    · exact hr
    · refine World.ownsRow.kept (h.own p (by simp [hp])) hg ?_
      rcases dv p hp with e | e
      · rw [e]; cases hp' : p.v.ownBlock <;> simp
      · exact .inr (fun e' => e e'.symm)
  · rw [List.pairwise_append, List.pairwise_cons]
    refine ⟨dA, ⟨fun p hp => by rw [hv]; exact dv p hp, dB⟩, fun a ha b hb => ?_⟩
    rcases List.mem_cons.mp hb with rfl | hb
    · rw [hv]; exact dAB a ha r (by simp)
    · exact dAB a ha b (by simp [hb])
/-- One of the lists has grown, at its place or elsewhere. -/
theorem Sg.app {w W W' : World} {A B : List Rw} {r r' : Rw} (h : Sg w W (A ++ r :: B)) (hr : r'.own W' w.heap.size) (hg : W.grownBy W' r.v.ownBlock) (hat : ∀ g, r'.v.ownBlock = some g → r.v.ownBlock = some g ∨ W.heap.size ≤ g) : Sg w W' (A ++ r' :: B) := by
  have hd := h.dis
  rw [List.pairwise_append, List.pairwise_cons] at hd
  obtain ⟨dA, ⟨dv, dB⟩, dAB⟩ := hd
  have hrr := h.own r (by simp)
  have far : ∀ p ∈ A ++ B, p.v.ownBlock = none ∨ p.v.ownBlock ≠ r.v.ownBlock := by
    intro p hp
    rcases List.mem_append.mp hp with hp | hp
    · exact dAB p hp r (by simp)
    · rcases dv p hp with e | e
      · rw [e]; cases p.v.ownBlock <;> simp
      · exact .inr fun e' => e e'.symm
  have mem : ∀ p ∈ A ++ B, p ∈ A ++ r :: B := by
    intro p hp
    rcases List.mem_append.mp hp with hp | hp
    · exact List.mem_append_left _ hp
    · exact List.mem_append_right _ (List.mem_cons_of_mem _ hp)
  have far' : ∀ p ∈ A ++ B, p.v.ownBlock = none ∨ p.v.ownBlock ≠ r'.v.ownBlock := by
    intro p hp
    cases e : p.v.ownBlock with
    | none => exact .inl rfl
    | some g =>
      refine .inr fun e' => ?_
      rcases hat g e'.symm with e2 | e2
      · rcases far p hp with f | f
        · rw [e] at f; cases f
        · exact f (by rw [e, e2])
      · have := World.ownsRow.lt (h.own p (mem p hp)) g e
        omega
  refine ⟨⟨hg.os.trans h.bel.os, hg.tape.trans h.bel.tape, hg.output.trans h.bel.output, Nat.le_trans h.bel.size hg.size, fun k hk => ?_⟩, fun p hp => ?_, ?_⟩
  · refine (hg.block k (Nat.lt_of_lt_of_le hk h.bel.size) (fun e => ?_)).trans (h.bel.block k hk)
    have := World.ownsRow.lt hrr k e.symm
    omega
  · simp only [List.mem_append, List.mem_cons] at hp
    rcases hp with hp | rfl | hp
    · exact World.ownsRow.kept (h.own p (by simp [hp])) hg (far p (by simp [hp]))
    · exact hr
    · exact World.ownsRow.kept (h.own p (by simp [hp])) hg (far p (by simp [hp]))
  · rw [List.pairwise_append, List.pairwise_cons]
    refine ⟨dA, ⟨fun p hp => ?_, dB⟩, fun a ha b hb => ?_⟩
    · rcases far' p (by simp [hp]) with e | e
      · rw [e]; cases r'.v.ownBlock <;> simp
      · exact .inr fun e' => e e'.symm
    · rcases List.mem_cons.mp hb with rfl | hb
      · exact far' a (by simp [ha])
      · exact dAB a ha b (by simp [hb])
theorem Sg.o0 {w W : World} {a : Rw} {l : List Rw} (h : Sg w W (a :: l)) : a.own W w.heap.size := h.own _ (by simp)
theorem Sg.o1 {w W : World} {a b : Rw} {l : List Rw} (h : Sg w W (a :: b :: l)) : b.own W w.heap.size := h.own _ (by simp)
theorem Sg.o2 {w W : World} {a b c : Rw} {l : List Rw} (h : Sg w W (a :: b :: c :: l)) : c.own W w.heap.size := h.own _ (by simp)
theorem Sg.o3 {w W : World} {a b c d : Rw} {l : List Rw} (h : Sg w W (a :: b :: c :: d :: l)) : d.own W w.heap.size := h.own _ (by simp)
theorem Sg.d0 {w W : World} {a : Rw} {l : List Rw} (h : Sg w W (a :: l)) : Sg w W l := h.sub (List.sublist_cons_self ..)
theorem Sg.d1 {w W : World} {a b : Rw} {l : List Rw} (h : Sg w W (a :: b :: l)) : Sg w W (a :: l) := h.sub ((List.sublist_cons_self ..).cons_cons _)
theorem Sg.addL {w W W' : World} {rs : List Rw} (h : Sg w W rs) : ∀ {rs' : List Rw}, Sg W W' rs' → Sg w W' (rs' ++ rs) := by
  intro rs' h'
  refine ⟨bstep h.bel h'.bel (Nat.le_refl _), fun r hr => ?_, ?_⟩
  · rcases List.mem_append.1 hr with hr | hr
    · exact own_mono (h'.own r hr) h.bel.size
    · exact own_of_below (h.own r hr) h'.bel
  · rw [List.pairwise_append]
    refine ⟨h'.dis, h.dis, fun a ha b hb => ?_⟩
    cases hv : a.v.ownBlock with
    | none => exact .inl rfl
    | some g =>
      refine .inr fun e => ?_
      have h1 := World.ownsRow.lt (h'.own a ha) g hv
      have h2 := World.ownsRow.lt (h.own b hb) g e.symm
      omega
theorem Sg.perm {w W : World} {rs rs' : List Rw} (h : Sg w W rs) (hp : rs.Perm rs') : Sg w W rs' :=
  ⟨h.bel, fun r hr => h.own r (hp.mem_iff.2 hr), (hp.pairwise_iff (fun {a b} (hab : a.v.ownBlock = none ∨ a.v.ownBlock ≠ b.v.ownBlock) => by
    rcases hab with e | e
    · cases hb : b.v.ownBlock
      · exact .inl rfl
      · exact .inr (by rw [e]; simp)
    · exact .inr fun e' => e e'.symm)).1 h.dis⟩
def rG {α : Type} (K : Kd α) (v : Value) (L : List α) : Rw := ⟨v, K.t, K.n, L.length, K.flat L⟩
theorem Sg.mem {w W : World} {rs : List Rw} (h : Sg w W rs) {α : Type} {K : Kd α} {v : Value} {L : List α} (hm : rG K v L ∈ rs) : OwG K W w.heap.size v L := h.own _ hm
end Go.Proofs.YtobbankkfplooaaGreat.K
