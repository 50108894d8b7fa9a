/-
  Contracts of RectOf, CellAt and Up (the spec's and the program's) over numbers, and of the looks whether two are alike.
-/
import Derived.Test.YtobbankkfplooaaGreatRows
import Derived.WalkKit
import Derived.WalkSpells
import Derived.WalkLawsBesides
import Derived.RowKit3
import Derived.Lib.SmallJoins
import Derived.Deep.QuietTactic
import Derived.BigQuiet
import Derived.RangeFuncNested
import Derived.RangeFuncBound
import Derived.RangeFuncCalls
import Derived.RangeFuncLeaves
import Derived.Shelf.Abstract
import Derived.Shelf.RegionOpen
import Derived.OwnWalkIn
import Derived.TacticsInMore
import Derived.LoopNIn
import Derived.LoopIn
namespace Go.Proofs.YtobbankkfplooaaGreat.M
open Go.RowKit Go.Joins

def spB (x y : Int) : Bool := decide (0 ≤ x ∧ x ≤ 255 ∧ 0 ≤ y ∧ y ≤ 255)
theorem spB_t {x y : Int} : spB x y = true ↔ (0 ≤ x ∧ x ≤ 255 ∧ 0 ≤ y ∧ y ≤ 255) := by unfold spB; exact decide_eq_true_iff
def levB (l : Int) : Bool := decide (0 ≤ l ∧ l ≤ 8)
theorem levB_t {l : Int} : levB l = true ↔ (0 ≤ l ∧ l ≤ 8) := by unfold levB; exact decide_eq_true_iff
def inB (x a b : Int) : Bool := decide (a ≤ x ∧ x ≤ b)
theorem inB_t {x a b : Int} : inB x a b = true ↔ (a ≤ x ∧ x ≤ b) := by unfold inB; exact decide_eq_true_iff
def cellB (l x y : Int) : Bool := decide (0 ≤ l ∧ l ≤ 8 ∧ 0 ≤ x ∧ x < 2 ^ l.toNat ∧ 0 ≤ y ∧ y < 2 ^ l.toNat)
theorem cellB_t {l x y : Int} : cellB l x y = true ↔ (0 ≤ l ∧ l ≤ 8 ∧ 0 ≤ x ∧ x < 2 ^ l.toNat ∧ 0 ≤ y ∧ y < 2 ^ l.toNat) := by unfold cellB; exact decide_eq_true_iff
theorem nine {l : Int} (h0 : 0 ≤ l) (h8 : l ≤ 8) : l = 0 ∨ l = 1 ∨ l = 2 ∨ l = 3 ∨ l = 4 ∨ l = 5 ∨ l = 6 ∨ l = 7 ∨ l = 8 := by omega
theorem pw {l : Int} (h0 : 0 ≤ l) (h8 : l ≤ 8) : (1 : Int) ≤ 2 ^ l.toNat ∧ (2 : Int) ^ l.toNat ≤ 256 := by
  rcases nine h0 h8 with rfl | rfl | rfl | rfl | rfl | rfl | rfl | rfl | rfl <;> decide
theorem pw8 {l : Int} (h0 : 0 ≤ l) (h8 : l ≤ 8) : (2 : Int) ^ (8 - l).toNat = 256 / 2 ^ l.toNat := by
  rcases nine h0 h8 with rfl | rfl | rfl | rfl | rfl | rfl | rfl | rfl | rfl <;> decide
theorem pwm {l : Int} (h0 : 0 ≤ l) (h8 : l ≤ 8) : (2 : Int) ^ l.toNat * (2 : Int) ^ (8 - l).toNat = 256 := by
  rcases nine h0 h8 with rfl | rfl | rfl | rfl | rfl | rfl | rfl | rfl | rfl <;> decide
theorem w64 {a : Int} (h0 : -1 ≤ a) (h1 : a ≤ 100000000) : wrap64 a = a := by unfold wrap64; omega
theorem spB_f {x y : Int} : spB x y = false ↔ ¬ (0 ≤ x ∧ x ≤ 255 ∧ 0 ≤ y ∧ y ≤ 255) := by unfold spB; exact decide_eq_false_iff_not

theorem ret_bool {a b : Bool} (h : a = b) : Ending.returned (.bool a) = .returned (.bool b) := by rw [h]
theorem ret_i64 {a b : Int} (h : a = b) : Ending.returned (.int .i64 a) = .returned (.int .i64 b) := by rw [h]
theorem bcell {W w1 : World} (hb : Below W.heap.size W w1) : (∀ b o, b < W.heap.size → w1.cell? ⟨b, o, none⟩ = W.cell? ⟨b, o, none⟩) ∧ (∀ b o, b < W.heap.size → w1.frozen? ⟨b, o, none⟩ = W.frozen? ⟨b, o, none⟩) :=
  ⟨fun b o h => hb.cell (p := ⟨b, o, none⟩) h, fun b o h => hb.frozen (p := ⟨b, o, none⟩) h⟩

theorem bstep {B : Nat} {W w1 w2 : World} (h : Below B W w1) (hb : Below w1.heap.size w1 w2) (hB : B ≤ W.heap.size) : Below B W w2 := h.trans (hb.mono (Nat.le_trans hB h.size))
theorem bstepA {B : Nat} {W w1 w2 : World} {o : Obj} (h : Below B W w1) (hb : Below (w1.alloc o).heap.size (w1.alloc o) w2) (hB : B ≤ W.heap.size) : Below B W w2 :=
  bstep (h.alloc (Nat.le_trans hB h.size) o) hb hB
theorem bstepB {B : Nat} {W w1 w2 : World} {o o2 : Obj} (h : Below B W w1) (hb : Below ((w1.alloc o).alloc o2).heap.size ((w1.alloc o).alloc o2) w2) (hB : B ≤ W.heap.size) : Below B W w2 :=
  bstepA (h.alloc (Nat.le_trans hB h.size) o) hb hB
theorem ba1 {w w1 : World} {o : Obj} (hb : Below (w.alloc o).heap.size (w.alloc o) w1) : Below w.heap.size w w1 := (below_alloc1 w o).trans (hb.mono (by simp))
theorem ba2 {w w1 : World} {o p : Obj} (hb : Below ((w.alloc o).alloc p).heap.size ((w.alloc o).alloc p) w1) : Below w.heap.size w w1 := (below_alloc2 w o p).trans (hb.mono (by simp; omega))
theorem ba3 {w w1 : World} {o p q : Obj} (hb : Below (((w.alloc o).alloc p).alloc q).heap.size (((w.alloc o).alloc p).alloc q) w1) : Below w.heap.size w w1 := (below_alloc3 w o p q).trans (hb.mono (by simp; omega))

theorem sc4 {B : Nat} {w w1 : World} {g : Nat} (h : Below B w w1) (hg : B ≤ g) {v0 v1 v2 v3 : Value} : Below B w ((((w1.setCell ⟨g, 0, none⟩ v0).setCell ⟨g, 1, none⟩ v1).setCell ⟨g, 2, none⟩ v2).setCell ⟨g, 3, none⟩ v3) :=
  (((h.setCell (p := ⟨g, 0, none⟩) hg v0).setCell (p := ⟨g, 1, none⟩) hg v1).setCell (p := ⟨g, 2, none⟩) hg v2).setCell (p := ⟨g, 3, none⟩) hg v3
theorem sc2 {B : Nat} {w w1 : World} {g : Nat} (h : Below B w w1) (hg : B ≤ g) {v0 v1 : Value} : Below B w ((w1.setCell ⟨g, 0, none⟩ v0).setCell ⟨g, 1, none⟩ v1) :=
  (h.setCell (p := ⟨g, 0, none⟩) hg v0).setCell (p := ⟨g, 1, none⟩) hg v1


theorem sc3 {B : Nat} {w w1 : World} {g : Nat} (h : Below B w w1) (hg : B ≤ g) {v0 v1 v2 : Value} : Below B w (((w1.setCell ⟨g, 0, none⟩ v0).setCell ⟨g, 1, none⟩ v1).setCell ⟨g, 2, none⟩ v2) :=
  ((h.setCell (p := ⟨g, 0, none⟩) hg v0).setCell (p := ⟨g, 1, none⟩) hg v1).setCell (p := ⟨g, 2, none⟩) hg v2

set_option maxHeartbeats 400000 in
theorem l1In_any (x a b : Int) (w : World) :
    Calls Tryz.prog 49 #[.int .i64 x, .int .i64 a, .int .i64 b] w fun e w' => e = .returned (.bool (inB x a b)) ∧ w' = w := by
  go_enter Tryz.func49, Tryz.ntmps49
  go_wp2
  all_goals (go_ret; exact ⟨ret_bool (by unfold inB; first | exact (decide_eq_true (by omega)).symm | exact (decide_eq_false (by omega)).symm | exact decide_eq_decide.mpr (by omega)), rfl⟩)

set_option maxHeartbeats 400000 in
theorem toSpot_any (x y : Int) (w : World) :
    Calls Tryz.prog 113 #[.agg #[.int .i64 x, .int .i64 y]] w fun e w' => e = .returned (.agg #[.int .i64 x, .int .i64 y]) ∧ Below w.heap.size w w' := by
  go_enter Tryz.func113, Tryz.ntmps113
  go_wp2
  refine bodyPost_ret (v := .agg #[.int .i64 x, .int .i64 y]) (by simp [results, Tryz.results113, go_sem]) rfl ⟨rfl, ?_⟩
  exact below_alloc3 _ _ _ _

set_option maxHeartbeats 400000 in
theorem spRight_any (x y : Int) (w : World) :
    Calls Tryz.prog 115 #[.agg #[.int .i64 x, .int .i64 y]] w fun e w' => e = .returned (.bool (spB x y)) ∧ Below w.heap.size w w' := by
  go_enter Tryz.func115, Tryz.ntmps115
  go_wp2
  all_goals (go_ret; exact ⟨ret_bool (by unfold spB; first | exact (decide_eq_true (by omega)).symm | exact (decide_eq_false (by omega)).symm | exact decide_eq_decide.mpr (by omega)), below_alloc1 _ _⟩)

set_option maxHeartbeats 400000 in
theorem sSpot_any (x y : Int) (w : World) :
    Calls Tryz.prog 92 #[.agg #[.int .i64 x, .int .i64 y]] w fun e w' => e = .returned (.bool (spB x y)) ∧ Below w.heap.size w w' := by
  go_enter Tryz.func92, Tryz.ntmps92
  go_wp2_with (first | (go_at_call 49; refine (l1In_any _ _ _ _).mono ?_; rintro e w1 ⟨rfl, rfl⟩))
  all_goals (go_ret; exact ⟨ret_bool (by simp only [inB, spB, decide_eq_true_eq] at *; first | exact (decide_eq_true (by omega)).symm | exact (decide_eq_false (by omega)).symm | exact decide_eq_decide.mpr (by omega)), below_alloc1 _ _⟩)

end Go.Proofs.YtobbankkfplooaaGreat.M
namespace Go.Proofs.YtobbankkfplooaaGreat.M
open Go.RowKit Go.Joins

def HasAt (wx : World) (b : Nat) : Nat → List Value → Prop
  | _, [] => True
  | i, v :: vs => wx.cell? ⟨b, i, none⟩ = some v ∧ HasAt wx b (i + 1) vs
def Has (wx : World) : List (Nat × List Value) → Prop
  | [] => True
  | p :: l => (p.1 < wx.heap.size ∧ (∀ o, wx.frozen? ⟨p.1, o, none⟩ = false) ∧ HasAt wx p.1 0 p.2) ∧ Has wx l
theorem HasAt.step {wx w1 : World} {b : Nat} (hb : Below wx.heap.size wx w1) (hlt : b < wx.heap.size) : ∀ {i : Nat} {vs : List Value}, HasAt wx b i vs → HasAt w1 b i vs
  | _, [], _ => trivial
  | i, _ :: _, ⟨h, t⟩ => ⟨(hb.cell (p := ⟨b, i, none⟩) hlt).trans h, HasAt.step hb hlt t⟩
theorem Has.step {wx w1 : World} (hb : Below wx.heap.size wx w1) : ∀ {l : List (Nat × List Value)}, Has wx l → Has w1 l
  | [], _ => trivial
  | p :: _, ⟨⟨h1, h2, h3⟩, t⟩ => ⟨⟨Nat.lt_of_lt_of_le h1 hb.size, fun o => (hb.frozen (p := ⟨p.1, o, none⟩) h1).trans (h2 o), HasAt.step hb h1 h3⟩, Has.step hb t⟩
theorem Has.mem {wx : World} {p : Nat × List Value} : ∀ {l : List (Nat × List Value)}, Has wx l → p ∈ l → (p.1 < wx.heap.size ∧ (∀ o, wx.frozen? ⟨p.1, o, none⟩ = false) ∧ HasAt wx p.1 0 p.2)
  | _ :: _, ⟨h, t⟩, hm => by
    rcases List.mem_cons.mp hm with rfl | hm
    · exact h
    · exact Has.mem t hm
theorem Has.sub {wx : World} {l : List (Nat × List Value)} (h : Has wx l) : ∀ {l' : List (Nat × List Value)}, (∀ p ∈ l', p ∈ l) → Has wx l'
  | [], _ => trivial
  | p :: _, hs => ⟨h.mem (hs p (List.mem_cons_self ..)), Has.sub h (fun q hq => hs q (List.mem_cons_of_mem _ hq))⟩
theorem hasAt_of {wx : World} {b : Nat} : ∀ (vs : List Value) (i : Nat), (∀ j v, vs[j]? = some v → wx.cell? ⟨b, i + j, none⟩ = some v) → HasAt wx b i vs
  | [], _, _ => trivial
  | v :: vs, i, h => ⟨h 0 v rfl, hasAt_of vs (i + 1) (fun j u hj => by have := h (j + 1) u hj; rwa [show i + (j + 1) = i + 1 + j by omega] at this)⟩

/-- Behind w nothing old has turned; each listed block holds its values. -/
structure St (w wx : World) (l : List (Nat × List Value)) : Prop where
  bel : Below w.heap.size w wx
  has : Has wx l
theorem St.nil (w : World) : St w w [] := ⟨Below.refl _ _, trivial⟩
theorem St.step {w wx w1 : World} {l : List (Nat × List Value)} (h : St w wx l) (hb : Below wx.heap.size wx w1) : St w w1 l := ⟨bstep h.bel hb (Nat.le_refl _), h.has.step hb⟩
theorem St.al {w wx : World} {l : List (Nat × List Value)} (h : St w wx l) (o : Obj) : St w (wx.alloc o) l := h.step (below_alloc1 wx o)
theorem St.dr {w wx : World} {l : List (Nat × List Value)} (h : St w wx l) : St w wx.drew l := h.step (Below.refl _ _).drew
theorem St.sub {w wx : World} {l l' : List (Nat × List Value)} (h : St w wx l) (hs : ∀ p ∈ l', p ∈ l) : St w wx l' := ⟨h.bel, h.has.sub hs⟩
theorem St.push {w wx : World} {l : List (Nat × List Value)} (h : St w wx l) (vs : List Value) (t : TypeId) : St w (wx.alloc (.cells vs.toArray t)) ((wx.heap.size, vs) :: l) := by
  refine ⟨(h.al _).bel, ⟨by simp, fun o => World.frozen?_alloc_at _ _ _ _ rfl, hasAt_of _ _ (fun j v hj => ?_)⟩, (h.al _).has⟩
  rw [Nat.zero_add, World.cell?_alloc_at _ _ _ _ rfl]
  simpa using hj
theorem St.size {w wx : World} {l : List (Nat × List Value)} (h : St w wx l) : w.heap.size ≤ wx.heap.size := h.bel.size

end Go.Proofs.YtobbankkfplooaaGreat.M
namespace Go.Proofs.YtobbankkfplooaaGreat.M
open Go.RowKit Go.Joins

/-- What lay from block B on lies as it lay. -/
structure KeepF (B : Nat) (W W' : World) : Prop where
  size : W.heap.size ≤ W'.heap.size
  same : ∀ k, B ≤ k → k < W.heap.size → W'.heap[k]? = W.heap[k]?
theorem KeepF.refl (B : Nat) (W : World) : KeepF B W W := ⟨Nat.le_refl _, fun _ _ _ => rfl⟩
theorem KeepF.trans {B : Nat} {X Y Z : World} (h : KeepF B X Y) (k : KeepF B Y Z) : KeepF B X Z :=
  ⟨Nat.le_trans h.size k.size, fun i hB hi => (k.same i hB (Nat.lt_of_lt_of_le hi h.size)).trans (h.same i hB hi)⟩
theorem KeepF.alloc (B : Nat) (W : World) (o : Obj) : KeepF B W (W.alloc o) := ⟨by simp, fun k _ hk => Below.heap_alloc W o k hk⟩
theorem KeepF.setCell {B b : Nat} (W : World) (i : Nat) (v : Value) (hb : b < B) : KeepF B W (W.setCell ⟨b, i, none⟩ v) :=
  ⟨by simp, fun k hB _ => Below.heap_setCell W ⟨b, i, none⟩ v k (fun e => by have e' : k = b := e; omega)⟩
theorem KeepF.of_below {B : Nat} {W W' : World} (h : Below W.heap.size W W') : KeepF B W W' := ⟨h.size, fun k _ hk => h.block k hk⟩

/-- J asks nothing of what lies from block B on. -/
def Stab (B : Nat) (J : Nat → World → Prop) : Prop := ∀ k X Y, J k X → Below B X Y → J k Y
theorem below_putObj {B l : Nat} (W : World) (o : Obj) (hl : B ≤ l) : Below B W (W.putObj l o) := ⟨rfl, rfl, rfl, by simp, fun _ hk => World.putObj_heap_other (by omega)⟩

/-- The value of an iterator that hands out enc 0, enc 1, .. enc (N - 1), or is told to stop. -/
def UpSeq (P : Program) (gf : Nat) (lb : Array Value) (enc : Nat → Value) (N B : Nat) (w : World) : Prop :=
  ∀ (l : Nat) (J Jx : Nat → World → Prop) (W : World), Below w.heap.size w W → B ≤ W.heap.size → Stab W.heap.size J → Stab W.heap.size Jx →
    (∀ k W1, k < N → J k W1 → YieldAt Fence.wide 1 P l #[enc k] W1 fun e W' =>
      (e = .returned (.bool true) ∧ J (k + 1) W' ∧ KeepF B W1 W') ∨ (e = .returned (.bool false) ∧ Jx k W')) →
    J 0 W →
    CallsIn Fence.wide 2 P gf (#[.func (.yield l) #[] #[]] ++ lb) W fun e W' => (∃ v, e = .returned v) ∧ (J N W' ∨ ∃ k, k < N ∧ Jx k W')

/-- How a round may be left. -/
def postU (B : Nat) (I Ix : Nat → World → Prop) (k : Nat) (W : World) : Exit → Act → World → Prop
  | .normal, _, W' => KeepF B W W' ∧ I (k + 1) W'
  | .ret, _, W' => KeepF B W W' ∧ Ix k W'
  | _, _, _ => False

theorem range_up {P : Program} {g : Operand} {p : Tmp} {assign body : Code} {Q : Exit → Act → World → Prop} {a : Act} {w : World} {gf : Nat} {lb : Array Value}
    (hg : a.eval g = .func (.func gf) #[] lb) (eg : ∀ args w, (callFunc gf args).run P w = .ok (.enter gf args) w)
    {enc : Nat → Value} {cs : Nat → Array Value} {t : TypeId} {N : Nat} (hseq : UpSeq P gf lb enc N w.heap.size w)
    (I Ix : Nat → World → Prop) (hI : Stab w.heap.size I) (hIx : Stab w.heap.size Ix) (h0 : I 0 w) (a1 : Nat → Nat → Act)
    (hassign : ∀ (l k : Nat) (W : World) (K : Act → World → Prop), K (a1 k W.heap.size) (W.alloc (.cells (cs k) t)) →
      assign.wpIn (Fence.wide.inRound l) 1 P (Exit.then K (fun _ _ _ => False)) { tmps := ((#[p] : Array Tmp).zip #[enc k]).foldl (fun t (p, v) => t.setIfInBounds p v) a.tmps, defers := [] } W)
    (hbody : ∀ (l k v : Nat) (W : World), k < N → I k W → w.heap.size ≤ v → v < W.heap.size → W.heap[v]? = some (.cells (cs k) t) → w.heap.size ≤ W.heap.size →
      body.wpIn (Fence.wide.inRound l) 1 P (postU w.heap.size I Ix k W) (a1 k v) W)
    (hdone : ∀ (W : World), I N W → W.heap[w.heap.size]? = some (.deferred (some [])) → Q .normal { a with defers := { target := .collected w.heap.size, args := #[] } :: a.defers } W)
    (hstop : ∀ (k : Nat) (W : World), k < N → Ix k W → W.heap[w.heap.size]? = some (.deferred (some [])) → Code.ret.wpIn Fence.wide 3 P Q { a with defers := { target := .collected w.heap.size, args := #[] } :: a.defers } W) :
    (Code.rangeFunc g #[p] assign body).wpIn Fence.wide 3 P Q a w := by
  refine wpIn_rangeFunc fun fn hfn => ?_
  obtain ⟨rc, hrc⟩ : ∃ rc : LoopState → Option Code → Loop, rc = fun st pe => { state := st, pending := pe, fn, tmps := a.tmps, params := #[p], assign, body, defers := w.heap.size } := ⟨_, rfl⟩
  obtain ⟨W1, hW1⟩ : ∃ W1, (w.alloc (.deferred (some []))).alloc (.loop (rc .ready none)) = W1 := ⟨_, rfl⟩
  have hz : W1.heap.size = w.heap.size + 1 + 1 := by rw [← hW1]; simp
  have hL1 : W1.heap[w.heap.size + 1]? = some (.loop (rc .ready none)) := by
    rw [← hW1]; have := World.alloc_heap_new (w.alloc (.deferred (some []))) (.loop (rc .ready none)); rwa [World.size_alloc] at this
  have hK1 : W1.heap[w.heap.size]? = some (.deferred (some [])) := by
    rw [← hW1]; exact (Below.heap_alloc _ _ _ (by simp)).trans (World.alloc_heap_new w _)
  have hb1 : Below w.heap.size w W1 := by rw [← hW1]; exact below_alloc2 _ _ _
  refine ⟨w.heap.size + 1, [{ target := .collected w.heap.size, args := #[] }], W1, { target := .fn (.func gf) lb, args := #[.func (.yield (w.heap.size + 1)) #[] #[]] }, W1, gf,
    #[.func (.yield (w.heap.size + 1)) #[] #[]] ++ lb, W1, ?_, ?_, fun _ _ => trivial, ?_, fun _ => by decide, ?_⟩
  · rw [← hW1, hrc]; exact run_enterLoop_outer _ _ _ _ _
  · simp only [resolve, hg]
    simp [go_sem]
  · simp [invoke, go_sem, eg]
  · refine (hseq (w.heap.size + 1)
      (fun k W => I k W ∧ W.heap[w.heap.size + 1]? = some (.loop (rc .ready none)) ∧ W.heap[w.heap.size]? = some (.deferred (some [])))
      (fun k W => Ix k W ∧ W.heap[w.heap.size + 1]? = some (.loop (rc .done (some .ret))) ∧ W.heap[w.heap.size]? = some (.deferred (some [])))
      W1 hb1 (by omega)
      (fun k X Y hs hb => ⟨hI k X Y hs.1 (hb.mono (by omega)), (hb.block _ (by omega)).trans hs.2.1, (hb.block _ (by omega)).trans hs.2.2⟩)
      (fun k X Y hs hb => ⟨hIx k X Y hs.1 (hb.mono (by omega)), (hb.block _ (by omega)).trans hs.2.1, (hb.block _ (by omega)).trans hs.2.2⟩)
      ?_ ⟨hI 0 _ _ h0 hb1, hL1, hK1⟩).mono ?_
    · rintro k W hkN ⟨hi, hl, hk⟩
      have hlt : w.heap.size + 1 < W.heap.size := (Array.getElem?_eq_some_iff.1 hl).1
      have hy := run_yield (P := P) (args := #[enc k]) hl (by rw [hrc]; rfl)
      rw [hrc] at hy
      refine ⟨fn, _, assign, body, hy, roundIn_of_wpIn hfn ?_⟩
      clear hy
      refine hassign _ k W _ ?_
      obtain ⟨Wa, hWa⟩ : ∃ Wa, W.alloc (.cells (cs k) t) = Wa := ⟨_, rfl⟩
      rw [hWa]
      have kfa : KeepF w.heap.size W Wa := by rw [← hWa]; exact KeepF.alloc _ _ _
      have hza : Wa.heap.size = W.heap.size + 1 := by rw [← hWa]; simp
      have hva : Wa.heap[W.heap.size]? = some (.cells (cs k) t) := by rw [← hWa]; exact World.alloc_heap_new _ _
      have hia : I k Wa := by rw [← hWa]; exact hI _ _ _ hi ((Below.refl _ _).alloc (by omega) _)
      have hla := (kfa.same _ (by omega) hlt).trans hl
      have hka := (kfa.same _ (Nat.le_refl _) (by omega)).trans hk
      obtain ⟨bz, hbz⟩ : ∃ bz : Obj, bz = .loop { rc .ready none with state := .busy } := ⟨_, rfl⟩
      refine ⟨_, run_beginRound hla (by rw [hrc]), ?_⟩
      rw [← hbz]
      have hlb : (Wa.putObj (w.heap.size + 1) bz).heap[w.heap.size + 1]? = some bz := World.putObj_heap_same (by omega)
      refine wpIn_mono (hbody _ k W.heap.size _ hkN (hI _ _ _ hia (below_putObj _ _ (by omega))) (by omega) (by simp; omega) ((World.putObj_heap_other (by omega)).trans hva) (by simp; omega)) ?_
      have fin : ∀ (j : Option Code) (W3 : World), KeepF w.heap.size (Wa.putObj (w.heap.size + 1) bz) W3 →
          (Instr.endRound (w.heap.size + 1) j).run P W3 = .ok (.bool j.isNone) (W3.putObj (w.heap.size + 1) (.loop (rc (if j.isNone then .ready else .done) j))) ∧
          (W3.putObj (w.heap.size + 1) (.loop (rc (if j.isNone then .ready else .done) j))).heap[w.heap.size + 1]? = some (.loop (rc (if j.isNone then .ready else .done) j)) ∧
          (W3.putObj (w.heap.size + 1) (.loop (rc (if j.isNone then .ready else .done) j))).heap[w.heap.size]? = some (.deferred (some [])) := fun j W3 h3 => by
        have hz3 := h3.size
        simp at hz3
        have hl3 := (h3.same (w.heap.size + 1) (by omega) (by simp; omega)).trans hlb
        rw [hbz] at hl3
        have := run_endRound (P := P) j hl3
        rw [hrc] at this ⊢
        refine ⟨this, World.putObj_heap_same (by omega), (World.putObj_heap_other (by omega)).trans ?_⟩
        exact (h3.same _ (Nat.le_refl _) (by simp; omega)).trans ((World.putObj_heap_other (by omega)).trans hka)
      rintro e a3 W3 hp
      cases e with
      | normal =>
        obtain ⟨h3, hi3⟩ := hp
        obtain ⟨hr, hl4, hk4⟩ := fin none W3 h3
        refine ⟨_, _, hr, .inl ⟨rfl, ⟨hI _ _ _ hi3 (below_putObj _ _ (by omega)), hl4, hk4⟩, ⟨?_, fun i hB hi => ?_⟩⟩⟩
        · have := h3.size; simp at this; simp; omega
        · by_cases e : i = w.heap.size + 1
          · subst e; rw [hl4, hl]; rfl
          · refine (World.putObj_heap_other e).trans ((h3.same i hB (by simp; omega)).trans ((World.putObj_heap_other e).trans (kfa.same i hB hi)))
      | ret =>
        obtain ⟨h3, hi3⟩ := hp
        obtain ⟨hr, hl4, hk4⟩ := fin (some .ret) W3 h3
        exact ⟨_, _, hr, .inr ⟨rfl, hIx _ _ _ hi3 (below_putObj _ _ (by omega)), hl4, hk4⟩⟩
      | exit id => exact hp.elim
      | goto t => exact hp.elim
      | panic ch => exact hp.elim
      | outgrown => exact hp.elim
    · rintro e W2 ⟨⟨v, rfl⟩, (⟨hi, hl, hk⟩ | ⟨k, hkN, hi, hl, hk⟩)⟩
      · exact ⟨none, _, by have := run_endLoop (P := P) hl (by rw [hrc]; simp); rw [hrc] at this; exact this, hdone _ (hI _ _ _ hi (below_putObj _ _ (by omega))) ((World.putObj_heap_other (by omega)).trans hk)⟩
      · exact ⟨some .ret, _, by have := run_endLoop (P := P) hl (by rw [hrc]; simp); rw [hrc] at this; exact this, hstop k _ hkN (hIx _ _ _ hi (below_putObj _ _ (by omega))) ((World.putObj_heap_other (by omega)).trans hk)⟩

end Go.Proofs.YtobbankkfplooaaGreat.M
namespace Go.Proofs.YtobbankkfplooaaGreat.M
open Go.RowKit Go.Joins

theorem bdrewN {B : Nat} {a w : World} (h : Below B a w) (n : Nat) : Below B a (w.drewN n) := h.trans ⟨rfl, rfl, rfl, Nat.le_refl _, fun _ _ => rfl⟩
end Go.Proofs.YtobbankkfplooaaGreat.M
namespace Go.Proofs.YtobbankkfplooaaGreat.M
open Go.RowKit Go.Joins

def sd (l : Int) : Int := 256 / 2 ^ l.toNat
def rX (l x y : Int) : Int := if cellB l x y then x * sd l else 0
def rY (l x y : Int) : Int := if cellB l x y then y * sd l else 0
def rS (l x y : Int) : Int := if cellB l x y then sd l else 0
def uL (l x y : Int) : Int := if cellB l x y then (if l = 0 then 0 else l - 1) else 0
def uX (l x y : Int) : Int := if cellB l x y then (if l = 0 then 0 else x / 2) else 0
def uY (l x y : Int) : Int := if cellB l x y then (if l = 0 then 0 else y / 2) else 0
def aL (s t l : Int) : Int := if spB s t && levB l then l else 0
def aX (s t l : Int) : Int := if spB s t && levB l then s / 2 ^ (8 - l).toNat else 0
def aY (s t l : Int) : Int := if spB s t && levB l then t / 2 ^ (8 - l).toNat else 0
theorem sd_bd {l : Int} (h0 : 0 ≤ l) (h8 : l ≤ 8) : 1 ≤ sd l ∧ sd l ≤ 256 := by
  unfold sd; rcases nine h0 h8 with rfl | rfl | rfl | rfl | rfl | rfl | rfl | rfl | rfl <;> decide
theorem sd_mul {l : Int} (h0 : 0 ≤ l) (h8 : l ≤ 8) : 2 ^ l.toNat * sd l = 256 := by
  unfold sd; rcases nine h0 h8 with rfl | rfl | rfl | rfl | rfl | rfl | rfl | rfl | rfl <;> decide
theorem mul_bd {x l : Int} (h0 : 0 ≤ l) (h8 : l ≤ 8) (hx : 0 ≤ x) (hx1 : x < 2 ^ l.toNat) : 0 ≤ x * sd l ∧ x * sd l + sd l ≤ 256 := by
  obtain ⟨h1, h2⟩ := sd_bd h0 h8
  have h3 := sd_mul h0 h8
  refine ⟨Int.mul_nonneg hx (by omega), ?_⟩
  have : (x + 1) * sd l ≤ 2 ^ l.toNat * sd l := Int.mul_le_mul_of_nonneg_right (by omega) (by omega)
  rw [Int.add_mul] at this; omega
theorem cell_lev {l x y : Int} (h : cellB l x y = true) : 0 ≤ l ∧ l ≤ 8 := ⟨(cellB_t.mp h).1, (cellB_t.mp h).2.1⟩

theorem spRight_v {x y : Int} {v : Bool} (hv : spB x y = v) (w : World) :
    Calls Tryz.prog 115 #[.agg #[.int .i64 x, .int .i64 y]] w fun e w' => e = .returned (.bool v) ∧ Below w.heap.size w w' := by subst hv; exact spRight_any x y w
theorem sSpot_v {x y : Int} {v : Bool} (hv : spB x y = v) (w : World) :
    Calls Tryz.prog 92 #[.agg #[.int .i64 x, .int .i64 y]] w fun e w' => e = .returned (.bool v) ∧ Below w.heap.size w w' := by subst hv; exact sSpot_any x y w
theorem l1In_v {x a b : Int} {v : Bool} (hv : inB x a b = v) (w : World) :
    Calls Tryz.prog 49 #[.int .i64 x, .int .i64 a, .int .i64 b] w fun e w' => e = .returned (.bool v) ∧ w' = w := by subst hv; exact l1In_any x a b w

end Go.Proofs.YtobbankkfplooaaGreat.M
