/-
  Contracts of the spec's Order and of the program's place.
-/
import Derived.Test.YtipfcmfcdfofmaaGreatRows
import Derived.WalkKit
import Derived.WalkSpells
import Derived.WalkLawsBesides
import Derived.RowKit3
import Derived.Lib.SmallJoins
import Derived.Deep.QuietTactic
import Derived.BigQuiet
import Derived.RangeFuncNested
import Derived.RangeFuncBound
import Derived.RangeFuncCalls
import Derived.RangeFuncLeaves
import Derived.Shelf.Abstract
import Derived.Shelf.RegionOpen
import Derived.OwnWalkIn
import Derived.TacticsInMore
import Derived.LoopNIn
import Derived.LoopIn
import Derived.Laws.EntriesVeiled
import Derived.Deep.RegionHeld3
namespace Go.Proofs.YtipfcmfcdfofmaaGreat.O
open Go.RowKit Go.Joins

def spB (x y : Int) : Bool := decide (0 ≤ x ∧ x ≤ 255 ∧ 0 ≤ y ∧ y ≤ 255)
theorem spB_t {x y : Int} : spB x y = true ↔ (0 ≤ x ∧ x ≤ 255 ∧ 0 ≤ y ∧ y ≤ 255) := by unfold spB; exact decide_eq_true_iff
def levB (l : Int) : Bool := decide (0 ≤ l ∧ l ≤ 8)
theorem levB_t {l : Int} : levB l = true ↔ (0 ≤ l ∧ l ≤ 8) := by unfold levB; exact decide_eq_true_iff
def inB (x a b : Int) : Bool := decide (a ≤ x ∧ x ≤ b)
theorem inB_t {x a b : Int} : inB x a b = true ↔ (a ≤ x ∧ x ≤ b) := by unfold inB; exact decide_eq_true_iff
def cellB (l x y : Int) : Bool := decide (0 ≤ l ∧ l ≤ 8 ∧ 0 ≤ x ∧ x < 2 ^ l.toNat ∧ 0 ≤ y ∧ y < 2 ^ l.toNat)
theorem cellB_t {l x y : Int} : cellB l x y = true ↔ (0 ≤ l ∧ l ≤ 8 ∧ 0 ≤ x ∧ x < 2 ^ l.toNat ∧ 0 ≤ y ∧ y < 2 ^ l.toNat) := by unfold cellB; exact decide_eq_true_iff
theorem nine {l : Int} (h0 : 0 ≤ l) (h8 : l ≤ 8) : l = 0 ∨ l = 1 ∨ l = 2 ∨ l = 3 ∨ l = 4 ∨ l = 5 ∨ l = 6 ∨ l = 7 ∨ l = 8 := by omega
theorem pw {l : Int} (h0 : 0 ≤ l) (h8 : l ≤ 8) : (1 : Int) ≤ 2 ^ l.toNat ∧ (2 : Int) ^ l.toNat ≤ 256 := by
  rcases nine h0 h8 with rfl | rfl | rfl | rfl | rfl | rfl | rfl | rfl | rfl <;> decide
theorem pw8 {l : Int} (h0 : 0 ≤ l) (h8 : l ≤ 8) : (2 : Int) ^ (8 - l).toNat = 256 / 2 ^ l.toNat := by
  rcases nine h0 h8 with rfl | rfl | rfl | rfl | rfl | rfl | rfl | rfl | rfl <;> decide
theorem pwm {l : Int} (h0 : 0 ≤ l) (h8 : l ≤ 8) : (2 : Int) ^ l.toNat * (2 : Int) ^ (8 - l).toNat = 256 := by
  rcases nine h0 h8 with rfl | rfl | rfl | rfl | rfl | rfl | rfl | rfl | rfl <;> decide
theorem w64 {a : Int} (h0 : -1 ≤ a) (h1 : a ≤ 100000000) : wrap64 a = a := by unfold wrap64; omega
theorem spB_f {x y : Int} : spB x y = false ↔ ¬ (0 ≤ x ∧ x ≤ 255 ∧ 0 ≤ y ∧ y ≤ 255) := by unfold spB; exact decide_eq_false_iff_not

theorem ret_bool {a b : Bool} (h : a = b) : Ending.returned (.bool a) = .returned (.bool b) := by rw [h]
theorem ret_i64 {a b : Int} (h : a = b) : Ending.returned (.int .i64 a) = .returned (.int .i64 b) := by rw [h]
theorem bcell {W w1 : World} (hb : Below W.heap.size W w1) : (∀ b o, b < W.heap.size → w1.cell? ⟨b, o, none⟩ = W.cell? ⟨b, o, none⟩) ∧ (∀ b o, b < W.heap.size → w1.frozen? ⟨b, o, none⟩ = W.frozen? ⟨b, o, none⟩) :=
  ⟨fun b o h => hb.cell (p := ⟨b, o, none⟩) h, fun b o h => hb.frozen (p := ⟨b, o, none⟩) h⟩

theorem bstep {B : Nat} {W w1 w2 : World} (h : Below B W w1) (hb : Below w1.heap.size w1 w2) (hB : B ≤ W.heap.size) : Below B W w2 := h.trans (hb.mono (Nat.le_trans hB h.size))
theorem bstepA {B : Nat} {W w1 w2 : World} {o : Obj} (h : Below B W w1) (hb : Below (w1.alloc o).heap.size (w1.alloc o) w2) (hB : B ≤ W.heap.size) : Below B W w2 :=
  bstep (h.alloc (Nat.le_trans hB h.size) o) hb hB
theorem bstepB {B : Nat} {W w1 w2 : World} {o o2 : Obj} (h : Below B W w1) (hb : Below ((w1.alloc o).alloc o2).heap.size ((w1.alloc o).alloc o2) w2) (hB : B ≤ W.heap.size) : Below B W w2 :=
  bstepA (h.alloc (Nat.le_trans hB h.size) o) hb hB
theorem ba1 {w w1 : World} {o : Obj} (hb : Below (w.alloc o).heap.size (w.alloc o) w1) : Below w.heap.size w w1 := (below_alloc1 w o).trans (hb.mono (by simp))
theorem ba2 {w w1 : World} {o p : Obj} (hb : Below ((w.alloc o).alloc p).heap.size ((w.alloc o).alloc p) w1) : Below w.heap.size w w1 := (below_alloc2 w o p).trans (hb.mono (by simp; omega))
theorem ba3 {w w1 : World} {o p q : Obj} (hb : Below (((w.alloc o).alloc p).alloc q).heap.size (((w.alloc o).alloc p).alloc q) w1) : Below w.heap.size w w1 := (below_alloc3 w o p q).trans (hb.mono (by simp; omega))

theorem sc4 {B : Nat} {w w1 : World} {g : Nat} (h : Below B w w1) (hg : B ≤ g) {v0 v1 v2 v3 : Value} : Below B w ((((w1.setCell ⟨g, 0, none⟩ v0).setCell ⟨g, 1, none⟩ v1).setCell ⟨g, 2, none⟩ v2).setCell ⟨g, 3, none⟩ v3) :=
  (((h.setCell (p := ⟨g, 0, none⟩) hg v0).setCell (p := ⟨g, 1, none⟩) hg v1).setCell (p := ⟨g, 2, none⟩) hg v2).setCell (p := ⟨g, 3, none⟩) hg v3
theorem sc2 {B : Nat} {w w1 : World} {g : Nat} (h : Below B w w1) (hg : B ≤ g) {v0 v1 : Value} : Below B w ((w1.setCell ⟨g, 0, none⟩ v0).setCell ⟨g, 1, none⟩ v1) :=
  (h.setCell (p := ⟨g, 0, none⟩) hg v0).setCell (p := ⟨g, 1, none⟩) hg v1


theorem sc3 {B : Nat} {w w1 : World} {g : Nat} (h : Below B w w1) (hg : B ≤ g) {v0 v1 v2 : Value} : Below B w (((w1.setCell ⟨g, 0, none⟩ v0).setCell ⟨g, 1, none⟩ v1).setCell ⟨g, 2, none⟩ v2) :=
  ((h.setCell (p := ⟨g, 0, none⟩) hg v0).setCell (p := ⟨g, 1, none⟩) hg v1).setCell (p := ⟨g, 2, none⟩) hg v2

set_option maxHeartbeats 400000 in
theorem isLevel_any (l : Int) (w : World) :
    Calls Tryz.prog 151 #[.int .i64 l] w fun e w' => e = .returned (.bool (levB l)) ∧ w' = w := by
  go_enter Tryz.func151, Tryz.ntmps151
  go_wp2
  all_goals (go_ret; exact ⟨ret_bool (by unfold levB; first | exact (decide_eq_true (by omega)).symm | exact (decide_eq_false (by omega)).symm | exact decide_eq_decide.mpr (by omega)), rfl⟩)

set_option maxHeartbeats 400000 in
theorem l1In_any (x a b : Int) (w : World) :
    Calls Tryz.prog 69 #[.int .i64 x, .int .i64 a, .int .i64 b] w fun e w' => e = .returned (.bool (inB x a b)) ∧ w' = w := by
  go_enter Tryz.func69, Tryz.ntmps69
  go_wp2
  all_goals (go_ret; exact ⟨ret_bool (by unfold inB; first | exact (decide_eq_true (by omega)).symm | exact (decide_eq_false (by omega)).symm | exact decide_eq_decide.mpr (by omega)), rfl⟩)

set_option maxHeartbeats 400000 in
theorem toSpot_any (x y : Int) (w : World) :
    Calls Tryz.prog 34 #[.agg #[.int .i64 x, .int .i64 y]] w fun e w' => e = .returned (.agg #[.int .i64 x, .int .i64 y]) ∧ Below w.heap.size w w' := by
  go_enter Tryz.func34, Tryz.ntmps34
  go_wp2
  refine bodyPost_ret (v := .agg #[.int .i64 x, .int .i64 y]) (by simp [results, Tryz.results34, go_sem]) rfl ⟨rfl, ?_⟩
  exact below_alloc3 _ _ _ _

set_option maxHeartbeats 400000 in
theorem spRight_any (x y : Int) (w : World) :
    Calls Tryz.prog 54 #[.agg #[.int .i64 x, .int .i64 y]] w fun e w' => e = .returned (.bool (spB x y)) ∧ Below w.heap.size w w' := by
  go_enter Tryz.func54, Tryz.ntmps54
  go_wp2
  all_goals (go_ret; exact ⟨ret_bool (by unfold spB; first | exact (decide_eq_true (by omega)).symm | exact (decide_eq_false (by omega)).symm | exact decide_eq_decide.mpr (by omega)), below_alloc1 _ _⟩)

set_option maxHeartbeats 400000 in
theorem sSpot_any (x y : Int) (w : World) :
    Calls Tryz.prog 68 #[.agg #[.int .i64 x, .int .i64 y]] w fun e w' => e = .returned (.bool (spB x y)) ∧ Below w.heap.size w w' := by
  go_enter Tryz.func68, Tryz.ntmps68
  go_wp2_with (first | (go_at_call 69; refine (l1In_any _ _ _ _).mono ?_; rintro e w1 ⟨rfl, rfl⟩))
  all_goals (go_ret; exact ⟨ret_bool (by simp only [inB, spB, decide_eq_true_eq] at *; first | exact (decide_eq_true (by omega)).symm | exact (decide_eq_false (by omega)).symm | exact decide_eq_decide.mpr (by omega)), below_alloc1 _ _⟩)

end Go.Proofs.YtipfcmfcdfofmaaGreat.O
namespace Go.Proofs.YtipfcmfcdfofmaaGreat.O
open Go.RowKit Go.Joins

def HasAt (wx : World) (b : Nat) : Nat → List Value → Prop
  | _, [] => True
  | i, v :: vs => wx.cell? ⟨b, i, none⟩ = some v ∧ HasAt wx b (i + 1) vs
def Has (wx : World) : List (Nat × List Value) → Prop
  | [] => True
  | p :: l => (p.1 < wx.heap.size ∧ (∀ o, wx.frozen? ⟨p.1, o, none⟩ = false) ∧ HasAt wx p.1 0 p.2) ∧ Has wx l
theorem HasAt.step {wx w1 : World} {b : Nat} (hb : Below wx.heap.size wx w1) (hlt : b < wx.heap.size) : ∀ {i : Nat} {vs : List Value}, HasAt wx b i vs → HasAt w1 b i vs
  | _, [], _ => trivial
  | i, _ :: _, ⟨h, t⟩ => ⟨(hb.cell (p := ⟨b, i, none⟩) hlt).trans h, HasAt.step hb hlt t⟩
theorem Has.step {wx w1 : World} (hb : Below wx.heap.size wx w1) : ∀ {l : List (Nat × List Value)}, Has wx l → Has w1 l
  | [], _ => trivial
  | p :: _, ⟨⟨h1, h2, h3⟩, t⟩ => ⟨⟨Nat.lt_of_lt_of_le h1 hb.size, fun o => (hb.frozen (p := ⟨p.1, o, none⟩) h1).trans (h2 o), HasAt.step hb h1 h3⟩, Has.step hb t⟩
theorem Has.mem {wx : World} {p : Nat × List Value} : ∀ {l : List (Nat × List Value)}, Has wx l → p ∈ l → (p.1 < wx.heap.size ∧ (∀ o, wx.frozen? ⟨p.1, o, none⟩ = false) ∧ HasAt wx p.1 0 p.2)
  | _ :: _, ⟨h, t⟩, hm => by
    rcases List.mem_cons.mp hm with rfl | hm
    · exact h
    · exact Has.mem t hm
theorem Has.sub {wx : World} {l : List (Nat × List Value)} (h : Has wx l) : ∀ {l' : List (Nat × List Value)}, (∀ p ∈ l', p ∈ l) → Has wx l'
  | [], _ => trivial
  | p :: _, hs => ⟨h.mem (hs p (List.mem_cons_self ..)), Has.sub h (fun q hq => hs q (List.mem_cons_of_mem _ hq))⟩
theorem hasAt_of {wx : World} {b : Nat} : ∀ (vs : List Value) (i : Nat), (∀ j v, vs[j]? = some v → wx.cell? ⟨b, i + j, none⟩ = some v) → HasAt wx b i vs
  | [], _, _ => trivial
  | v :: vs, i, h => ⟨h 0 v rfl, hasAt_of vs (i + 1) (fun j u hj => by have := h (j + 1) u hj; rwa [show i + (j + 1) = i + 1 + j by omega] at this)⟩

/-- Behind w nothing old has turned; each listed block holds its values. -/
structure St (w wx : World) (l : List (Nat × List Value)) : Prop where
  bel : Below w.heap.size w wx
  has : Has wx l
theorem St.nil (w : World) : St w w [] := ⟨Below.refl _ _, trivial⟩
theorem St.step {w wx w1 : World} {l : List (Nat × List Value)} (h : St w wx l) (hb : Below wx.heap.size wx w1) : St w w1 l := ⟨bstep h.bel hb (Nat.le_refl _), h.has.step hb⟩
theorem St.al {w wx : World} {l : List (Nat × List Value)} (h : St w wx l) (o : Obj) : St w (wx.alloc o) l := h.step (below_alloc1 wx o)
theorem St.dr {w wx : World} {l : List (Nat × List Value)} (h : St w wx l) : St w wx.drew l := h.step (Below.refl _ _).drew
theorem St.sub {w wx : World} {l l' : List (Nat × List Value)} (h : St w wx l) (hs : ∀ p ∈ l', p ∈ l) : St w wx l' := ⟨h.bel, h.has.sub hs⟩
theorem St.push {w wx : World} {l : List (Nat × List Value)} (h : St w wx l) (vs : List Value) (t : TypeId) : St w (wx.alloc (.cells vs.toArray t)) ((wx.heap.size, vs) :: l) := by
  refine ⟨(h.al _).bel, ⟨by simp, fun o => World.frozen?_alloc_at _ _ _ _ rfl, hasAt_of _ _ (fun j v hj => ?_)⟩, (h.al _).has⟩
  rw [Nat.zero_add, World.cell?_alloc_at _ _ _ _ rfl]
  simpa using hj
theorem St.size {w wx : World} {l : List (Nat × List Value)} (h : St w wx l) : w.heap.size ≤ wx.heap.size := h.bel.size

end Go.Proofs.YtipfcmfcdfofmaaGreat.O
namespace Go.Proofs.YtipfcmfcdfofmaaGreat.O
open Go.RowKit Go.Joins

/-- What lay from block B on lies as it lay. -/
structure KeepF (B : Nat) (W W' : World) : Prop where
  size : W.heap.size ≤ W'.heap.size
  same : ∀ k, B ≤ k → k < W.heap.size → W'.heap[k]? = W.heap[k]?
theorem KeepF.refl (B : Nat) (W : World) : KeepF B W W := ⟨Nat.le_refl _, fun _ _ _ => rfl⟩
theorem KeepF.trans {B : Nat} {X Y Z : World} (h : KeepF B X Y) (k : KeepF B Y Z) : KeepF B X Z :=
  ⟨Nat.le_trans h.size k.size, fun i hB hi => (k.same i hB (Nat.lt_of_lt_of_le hi h.size)).trans (h.same i hB hi)⟩
theorem KeepF.alloc (B : Nat) (W : World) (o : Obj) : KeepF B W (W.alloc o) := ⟨by simp, fun k _ hk => Below.heap_alloc W o k hk⟩
theorem KeepF.setCell {B b : Nat} (W : World) (i : Nat) (v : Value) (hb : b < B) : KeepF B W (W.setCell ⟨b, i, none⟩ v) :=
  ⟨by simp, fun k hB _ => Below.heap_setCell W ⟨b, i, none⟩ v k (fun e => by have e' : k = b := e; omega)⟩
theorem KeepF.of_below {B : Nat} {W W' : World} (h : Below W.heap.size W W') : KeepF B W W' := ⟨h.size, fun k _ hk => h.block k hk⟩

/-- J asks nothing of what lies from block B on. -/
def Stab (B : Nat) (J : Nat → World → Prop) : Prop := ∀ k X Y, J k X → Below B X Y → J k Y
theorem below_putObj {B l : Nat} (W : World) (o : Obj) (hl : B ≤ l) : Below B W (W.putObj l o) := ⟨rfl, rfl, rfl, by simp, fun _ hk => World.putObj_heap_other (by omega)⟩

/-- The value of an iterator that hands out enc 0, enc 1, .. enc (N - 1), or is told to stop. -/
def UpSeq (P : Program) (gf : Nat) (lb : Array Value) (enc : Nat → Value) (N B : Nat) (w : World) : Prop :=
  ∀ (l : Nat) (J Jx : Nat → World → Prop) (W : World), Below w.heap.size w W → B ≤ W.heap.size → Stab W.heap.size J → Stab W.heap.size Jx →
    (∀ k W1, k < N → J k W1 → YieldAt Fence.wide 1 P l #[enc k] W1 fun e W' =>
      (e = .returned (.bool true) ∧ J (k + 1) W' ∧ KeepF B W1 W') ∨ (e = .returned (.bool false) ∧ Jx k W')) →
    J 0 W →
    CallsIn Fence.wide 2 P gf (#[.func (.yield l) #[] #[]] ++ lb) W fun e W' => (∃ v, e = .returned v) ∧ (J N W' ∨ ∃ k, k < N ∧ Jx k W')

/-- How a round may be left. -/
def postU (B : Nat) (I Ix : Nat → World → Prop) (k : Nat) (W : World) : Exit → Act → World → Prop
  | .normal, _, W' => KeepF B W W' ∧ I (k + 1) W'
  | .ret, _, W' => KeepF B W W' ∧ Ix k W'
  | _, _, _ => False

theorem range_up {P : Program} {g : Operand} {p : Tmp} {assign body : Code} {Q : Exit → Act → World → Prop} {a : Act} {w : World} {gf : Nat} {lb : Array Value}
    (hg : a.eval g = .func (.func gf) #[] lb) (eg : ∀ args w, (callFunc gf args).run P w = .ok (.enter gf args) w)
    {enc : Nat → Value} {cs : Nat → Array Value} {t : TypeId} {N : Nat} (hseq : UpSeq P gf lb enc N w.heap.size w)
    (I Ix : Nat → World → Prop) (hI : Stab w.heap.size I) (hIx : Stab w.heap.size Ix) (h0 : I 0 w) (a1 : Nat → Nat → Act)
    (hassign : ∀ (l k : Nat) (W : World) (K : Act → World → Prop), K (a1 k W.heap.size) (W.alloc (.cells (cs k) t)) →
      assign.wpIn (Fence.wide.inRound l) 1 P (Exit.then K (fun _ _ _ => False)) { tmps := ((#[p] : Array Tmp).zip #[enc k]).foldl (fun t (p, v) => t.setIfInBounds p v) a.tmps, defers := [] } W)
    (hbody : ∀ (l k v : Nat) (W : World), k < N → I k W → w.heap.size ≤ v → v < W.heap.size → W.heap[v]? = some (.cells (cs k) t) → w.heap.size ≤ W.heap.size →
      body.wpIn (Fence.wide.inRound l) 1 P (postU w.heap.size I Ix k W) (a1 k v) W)
    (hdone : ∀ (W : World), I N W → W.heap[w.heap.size]? = some (.deferred (some [])) → Q .normal { a with defers := { target := .collected w.heap.size, args := #[] } :: a.defers } W)
    (hstop : ∀ (k : Nat) (W : World), k < N → Ix k W → W.heap[w.heap.size]? = some (.deferred (some [])) → Code.ret.wpIn Fence.wide 3 P Q { a with defers := { target := .collected w.heap.size, args := #[] } :: a.defers } W) :
    (Code.rangeFunc g #[p] assign body).wpIn Fence.wide 3 P Q a w := by
  refine wpIn_rangeFunc fun fn hfn => ?_
  obtain ⟨rc, hrc⟩ : ∃ rc : LoopState → Option Code → Loop, rc = fun st pe => { state := st, pending := pe, fn, tmps := a.tmps, params := #[p], assign, body, defers := w.heap.size } := ⟨_, rfl⟩
  obtain ⟨W1, hW1⟩ : ∃ W1, (w.alloc (.deferred (some []))).alloc (.loop (rc .ready none)) = W1 := ⟨_, rfl⟩
  have hz : W1.heap.size = w.heap.size + 1 + 1 := by rw [← hW1]; simp
  have hL1 : W1.heap[w.heap.size + 1]? = some (.loop (rc .ready none)) := by
    rw [← hW1]; have := World.alloc_heap_new (w.alloc (.deferred (some []))) (.loop (rc .ready none)); rwa [World.size_alloc] at this
  have hK1 : W1.heap[w.heap.size]? = some (.deferred (some [])) := by
    rw [← hW1]; exact (Below.heap_alloc _ _ _ (by simp)).trans (World.alloc_heap_new w _)
  have hb1 : Below w.heap.size w W1 := by rw [← hW1]; exact below_alloc2 _ _ _
  refine ⟨w.heap.size + 1, [{ target := .collected w.heap.size, args := #[] }], W1, { target := .fn (.func gf) lb, args := #[.func (.yield (w.heap.size + 1)) #[] #[]] }, W1, gf,
    #[.func (.yield (w.heap.size + 1)) #[] #[]] ++ lb, W1, ?_, ?_, fun _ _ => trivial, ?_, fun _ => by decide, ?_⟩
  · rw [← hW1, hrc]; exact run_enterLoop_outer _ _ _ _ _
  · simp only [resolve, hg]
    simp [go_sem]
  · simp [invoke, go_sem, eg]
  · refine (hseq (w.heap.size + 1)
      (fun k W => I k W ∧ W.heap[w.heap.size + 1]? = some (.loop (rc .ready none)) ∧ W.heap[w.heap.size]? = some (.deferred (some [])))
      (fun k W => Ix k W ∧ W.heap[w.heap.size + 1]? = some (.loop (rc .done (some .ret))) ∧ W.heap[w.heap.size]? = some (.deferred (some [])))
      W1 hb1 (by omega)
      (fun k X Y hs hb => ⟨hI k X Y hs.1 (hb.mono (by omega)), (hb.block _ (by omega)).trans hs.2.1, (hb.block _ (by omega)).trans hs.2.2⟩)
      (fun k X Y hs hb => ⟨hIx k X Y hs.1 (hb.mono (by omega)), (hb.block _ (by omega)).trans hs.2.1, (hb.block _ (by omega)).trans hs.2.2⟩)
      ?_ ⟨hI 0 _ _ h0 hb1, hL1, hK1⟩).mono ?_
    · rintro k W hkN ⟨hi, hl, hk⟩
      have hlt : w.heap.size + 1 < W.heap.size := (Array.getElem?_eq_some_iff.1 hl).1
      have hy := run_yield (P := P) (args := #[enc k]) hl (by rw [hrc]; rfl)
      rw [hrc] at hy
      refine ⟨fn, _, assign, body, hy, roundIn_of_wpIn hfn ?_⟩
      clear hy
      refine hassign _ k W _ ?_
      obtain ⟨Wa, hWa⟩ : ∃ Wa, W.alloc (.cells (cs k) t) = Wa := ⟨_, rfl⟩
      rw [hWa]
      have kfa : KeepF w.heap.size W Wa := by rw [← hWa]; exact KeepF.alloc _ _ _
      have hza : Wa.heap.size = W.heap.size + 1 := by rw [← hWa]; simp
      have hva : Wa.heap[W.heap.size]? = some (.cells (cs k) t) := by rw [← hWa]; exact World.alloc_heap_new _ _
      have hia : I k Wa := by rw [← hWa]; exact hI _ _ _ hi ((Below.refl _ _).alloc (by omega) _)
      have hla := (kfa.same _ (by omega) hlt).trans hl
      have hka := (kfa.same _ (Nat.le_refl _) (by omega)).trans hk
      obtain ⟨bz, hbz⟩ : ∃ bz : Obj, bz = .loop { rc .ready none with state := .busy } := ⟨_, rfl⟩
      refine ⟨_, run_beginRound hla (by rw [hrc]), ?_⟩
      rw [← hbz]
      have hlb : (Wa.putObj (w.heap.size + 1) bz).heap[w.heap.size + 1]? = some bz := World.putObj_heap_same (by omega)
      refine wpIn_mono (hbody _ k W.heap.size _ hkN (hI _ _ _ hia (below_putObj _ _ (by omega))) (by omega) (by simp; omega) ((World.putObj_heap_other (by omega)).trans hva) (by simp; omega)) ?_
      have fin : ∀ (j : Option Code) (W3 : World), KeepF w.heap.size (Wa.putObj (w.heap.size + 1) bz) W3 →
          (Instr.endRound (w.heap.size + 1) j).run P W3 = .ok (.bool j.isNone) (W3.putObj (w.heap.size + 1) (.loop (rc (if j.isNone then .ready else .done) j))) ∧
          (W3.putObj (w.heap.size + 1) (.loop (rc (if j.isNone then .ready else .done) j))).heap[w.heap.size + 1]? = some (.loop (rc (if j.isNone then .ready else .done) j)) ∧
          (W3.putObj (w.heap.size + 1) (.loop (rc (if j.isNone then .ready else .done) j))).heap[w.heap.size]? = some (.deferred (some [])) := fun j W3 h3 => by
        have hz3 := h3.size
        simp at hz3
        have hl3 := (h3.same (w.heap.size + 1) (by omega) (by simp; omega)).trans hlb
        rw [hbz] at hl3
        have := run_endRound (P := P) j hl3
        rw [hrc] at this ⊢
        refine ⟨this, World.putObj_heap_same (by omega), (World.putObj_heap_other (by omega)).trans ?_⟩
        exact (h3.same _ (Nat.le_refl _) (by simp; omega)).trans ((World.putObj_heap_other (by omega)).trans hka)
      rintro e a3 W3 hp
      cases e with
      | normal =>
        obtain ⟨h3, hi3⟩ := hp
        obtain ⟨hr, hl4, hk4⟩ := fin none W3 h3
        refine ⟨_, _, hr, .inl ⟨rfl, ⟨hI _ _ _ hi3 (below_putObj _ _ (by omega)), hl4, hk4⟩, ⟨?_, fun i hB hi => ?_⟩⟩⟩
        · have := h3.size; simp at this; simp; omega
        · by_cases e : i = w.heap.size + 1
          · subst e; rw [hl4, hl]; rfl
          · refine (World.putObj_heap_other e).trans ((h3.same i hB (by simp; omega)).trans ((World.putObj_heap_other e).trans (kfa.same i hB hi)))
      | ret =>
        obtain ⟨h3, hi3⟩ := hp
        obtain ⟨hr, hl4, hk4⟩ := fin (some .ret) W3 h3
        exact ⟨_, _, hr, .inr ⟨rfl, hIx _ _ _ hi3 (below_putObj _ _ (by omega)), hl4, hk4⟩⟩
      | exit id => exact hp.elim
      | goto t => exact hp.elim
      | panic ch => exact hp.elim
      | outgrown => exact hp.elim
    · rintro e W2 ⟨⟨v, rfl⟩, (⟨hi, hl, hk⟩ | ⟨k, hkN, hi, hl, hk⟩)⟩
      · exact ⟨none, _, by have := run_endLoop (P := P) hl (by rw [hrc]; simp); rw [hrc] at this; exact this, hdone _ (hI _ _ _ hi (below_putObj _ _ (by omega))) ((World.putObj_heap_other (by omega)).trans hk)⟩
      · exact ⟨some .ret, _, by have := run_endLoop (P := P) hl (by rw [hrc]; simp); rw [hrc] at this; exact this, hstop k _ hkN (hIx _ _ _ hi (below_putObj _ _ (by omega))) ((World.putObj_heap_other (by omega)).trans hk)⟩

end Go.Proofs.YtipfcmfcdfofmaaGreat.O
namespace Go.Proofs.YtipfcmfcdfofmaaGreat.O
open Go.RowKit Go.Joins

theorem bdrewN {B : Nat} {a w : World} (h : Below B a w) (n : Nat) : Below B a (w.drewN n) := h.trans ⟨rfl, rfl, rfl, Nat.le_refl _, fun _ _ => rfl⟩
theorem isLevel_v {l : Int} {v : Bool} (hv : levB l = v) (w : World) :
    Calls Tryz.prog 151 #[.int .i64 l] w fun e w' => e = .returned (.bool v) ∧ w' = w := by subst hv; exact isLevel_any l w

set_option maxHeartbeats 1000000 in
theorem isRight_any (l x y : Int) (w : World) :
    Calls Tryz.prog 155 #[.agg #[.int .i64 l, .int .i64 x, .int .i64 y]] w fun e w' => e = .returned (.bool (cellB l x y)) ∧ Below w.heap.size w w' := by
  cases hv : levB l
  · go_enter Tryz.func155, Tryz.ntmps155
    go_wp2
    go_quiet ((go_at_call 151; refine Calls.quiet_of_same (isLevel_v hv _)))
    go_wp2
    go_ret
    exact ⟨ret_bool (by unfold levB at hv; unfold cellB; have := of_decide_eq_false hv; exact (decide_eq_false (by omega)).symm), bdrewN (below_alloc1 _ _) _⟩
  obtain ⟨h0, h8⟩ := levB_t.mp hv
  obtain ⟨p1, p2⟩ := pw h0 h8
  have e1 : wrap64 (2 ^ l.toNat) = 2 ^ l.toNat := w64 (by omega) (by omega)
  cases h1 : decide (0 ≤ x)
  · go_enter Tryz.func155, Tryz.ntmps155
    go_wp2
    go_quiet ((go_at_call 151; refine Calls.quiet_of_same (isLevel_v hv _)))
    go_wp2
    go_ret
    exact ⟨ret_bool (by unfold cellB; have := of_decide_eq_false h1; exact (decide_eq_false (by omega)).symm), bdrewN (below_alloc1 _ _) _⟩
  have k1 : 0 ≤ x := of_decide_eq_true h1
  cases h2 : decide (x < 2 ^ l.toNat)
  · go_enter Tryz.func155, Tryz.ntmps155
    go_wp2
    go_quiet ((go_at_call 151; refine Calls.quiet_of_same (isLevel_v hv _)))
    go_wp2
    go_ret
    exact ⟨ret_bool (by unfold cellB; have := of_decide_eq_false h2; exact (decide_eq_false (by omega)).symm), bdrewN (below_alloc1 _ _) _⟩
  have k2 : x < 2 ^ l.toNat := of_decide_eq_true h2
  cases h3 : decide (0 ≤ y)
  · go_enter Tryz.func155, Tryz.ntmps155
    go_wp2
    go_quiet ((go_at_call 151; refine Calls.quiet_of_same (isLevel_v hv _)))
    go_wp2
    go_ret
    exact ⟨ret_bool (by unfold cellB; have := of_decide_eq_false h3; exact (decide_eq_false (by omega)).symm), bdrewN (below_alloc1 _ _) _⟩
  have k3 : 0 ≤ y := of_decide_eq_true h3
  go_enter Tryz.func155, Tryz.ntmps155
  go_wp2
  go_quiet ((go_at_call 151; refine Calls.quiet_of_same (isLevel_v hv _)))
  go_wp2
  go_ret
  exact ⟨ret_bool (by unfold cellB; exact decide_eq_decide.mpr (by omega)), bdrewN (below_alloc1 _ _) _⟩

end Go.Proofs.YtipfcmfcdfofmaaGreat.O
namespace Go.Proofs.YtipfcmfcdfofmaaGreat.O
open Go.RowKit Go.Joins

def sd (l : Int) : Int := 256 / 2 ^ l.toNat
def rX (l x y : Int) : Int := if cellB l x y then x * sd l else 0
def rY (l x y : Int) : Int := if cellB l x y then y * sd l else 0
def rS (l x y : Int) : Int := if cellB l x y then sd l else 0
def uL (l x y : Int) : Int := if cellB l x y then (if l = 0 then 0 else l - 1) else 0
def uX (l x y : Int) : Int := if cellB l x y then (if l = 0 then 0 else x / 2) else 0
def uY (l x y : Int) : Int := if cellB l x y then (if l = 0 then 0 else y / 2) else 0
def aL (s t l : Int) : Int := if spB s t && levB l then l else 0
def aX (s t l : Int) : Int := if spB s t && levB l then s / 2 ^ (8 - l).toNat else 0
def aY (s t l : Int) : Int := if spB s t && levB l then t / 2 ^ (8 - l).toNat else 0
theorem sd_bd {l : Int} (h0 : 0 ≤ l) (h8 : l ≤ 8) : 1 ≤ sd l ∧ sd l ≤ 256 := by
  unfold sd; rcases nine h0 h8 with rfl | rfl | rfl | rfl | rfl | rfl | rfl | rfl | rfl <;> decide
theorem sd_mul {l : Int} (h0 : 0 ≤ l) (h8 : l ≤ 8) : 2 ^ l.toNat * sd l = 256 := by
  unfold sd; rcases nine h0 h8 with rfl | rfl | rfl | rfl | rfl | rfl | rfl | rfl | rfl <;> decide
theorem mul_bd {x l : Int} (h0 : 0 ≤ l) (h8 : l ≤ 8) (hx : 0 ≤ x) (hx1 : x < 2 ^ l.toNat) : 0 ≤ x * sd l ∧ x * sd l + sd l ≤ 256 := by
  obtain ⟨h1, h2⟩ := sd_bd h0 h8
  have h3 := sd_mul h0 h8
  refine ⟨Int.mul_nonneg hx (by omega), ?_⟩
  have : (x + 1) * sd l ≤ 2 ^ l.toNat * sd l := Int.mul_le_mul_of_nonneg_right (by omega) (by omega)
  rw [Int.add_mul] at this; omega
theorem cell_lev {l x y : Int} (h : cellB l x y = true) : 0 ≤ l ∧ l ≤ 8 := ⟨(cellB_t.mp h).1, (cellB_t.mp h).2.1⟩

theorem isRight_v {l x y : Int} {v : Bool} (hv : cellB l x y = v) (w : World) :
    Calls Tryz.prog 155 #[.agg #[.int .i64 l, .int .i64 x, .int .i64 y]] w fun e w' => e = .returned (.bool v) ∧ Below w.heap.size w w' := by subst hv; exact isRight_any l x y w
theorem spRight_v {x y : Int} {v : Bool} (hv : spB x y = v) (w : World) :
    Calls Tryz.prog 54 #[.agg #[.int .i64 x, .int .i64 y]] w fun e w' => e = .returned (.bool v) ∧ Below w.heap.size w w' := by subst hv; exact spRight_any x y w
theorem sSpot_v {x y : Int} {v : Bool} (hv : spB x y = v) (w : World) :
    Calls Tryz.prog 68 #[.agg #[.int .i64 x, .int .i64 y]] w fun e w' => e = .returned (.bool v) ∧ Below w.heap.size w w' := by subst hv; exact sSpot_any x y w
theorem l1In_v {x a b : Int} {v : Bool} (hv : inB x a b = v) (w : World) :
    Calls Tryz.prog 69 #[.int .i64 x, .int .i64 a, .int .i64 b] w fun e w' => e = .returned (.bool v) ∧ w' = w := by subst hv; exact l1In_any x a b w

set_option maxHeartbeats 1000000 in
theorem iUp_any (l x y : Int) (w : World) :
    Calls Tryz.prog 153 #[.agg #[.int .i64 l, .int .i64 x, .int .i64 y]] w fun e w' => e = .returned (.agg #[.int .i64 (uL l x y), .int .i64 (uX l x y), .int .i64 (uY l x y)]) ∧ Below w.heap.size w w' := by
  cases h : cellB l x y
  · have ex : uL l x y = 0 := by simp [uL, h]
    have ey : uX l x y = 0 := by simp [uX, h]
    have es : uY l x y = 0 := by simp [uY, h]
    rw [ex, ey, es]
    go_enter Tryz.func153, Tryz.ntmps153
    go_wp2_with (go_at_call 155; refine (isRight_v h _).mono ?_; rintro e w1 ⟨rfl, hb2⟩; (first | replace hb := bstep hb hb2 (Nat.le_refl _) | have hb := hb2); obtain ⟨hc, hf⟩ := bcell hb)
    refine bodyPost_ret (v := .agg #[.int .i64 0, .int .i64 0, .int .i64 0]) (by simp [results, Tryz.results153, go_sem, hc]) rfl ⟨rfl, ?_⟩
    exact sc3 (ba2 hb) (Nat.le_succ _)
  obtain ⟨h0, h8, hx, hx1, hy, hy1⟩ := cellB_t.mp h
  obtain ⟨p1, p2⟩ := pw h0 h8
  by_cases k : l = 0
  · subst k
    have ex : uL 0 x y = 0 := by simp [uL]
    have ey : uX 0 x y = 0 := by simp [uX]
    have es : uY 0 x y = 0 := by simp [uY]
    simp at hx1 hy1
    obtain rfl : x = 0 := by omega
    obtain rfl : y = 0 := by omega
    rw [ex, ey, es]
    go_enter Tryz.func153, Tryz.ntmps153
    go_wp2_with (go_at_call 155; refine (isRight_v h _).mono ?_; rintro e w1 ⟨rfl, hb2⟩; (first | replace hb := bstep hb hb2 (Nat.le_refl _) | have hb := hb2); obtain ⟨hc, hf⟩ := bcell hb)
    refine bodyPost_ret (v := .agg #[.int .i64 0, .int .i64 0, .int .i64 0]) (by simp [results, Tryz.results153, go_sem, hc]) rfl ⟨rfl, ?_⟩
    exact sc3 (ba2 hb) (Nat.le_succ _)
  · have ex : uL l x y = l - 1 := by simp [uL, h, k]
    have ey : uX l x y = x / 2 := by simp [uX, h, k]
    have es : uY l x y = y / 2 := by simp [uY, h, k]
    have hk : (l == 0) = false := by simpa using k
    have f1 : wrap64 (l - 1) = l - 1 := w64 (by omega) (by omega)
    have d1 : x.tdiv 2 = x / 2 := Int.tdiv_eq_ediv_of_nonneg hx
    have d2 : y.tdiv 2 = y / 2 := Int.tdiv_eq_ediv_of_nonneg hy
    have d3 : wrap64 (x / 2) = x / 2 := w64 (by omega) (by omega)
    have d4 : wrap64 (y / 2) = y / 2 := w64 (by omega) (by omega)
    rw [ex, ey, es]
    go_enter Tryz.func153, Tryz.ntmps153
    go_wp2_with (go_at_call 155; refine (isRight_v h _).mono ?_; rintro e w1 ⟨rfl, hb2⟩; (first | replace hb := bstep hb hb2 (Nat.le_refl _) | have hb := hb2); obtain ⟨hc, hf⟩ := bcell hb)
    refine bodyPost_ret (v := .agg #[.int .i64 (l - 1), .int .i64 (x / 2), .int .i64 (y / 2)]) (by simp [results, Tryz.results153, go_sem, hc]) rfl ⟨rfl, ?_⟩
    exact sc3 (ba2 hb) (Nat.le_succ _)

set_option maxHeartbeats 1000000 in
theorem iCellAt_any (s t l : Int) (w : World) :
    Calls Tryz.prog 142 #[.agg #[.int .i64 s, .int .i64 t], .int .i64 l] w fun e w' => e = .returned (.agg #[.int .i64 (aL s t l), .int .i64 (aX s t l), .int .i64 (aY s t l)]) ∧ Below w.heap.size w w' := by
  cases h1 : spB s t
  · have h : (spB s t && levB l) = false := by rw [h1]; rfl
    have ex : aL s t l = 0 := by simp [aL, h]
    have ey : aX s t l = 0 := by simp [aX, h]
    have es : aY s t l = 0 := by simp [aY, h]
    rw [ex, ey, es]
    go_enter Tryz.func142, Tryz.ntmps142
    go_wp2_with (go_at_call 54; refine (spRight_v h1 _).mono ?_; rintro e w1 ⟨rfl, hb2⟩; (first | replace hb := bstep hb hb2 (Nat.le_refl _) | have hb := hb2); obtain ⟨hc, hf⟩ := bcell hb)
    refine bodyPost_ret (v := .agg #[.int .i64 0, .int .i64 0, .int .i64 0]) (by simp [results, Tryz.results142, go_sem, hc]) rfl ⟨rfl, ?_⟩
    exact sc3 (ba2 hb) (Nat.le_succ _)
  cases k : levB l
  · have h : (spB s t && levB l) = false := by rw [h1, k]; rfl
    have k1 : levB l = false := k
    have ex : aL s t l = 0 := by simp [aL, h]
    have ey : aX s t l = 0 := by simp [aX, h]
    have es : aY s t l = 0 := by simp [aY, h]
    rw [ex, ey, es]
    go_enter Tryz.func142, Tryz.ntmps142
    go_wp2_with (first | (go_at_call 54; refine (spRight_v h1 _).mono ?_; rintro e w1 ⟨rfl, hb2⟩; (first | replace hb := bstep hb hb2 (Nat.le_refl _) | have hb := hb2); obtain ⟨hc, hf⟩ := bcell hb) | (go_at_call 151; refine (isLevel_v k1 _).mono ?_; rintro e w3 ⟨rfl, rfl⟩))
    refine bodyPost_ret (v := .agg #[.int .i64 0, .int .i64 0, .int .i64 0]) (by simp [results, Tryz.results142, go_sem, hc]) rfl ⟨rfl, ?_⟩
    exact sc3 (ba2 hb) (Nat.le_succ _)
  · have h : (spB s t && levB l) = true := by rw [h1, k]; rfl
    have k1 : levB l = true := k
    obtain ⟨h0, h8⟩ := levB_t.mp k
    obtain ⟨q1, q2, q3, q4⟩ := spB_t.mp h1
    have ex : aL s t l = l := by simp [aL, h]
    have ey : aX s t l = s / 2 ^ (8 - l).toNat := by simp [aX, h]
    have es : aY s t l = t / 2 ^ (8 - l).toNat := by simp [aY, h]
    have f1 : wrap64 (8 - l) = 8 - l := w64 (by omega) (by omega)
    have g1 : 0 ≤ 8 - l := by omega
    have g2 : 8 - l ≤ 64 := by omega
    rw [ex, ey, es]
    go_enter Tryz.func142, Tryz.ntmps142
    go_wp2_with (first | (go_at_call 54; refine (spRight_v h1 _).mono ?_; rintro e w1 ⟨rfl, hb2⟩; (first | replace hb := bstep hb hb2 (Nat.le_refl _) | have hb := hb2); obtain ⟨hc, hf⟩ := bcell hb) | (go_at_call 151; refine (isLevel_v k1 _).mono ?_; rintro e w3 ⟨rfl, rfl⟩))
    go_region
    all_goals go_wp2
    all_goals (refine bodyPost_ret (v := .agg #[.int .i64 l, .int .i64 (s / 2 ^ (8 - l).toNat), .int .i64 (t / 2 ^ (8 - l).toNat)]) (by simp [results, Tryz.results142, go_sem, hc]) rfl ⟨rfl, ?_⟩)
    all_goals exact sc3 (ba2 hb).drew (Nat.le_succ _)

end Go.Proofs.YtipfcmfcdfofmaaGreat.O
namespace Go.Proofs.YtipfcmfcdfofmaaGreat.O
open Go.RowKit Go.Joins
attribute [local go_sem] Oper.semAt_some

def half (x : Int) : Nat → Int
  | 0 => x
  | k + 1 => half x k / 2
def encU (l x y : Int) (k : Nat) : Value := .agg #[.int .i64 (l - k), .int .i64 (half x k), .int .i64 (half y k)]
def cellsU (l x y : Int) (k : Nat) : Array Value := #[.int .i64 (l - k), .int .i64 (half x k), .int .i64 (half y k)]
theorem up_ok {l x y : Int} (h : cellB l x y = true) (h0 : l ≠ 0) : cellB (l - 1) (x / 2) (y / 2) = true := by
  obtain ⟨a, b, c, d, e, f⟩ := cellB_t.mp h
  have hp : (2 : Int) ^ l.toNat = 2 * 2 ^ (l - 1).toNat := by
    rw [show l.toNat = (l - 1).toNat + 1 by omega, Int.pow_succ]; omega
  exact cellB_t.mpr (by omega)
theorem anc_ok {l x y : Int} (h : cellB l x y = true) : ∀ {k : Nat}, k ≤ l.toNat → cellB (l - k) (half x k) (half y k) = true
  | 0, _ => by simpa [half] using h
  | k + 1, hk => by
    have hl := cell_lev h
    have := up_ok (anc_ok h (k := k) (by omega)) (by omega)
    rw [show l - ((k + 1 : Nat) : Int) = l - k - 1 by omega]
    exact this
def intAt : Option Value → Int
  | some (.int _ n) => n
  | _ => 0
theorem keepF_cell {B g i : Nat} {W W' : World} (h : KeepF B W W') (hB : B ≤ g) (hg : g < W.heap.size) : W'.cell? ⟨g, i, none⟩ = W.cell? ⟨g, i, none⟩ := World.cell?_of_block (h.same g hB hg)
theorem keepF_frozen {B g i : Nat} {W W' : World} (h : KeepF B W W') (hB : B ≤ g) (hg : g < W.heap.size) : W'.frozen? ⟨g, i, none⟩ = W.frozen? ⟨g, i, none⟩ := World.frozen?_of_block (h.same g hB hg)

set_option maxRecDepth 100000 in
set_option maxHeartbeats 2000000 in
theorem up_seq {l x y : Int} (h : cellB l x y = true) (b : Nat) (w : World) (hb : b < w.heap.size)
    (c0 : w.cell? ⟨b, 0, none⟩ = some (.int .i64 l)) (c1 : w.cell? ⟨b, 1, none⟩ = some (.int .i64 x)) (c2 : w.cell? ⟨b, 2, none⟩ = some (.int .i64 y)) :
    UpSeq Tryz.prog 152 #[.pointer (some ⟨b, 0, none⟩)] (encU l x y) (l.toNat + 1) w.heap.size w := by
  intro lp J Jx W hW hB hJ hJx hY h0
  have d0 := (hW.cell (p := ⟨b, 0, none⟩) hb).trans c0
  have d1 := (hW.cell (p := ⟨b, 1, none⟩) hb).trans c1
  have d2 := (hW.cell (p := ⟨b, 2, none⟩) hb).trans c2
  obtain ⟨hl0, hl8⟩ := cell_lev h
  refine callsIn_of_wp Tryz.func152 rfl trivial ?_ rfl
  simp only [Tryz.ntmps152, List.size_toArray, List.length_cons, List.length_nil, Nat.reduceAdd, Nat.reduceSub, Array.replicate_succ, Array.replicate_zero, List.push_toArray, List.append_toArray, List.nil_append, List.cons_append]
  gi_wp2
  gi_loopw [] (fun wr => ∃ k : Nat, k ≤ l.toNat ∧ J k wr ∧ W.heap.size < wr.heap.size ∧ wr.cell? ⟨W.heap.size, 0, none⟩ = some (.int .i64 (l - k)) ∧ wr.cell? ⟨W.heap.size, 1, none⟩ = some (.int .i64 (half x k)) ∧ wr.cell? ⟨W.heap.size, 2, none⟩ = some (.int .i64 (half y k)) ∧ ∀ o, wr.frozen? ⟨W.heap.size, o, none⟩ = false)
    (fun wr => (intAt (wr.cell? ⟨W.heap.size, 0, none⟩)).toNat)
  case atStart =>
    refine ⟨0, by omega, hJ _ _ _ h0 (below_alloc1 _ _), by simp, ?_, ?_, ?_, ?_⟩
    · simp [go_sem]
    · simp [go_sem, half]
    · simp [go_sem, half]
    · intro o; exact World.frozen?_alloc_at _ _ _ _ rfl
  case round =>
    obtain ⟨k, hk, hj, hlt, e0, e1, e2, hf⟩ := hrel
    obtain ⟨fn, tmps, assign, body, hy, hR⟩ := hY k wr (by omega) hj
    dsimp only [encU] at hy
    gi_wp2
    refine hR.mono ?_
    rintro e W3 (⟨rfl, hJ3, hk3⟩ | ⟨rfl, hJx3⟩)
    · have hz3 := hk3.size
      have f0 := (keepF_cell (i := 0) hk3 hB hlt).trans e0
      have f1 := (keepF_cell (i := 1) hk3 hB hlt).trans e1
      have f2 := (keepF_cell (i := 2) hk3 hB hlt).trans e2
      have ff : ∀ o, W3.frozen? ⟨W.heap.size, o, none⟩ = false := fun o => (keepF_frozen hk3 hB hlt).trans (hf o)
      have hok := anc_ok h hk
      by_cases hz : 0 < l - (k : Int)
      · have hlu : uL (l - k) (half x k) (half y k) = l - ((k + 1 : Nat) : Int) := by simp only [uL, hok, if_true]; rw [if_neg (by omega)]; omega
        have hxu : uX (l - k) (half x k) (half y k) = half x (k + 1) := by simp only [uX, hok, if_true]; rw [if_neg (by omega)]; rfl
        have hyu : uY (l - k) (half x k) (half y k) = half y (k + 1) := by simp only [uY, hok, if_true]; rw [if_neg (by omega)]; rfl
        gi_wp2_with (refine ⟨trivial, ?_⟩; gi_at_call 153; refine (callsIn_wide.2 (iUp_any _ _ _ _)).mono ?_; rw [hlu, hxu, hyu]; rintro e w4 ⟨rfl, hb4⟩; have hz4 := hb4.size; have g0 := (hb4.cell (p := ⟨W.heap.size, 0, none⟩) (by show W.heap.size < W3.heap.size; omega)).trans f0; have g1 := (hb4.cell (p := ⟨W.heap.size, 1, none⟩) (by show W.heap.size < W3.heap.size; omega)).trans f1; have g2 := (hb4.cell (p := ⟨W.heap.size, 2, none⟩) (by show W.heap.size < W3.heap.size; omega)).trans f2; have gf : ∀ o, w4.frozen? ⟨W.heap.size, o, none⟩ = false := fun o => (hb4.frozen (p := ⟨W.heap.size, o, none⟩) (by show W.heap.size < W3.heap.size; omega)).trans (ff o))
        go_roundw
        case rel =>
          refine ⟨k + 1, by omega, hJ _ _ _ hJ3 (sc3 (hb4.mono (by omega)) (Nat.le_refl _)), by simp; omega, ?_, ?_, ?_, ?_⟩
          · go_simp
          · go_simp
          · go_simp
          · intro o; go_simp
        case measure =>
          have q : ∀ v, v = some (Value.int .i64 (l - ((k : Int) + 1))) → (intAt v).toNat < (intAt (some (.int .i64 (l - (k : Int))))).toNat := by rintro _ rfl; simp only [intAt]; omega
          rw [e0]
          exact q _ (by go_simp)
      · gi_wp2
        go_end0
        exact ⟨⟨_, rfl⟩, .inl (by rw [show l.toNat = k by omega]; exact hJ3)⟩
    · gi_wp2
      go_end0
      exact ⟨⟨_, rfl⟩, .inr ⟨k, by omega, hJx3⟩⟩

set_option maxHeartbeats 1000000 in
theorem upward_any (l x y : Int) (w : World) :
    Calls Tryz.prog 143 #[.agg #[.int .i64 l, .int .i64 x, .int .i64 y]] w fun e w' => e = .returned (.func (.func 152) #[] #[.pointer (some ⟨w.heap.size, 0, none⟩)]) ∧ w' = w.alloc (.cells #[.int .i64 l, .int .i64 x, .int .i64 y] 190) := by
  refine (callsIn_wide (n := 3)).1 ?_
  refine callsIn_of_wp Tryz.func143 rfl trivial ?_ rfl
  simp only [Tryz.ntmps143, List.size_toArray, List.length_cons, List.length_nil, Nat.reduceAdd, Nat.reduceSub, Array.replicate_succ, Array.replicate_zero, List.push_toArray, List.append_toArray, List.nil_append, List.cons_append]
  gi_wp2
  go_ret
  exact ⟨rfl, rfl⟩

/-- Whether the Cell (m, p, q) is the k-th around (l, x, y), k below N. -/
def isUp (l x y m p q : Int) : Nat → Bool
  | 0 => false
  | k + 1 => isUp l x y m p q k || (l - k == m && half x k == p && half y k == q)
end Go.Proofs.YtipfcmfcdfofmaaGreat.O
namespace Go.Proofs.YtipfcmfcdfofmaaGreat.O
open Go.RowKit Go.Joins
attribute [local go_sem] Oper.semAt_some

set_option maxHeartbeats 1000000 in
theorem every_cc (x1 y1 a1 x2 y2 a2 : Int) (g : Nat) (w : World) (hg : g < w.heap.size)
    (h0 : w.cell? ⟨g, 0, none⟩ = some (.func (Fn.func 155) #[.agg #[.int .i64 x1, .int .i64 y1, .int .i64 a1]] #[])) (h1 : w.cell? ⟨g, 1, none⟩ = some (.func (Fn.func 155) #[.agg #[.int .i64 x2, .int .i64 y2, .int .i64 a2]] #[])) :
    Calls Tryz.prog 43 #[.slice (some ⟨g, 0, none⟩) 2 2] w fun e w' => e = .returned (.bool (cellB x1 y1 a1 && cellB x2 y2 a2)) ∧ Below w.heap.size w w' := by
  cases k1 : cellB x1 y1 a1
  · go_enter Tryz.func43, Tryz.ntmps43
    go_wp2
    refine wp_loop_rounds 3 ?_
    rw [rounds_succ]
    go_wp2_with ((go_at_call 155; refine (isRight_any x1 y1 a1 _).mono ?_; rintro e w1 ⟨rfl, hb2⟩; (first | replace hb := bstep hb hb2 (Nat.le_refl _) | replace hb := bstepA hb hb2 (Nat.le_refl _) | have hb := hb2); (try clear hc hf); obtain ⟨hc, hf⟩ := bcell hb))
    go_ret
    exact ⟨rfl, hb⟩
  cases k2 : cellB x2 y2 a2
  · go_enter Tryz.func43, Tryz.ntmps43
    go_wp2
    refine wp_loop_rounds 3 ?_
    rw [rounds_succ]
    go_wp2_with ((go_at_call 155; refine (isRight_any x1 y1 a1 _).mono ?_; rintro e w1 ⟨rfl, hb2⟩; (first | replace hb := bstep hb hb2 (Nat.le_refl _) | replace hb := bstepA hb hb2 (Nat.le_refl _) | have hb := hb2); (try clear hc hf); obtain ⟨hc, hf⟩ := bcell hb))
    rw [rounds_succ]
    go_wp2_with ((go_at_call 155; refine (isRight_any x2 y2 a2 _).mono ?_; rintro e w1 ⟨rfl, hb2⟩; (first | replace hb := bstep hb hb2 (Nat.le_refl _) | replace hb := bstepA hb hb2 (Nat.le_refl _) | have hb := hb2); (try clear hc hf); obtain ⟨hc, hf⟩ := bcell hb))
    go_ret
    exact ⟨rfl, hb⟩
  · go_enter Tryz.func43, Tryz.ntmps43
    go_wp2
    refine wp_loop_rounds 3 ?_
    rw [rounds_succ]
    go_wp2_with ((go_at_call 155; refine (isRight_any x1 y1 a1 _).mono ?_; rintro e w1 ⟨rfl, hb2⟩; (first | replace hb := bstep hb hb2 (Nat.le_refl _) | replace hb := bstepA hb hb2 (Nat.le_refl _) | have hb := hb2); (try clear hc hf); obtain ⟨hc, hf⟩ := bcell hb))
    rw [rounds_succ]
    go_wp2_with ((go_at_call 155; refine (isRight_any x2 y2 a2 _).mono ?_; rintro e w1 ⟨rfl, hb2⟩; (first | replace hb := bstep hb hb2 (Nat.le_refl _) | replace hb := bstepA hb hb2 (Nat.le_refl _) | have hb := hb2); (try clear hc hf); obtain ⟨hc, hf⟩ := bcell hb))
    rw [rounds_succ]
    go_wp2
    go_ret
    exact ⟨rfl, hb⟩


theorem every_cc_v (x1 y1 a1 x2 y2 a2 : Int) (v : Bool) (g : Nat) (w : World) (hv : (cellB x1 y1 a1 && cellB x2 y2 a2) = v) (hg : g < w.heap.size)
    (h0 : w.cell? ⟨g, 0, none⟩ = some (.func (Fn.func 155) #[.agg #[.int .i64 x1, .int .i64 y1, .int .i64 a1]] #[])) (h1 : w.cell? ⟨g, 1, none⟩ = some (.func (Fn.func 155) #[.agg #[.int .i64 x2, .int .i64 y2, .int .i64 a2]] #[])) :
    Calls Tryz.prog 43 #[.slice (some ⟨g, 0, none⟩) 2 2] w fun e w' => e = .returned (.bool v) ∧ Below w.heap.size w w' := by
  subst hv; exact every_cc x1 y1 a1 x2 y2 a2 g w hg h0 h1

theorem St.stab {B : Nat} {w X Y : World} {l : List (Nat × List Value)} (h : St w X l) (hb : Below B X Y) (hB : w.heap.size ≤ B) (hl : ∀ p ∈ l, p.1 < B) : St w Y l := by
  refine ⟨h.bel.trans (hb.mono hB), ?_⟩
  have hh := h.has
  clear h
  induction l with
  | nil => trivial
  | cons p t ih =>
    obtain ⟨⟨h1, h2, h3⟩, h4⟩ := hh
    have hp := hl p (List.mem_cons_self ..)
    refine ⟨⟨Nat.lt_of_lt_of_le h1 hb.size, fun o => (hb.frozen (p := ⟨p.1, o, none⟩) hp).trans (h2 o), ?_⟩, ih (fun q hq => hl q (List.mem_cons_of_mem _ hq)) h4⟩
    have : ∀ (i : Nat) (vs : List Value), HasAt X p.1 i vs → HasAt Y p.1 i vs := by
      intro i vs
      induction vs generalizing i with
      | nil => intro _; trivial
      | cons v vs ihv => intro hv; exact ⟨(hb.cell (p := ⟨p.1, i, none⟩) hp).trans hv.1, ihv _ hv.2⟩
    exact this _ _ h3
theorem HasAt.far {W : World} {b g i : Nat} {v : Value} (hne : b ≠ g) : ∀ {j : Nat} {vs : List Value}, HasAt W g j vs → HasAt (W.setCell ⟨b, i, none⟩ v) g j vs
  | _, [], _ => trivial
  | j, _ :: _, ⟨h, t⟩ => ⟨(World.cell?_of_block (Below.heap_setCell W ⟨b, i, none⟩ v g (fun e => hne (by have e' : g = b := e; omega)))).trans h, HasAt.far hne t⟩
theorem Has.far {W : World} {b i : Nat} {v : Value} : ∀ {l : List (Nat × List Value)}, (∀ p ∈ l, b ≠ p.1) → Has W l → Has (W.setCell ⟨b, i, none⟩ v) l
  | [], _, _ => trivial
  | p :: _, hl, ⟨⟨h1, h2, h3⟩, t⟩ => ⟨⟨by simpa using h1, fun o => (World.frozen?_setCell ..).trans (h2 o), HasAt.far (hl p (List.mem_cons_self ..)) h3⟩, Has.far (fun q hq => hl q (List.mem_cons_of_mem _ hq)) t⟩
/-- A store into a box of one cell. -/
theorem St.set1 {w W : World} {b : Nat} {u : Value} {l : List (Nat × List Value)} (h : St w W ((b, [u]) :: l)) (v : Value) (hb : w.heap.size ≤ b) (hl : ∀ p ∈ l, b ≠ p.1) : St w (W.setCell ⟨b, 0, none⟩ v) ((b, [v]) :: l) := by
  obtain ⟨h1, ⟨h2, h3, h4, _⟩, h5⟩ := h
  exact ⟨h1.setCell (p := ⟨b, 0, none⟩) hb _, ⟨⟨by simpa using h2, fun o => (World.frozen?_setCell ..).trans (h3 o), World.cell?_setCell_same' _ _ _ (by rw [h4]; rfl), trivial⟩, Has.far hl h5⟩⟩

theorem isUp_mono {l x y m p q : Int} {j k : Nat} (hjk : j ≤ k) (h : isUp l x y m p q j = true) : isUp l x y m p q k = true := by
  induction k with
  | zero => rw [Nat.le_zero.mp hjk] at h; exact h
  | succ k ih =>
    rcases Nat.lt_or_ge j (k + 1) with hj | hj
    · simp only [isUp, ih (by omega), Bool.true_or]
    · rw [show k + 1 = j by omega]; exact h
def insB (l x y m p q : Int) : Bool := (cellB l x y && cellB m p q) && isUp l x y m p q (l.toNat + 1)

end Go.Proofs.YtipfcmfcdfofmaaGreat.O
namespace Go.Proofs.YtipfcmfcdfofmaaGreat.O
open Go.RowKit Go.Joins

theorem keepS {P C : World → Prop} (hS : ∀ w', P w' → C w') {w' : World} (h : P w') : P w' ∧ C w' := ⟨h, hS _ h⟩
def lInB (l x y m p q : Int) : Bool := decide (m ≤ l ∧ x / 2 ^ (l - m).toNat = p ∧ y / 2 ^ (l - m).toNat = q)
theorem half_eq (x : Int) : ∀ k : Nat, half x k = x / 2 ^ k
  | 0 => by simp [half]
  | k + 1 => by
    rw [half, half_eq x k, Int.pow_succ]
    exact Int.ediv_ediv_of_nonneg (Int.pow_nonneg (by decide))
theorem isUp_iff {l x y m p q : Int} : ∀ {n : Nat}, isUp l x y m p q n = true ↔ ∃ k : Nat, k < n ∧ l - k = m ∧ half x k = p ∧ half y k = q
  | 0 => by simp [isUp]
  | n + 1 => by
    rw [isUp, Bool.or_eq_true, isUp_iff]
    simp only [Bool.and_eq_true, beq_iff_eq]
    constructor
    · rintro (⟨k, h1, h2⟩ | ⟨⟨h1, h2⟩, h3⟩)
      · exact ⟨k, by omega, h2⟩
      · exact ⟨n, by omega, h1, h2, h3⟩
    · rintro ⟨k, h1, h2, h3, h4⟩
      by_cases e : k = n
      · subst e; exact .inr ⟨⟨h2, h3⟩, h4⟩
      · exact .inl ⟨k, by omega, h2, h3, h4⟩
theorem insB_eq (l x y m p q : Int) : insB l x y m p q = ((cellB l x y && cellB m p q) && lInB l x y m p q) := by
  cases hv : (cellB l x y && cellB m p q)
  · simp [insB, hv]
  · obtain ⟨g1, g2⟩ := (Bool.and_eq_true _ _).mp hv
    have h1 := cell_lev g1
    have h2 := cell_lev g2
    rw [insB, hv, Bool.true_and, Bool.true_and, Bool.eq_iff_iff, isUp_iff, lInB, decide_eq_true_iff]
    constructor
    · rintro ⟨k, a, b, c, d⟩
      have : (l - m).toNat = k := by omega
      rw [this, ← half_eq, ← half_eq]
      exact ⟨by omega, c, d⟩
    · rintro ⟨a, b, c⟩
      exact ⟨(l - m).toNat, by omega, by omega, by rw [half_eq]; exact b, by rw [half_eq]; exact c⟩

end Go.Proofs.YtipfcmfcdfofmaaGreat.O
namespace Go.Proofs.YtipfcmfcdfofmaaGreat.O
open Go.RowKit Go.Joins

theorem i64_and1 (n : Int) : bits .and .i64 n 1 = n % 2 := by
  have h1 : (BitVec.ofInt 64 1).toNat = 2 ^ 1 - 1 := by decide
  have key : (BitVec.ofInt 64 n &&& BitVec.ofInt 64 1).toNat = (n % ((2 ^ 64 : Nat) : Int)).toNat % 2 ^ 1 := by
    rw [BitVec.toNat_and, BitVec.toNat_ofInt, h1, Nat.and_two_pow_sub_one_eq_mod]
  show IntKind.i64.wrap ((BitVec.ofInt 64 n &&& BitVec.ofInt 64 1).toNat : Nat) = n % 2
  rw [key, IntKind.wrap_i64]
  omega
theorem i64_or_nat (a b : Nat) (ha : a < 2 ^ 40) (hb : b < 2 ^ 40) : bits .or .i64 (a : Int) (b : Int) = ((a ||| b : Nat) : Int) := by
  have e1 : ((a : Int) % ((2 ^ 64 : Nat) : Int)).toNat = a := by omega
  have e2 : ((b : Int) % ((2 ^ 64 : Nat) : Int)).toNat = b := by omega
  have key : (BitVec.ofInt 64 (a : Int) ||| BitVec.ofInt 64 (b : Int)).toNat = a ||| b := by
    rw [BitVec.toNat_or, BitVec.toNat_ofInt, BitVec.toNat_ofInt, e1, e2]
  have hl : a ||| b < 2 ^ 40 := Nat.or_lt_two_pow ha hb
  show IntKind.i64.wrap ((BitVec.ofInt 64 (a : Int) ||| BitVec.ofInt 64 (b : Int)).toNat : Nat) = _
  rw [key, IntKind.wrap_i64]
  omega
/-- A number below 2 ^ m, and a bit at m: together they are the sum. -/
theorem or_bit {n b : Int} {m : Nat} (hm : m ≤ 20) (h0 : 0 ≤ n) (h1 : n < 2 ^ m) (hb0 : 0 ≤ b) (hb1 : b ≤ 1) : bits .or .i64 n (b * 2 ^ m) = n + b * 2 ^ m := by
  obtain ⟨a, rfl⟩ := Int.eq_ofNat_of_zero_le h0
  obtain ⟨c, rfl⟩ := Int.eq_ofNat_of_zero_le hb0
  have hp : (2 : Int) ^ m = ((2 ^ m : Nat) : Int) := by simp
  have hle : 2 ^ m ≤ 2 ^ 20 := Nat.pow_le_pow_right (by decide) hm
  rw [hp] at h1 ⊢
  have ha : a < 2 ^ m := by omega
  have hc : c * 2 ^ m ≤ 1 * 2 ^ m := Nat.mul_le_mul_right _ (by omega)
  have e : ((c : Int) * ((2 ^ m : Nat) : Int)) = ((c * 2 ^ m : Nat) : Int) := by simp
  rw [e, i64_or_nat _ _ (by omega) (by omega)]
  have := Nat.two_pow_add_eq_or_of_lt ha c
  rw [Nat.or_comm, Nat.mul_comm c, ← this]
  omega

def zz (s t : Int) : Nat → Int
  | 0 => 0
  | k + 1 => zz s t k + 4 ^ k * (2 * (half t k % 2) + half s k % 2)
theorem pow4 (k : Nat) : (1 : Int) ≤ 4 ^ k := by
  induction k with
  | zero => decide
  | succ k ih => rw [Int.pow_succ]; omega
theorem zz_bd (s t : Int) : ∀ k : Nat, 0 ≤ zz s t k ∧ zz s t k < 4 ^ k
  | 0 => by simp [zz]
  | k + 1 => by
    obtain ⟨h1, h2⟩ := zz_bd s t k
    have hp := pow4 k
    have hv : 0 ≤ 2 * (half t k % 2) + half s k % 2 ∧ 2 * (half t k % 2) + half s k % 2 ≤ 3 := by omega
    rw [zz, Int.pow_succ]
    generalize 2 * (half t k % 2) + half s k % 2 = v at hv
    have h3 : 0 ≤ 4 ^ k * v := Int.mul_nonneg (by omega) hv.1
    have h4 : 4 ^ k * v ≤ 4 ^ k * 3 := Int.mul_le_mul_of_nonneg_left hv.2 (by omega)
    omega
theorem pow4_le {k : Nat} (h : k ≤ 9) : (4 : Int) ^ k ≤ 262144 := by
  have : k = 0 ∨ k = 1 ∨ k = 2 ∨ k = 3 ∨ k = 4 ∨ k = 5 ∨ k = 6 ∨ k = 7 ∨ k = 8 ∨ k = 9 := by omega
  rcases this with rfl | rfl | rfl | rfl | rfl | rfl | rfl | rfl | rfl | rfl <;> decide
theorem half8 {s : Int} (h0 : 0 ≤ s) (h1 : s ≤ 255) : half s 8 = 0 := by simp only [half]; omega
theorem zz9 {s t : Int} (h : spB s t = true) : zz s t 9 = zz s t 8 := by
  obtain ⟨a, b, c, d⟩ := spB_t.mp h
  rw [zz, half8 a b, half8 c d]; simp
theorem half_nn {s : Int} (h : 0 ≤ s) : ∀ k, 0 ≤ half s k
  | 0 => h
  | k + 1 => by have := half_nn h k; rw [half]; omega
theorem pow24 (k : Nat) : (2 : Int) ^ (2 * k) = 4 ^ k := by
  rw [Int.pow_mul]; rfl
/-- The spec's step. -/
theorem or_step {s t : Int} {k : Nat} (hk : k < 8) : bits .or .i64 (bits .or .i64 (zz s t k) (half s k % 2 * 2 ^ (2 * k))) (half t k % 2 * 2 ^ (2 * k + 1)) = zz s t (k + 1) := by
  obtain ⟨h1, h2⟩ := zz_bd s t k
  have e4 := pow24 k
  have hb : 0 ≤ half s k % 2 ∧ half s k % 2 ≤ 1 := by omega
  have hc : 0 ≤ half t k % 2 ∧ half t k % 2 ≤ 1 := by omega
  rw [zz]
  generalize half s k % 2 = b at hb
  generalize half t k % 2 = c at hc
  rw [or_bit (by omega) h1 (by rw [e4]; exact h2) hb.1 hb.2]
  have h3 : 0 ≤ b * 2 ^ (2 * k) := Int.mul_nonneg hb.1 (by rw [e4]; have := pow4 k; omega)
  have h4 : b * 2 ^ (2 * k) ≤ 1 * 2 ^ (2 * k) := Int.mul_le_mul_of_nonneg_right hb.2 (by rw [e4]; have := pow4 k; omega)
  rw [or_bit (by omega) (by omega) (by rw [Int.pow_succ, e4]; rw [e4] at h4; omega) hc.1 hc.2, Int.pow_succ, e4]
  rw [Int.mul_add, Int.mul_comm b, Int.mul_comm c, ← Int.mul_assoc]
  have e5 : (4 : Int) ^ k * 2 * c = 4 ^ k * 2 * c := rfl
  omega
end Go.Proofs.YtipfcmfcdfofmaaGreat.O
namespace Go.Proofs.YtipfcmfcdfofmaaGreat.O
open Go.RowKit Go.Joins

theorem bit_w {b : Int} {m : Nat} (hm : m ≤ 20) (h0 : 0 ≤ b) (h1 : b ≤ 1) : wrap64 (b * 2 ^ m) = b * 2 ^ m := by
  have hp : (2 : Int) ^ m = ((2 ^ m : Nat) : Int) := by simp
  have hle : 2 ^ m ≤ 2 ^ 20 := Nat.pow_le_pow_right (by decide) hm
  rw [hp]
  generalize 2 ^ m = P at hle
  have h3 : 0 ≤ b * (P : Int) := Int.mul_nonneg h0 (by omega)
  have h4 : b * (P : Int) ≤ 1 * (P : Int) := Int.mul_le_mul_of_nonneg_right h1 (by omega)
  exact w64 (by omega) (by omega)
def plI (x y : Int) : Int := 2 * (y % 2) + x % 2
set_option maxHeartbeats 400000 in
theorem place_any (l x y : Int) (w : World) :
    Calls Tryz.prog 144 #[.agg #[.int .i64 l, .int .i64 x, .int .i64 y]] w fun e w' => e = .returned (.int .i64 (plI x y)) ∧ Below w.heap.size w w' := by
  have h1 := i64_and1 x
  have h2 := i64_and1 y
  have h3 : wrap64 (2 * (y % 2)) = 2 * (y % 2) := w64 (by omega) (by omega)
  have h4 : wrap64 (2 * (y % 2) + x % 2) = 2 * (y % 2) + x % 2 := w64 (by omega) (by omega)
  go_enter Tryz.func144, Tryz.ntmps144
  go_wp2
  go_ret
  exact ⟨ret_i64 rfl, below_alloc1 _ _⟩

def ordI (s t : Int) : Int := if spB s t then zz s t 8 else -1

theorem St.add {w W : World} {v : Nat} {vs : List Value} {t : TypeId} {l : List (Nat × List Value)} (h : St w W l) (hv : W.heap[v]? = some (.cells vs.toArray t)) : St w W ((v, vs) :: l) :=
  ⟨h.bel, ⟨(Array.getElem?_eq_some_iff.1 hv).1, fun o => by simp [World.frozen?, hv], hasAt_of _ _ (fun j u hj => by simp [World.cell?, hv]; simpa using hj)⟩, h.has⟩

theorem iCellAt8 {s t : Int} (h : spB s t = true) (w : World) :
    Calls Tryz.prog 142 #[.agg #[.int .i64 s, .int .i64 t], .int .i64 8] w fun e w' => e = .returned (.agg #[.int .i64 8, .int .i64 s, .int .i64 t]) ∧ Below w.heap.size w w' := by
  have hl : levB 8 = true := by decide
  have := iCellAt_any s t 8 w
  simp only [aL, aX, aY, h, hl, Bool.and_self, if_true] at this
  simpa using this

end Go.Proofs.YtipfcmfcdfofmaaGreat.O
