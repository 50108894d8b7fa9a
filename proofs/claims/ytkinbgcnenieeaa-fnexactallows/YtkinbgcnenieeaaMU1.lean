/-
  A range over a function whose iterator keeps a cell block of its own that it turns between two rounds: the rule for the one who ranges.
-/
import Derived.Test.YtkinbgcnenieeaaMS0
import Derived.RangeFuncNested
import Derived.RangeFuncBound
import Derived.RangeFuncCalls
import Derived.RangeFuncLeaves
import Derived.Shelf.Abstract
import Derived.Shelf.RegionOpen
import Derived.OwnWalkIn
import Derived.TacticsInMore
import Derived.LoopNIn
import Derived.LoopIn
namespace Go.Proofs.Ytkinbgcnenieeaa.M
open Go.RowKit Go.Joins

/-- What lay from block B on lies as it lay. -/
structure KeepF (B : Nat) (W W' : World) : Prop where
  size : W.heap.size ≤ W'.heap.size
  same : ∀ k, B ≤ k → k < W.heap.size → W'.heap[k]? = W.heap[k]?
theorem KeepF.refl (B : Nat) (W : World) : KeepF B W W := ⟨Nat.le_refl _, fun _ _ _ => rfl⟩
theorem KeepF.trans {B : Nat} {X Y Z : World} (h : KeepF B X Y) (k : KeepF B Y Z) : KeepF B X Z :=
  ⟨Nat.le_trans h.size k.size, fun i hB hi => (k.same i hB (Nat.lt_of_lt_of_le hi h.size)).trans (h.same i hB hi)⟩
theorem KeepF.alloc (B : Nat) (W : World) (o : Obj) : KeepF B W (W.alloc o) := ⟨by simp, fun k _ hk => Below.heap_alloc W o k hk⟩
theorem KeepF.setCell {B b : Nat} (W : World) (i : Nat) (v : Value) (hb : b < B) : KeepF B W (W.setCell ⟨b, i, none⟩ v) :=
  ⟨by simp, fun k hB _ => Below.heap_setCell W ⟨b, i, none⟩ v k (fun e => by have e' : k = b := e; omega)⟩
theorem KeepF.of_below {B : Nat} {W W' : World} (h : Below W.heap.size W W') : KeepF B W W' := ⟨h.size, fun k _ hk => h.block k hk⟩

/-- J asks nothing of what lies from block B on. -/
def Stab (B : Nat) (J : Nat → World → Prop) : Prop := ∀ k X Y, J k X → Below B X Y → J k Y
theorem below_putObj {B l : Nat} (W : World) (o : Obj) (hl : B ≤ l) : Below B W (W.putObj l o) := ⟨rfl, rfl, rfl, by simp, fun _ hk => World.putObj_heap_other (by omega)⟩

/-- The value of an iterator that hands out enc 0, enc 1, .. enc (N - 1), or is told to stop. -/
def UpSeq (P : Program) (gf : Nat) (lb : Array Value) (enc : Nat → Value) (N B : Nat) (w : World) : Prop :=
  ∀ (l : Nat) (J Jx : Nat → World → Prop) (W : World), Below w.heap.size w W → B ≤ W.heap.size → Stab W.heap.size J → Stab W.heap.size Jx →
    (∀ k W1, k < N → J k W1 → YieldAt Fence.wide 1 P l #[enc k] W1 fun e W' =>
      (e = .returned (.bool true) ∧ J (k + 1) W' ∧ KeepF B W1 W') ∨ (e = .returned (.bool false) ∧ Jx k W')) →
    J 0 W →
    CallsIn Fence.wide 2 P gf (#[.func (.yield l) #[] #[]] ++ lb) W fun e W' => (∃ v, e = .returned v) ∧ (J N W' ∨ ∃ k, k < N ∧ Jx k W')

/-- How a round may be left. -/
def postU (B : Nat) (I Ix : Nat → World → Prop) (k : Nat) (W : World) : Exit → Act → World → Prop
  | .normal, _, W' => KeepF B W W' ∧ I (k + 1) W'
  | .ret, _, W' => KeepF B W W' ∧ Ix k W'
  | _, _, _ => False

theorem range_up {P : Program} {g : Operand} {p : Tmp} {assign body : Code} {Q : Exit → Act → World → Prop} {a : Act} {w : World} {gf : Nat} {lb : Array Value}
    (hg : a.eval g = .func (.func gf) #[] lb) (eg : ∀ args w, (callFunc gf args).run P w = .ok (.enter gf args) w)
    {enc : Nat → Value} {cs : Nat → Array Value} {t : TypeId} {N : Nat} (hseq : UpSeq P gf lb enc N w.heap.size w)
    (I Ix : Nat → World → Prop) (hI : Stab w.heap.size I) (hIx : Stab w.heap.size Ix) (h0 : I 0 w) (a1 : Nat → Nat → Act)
    (hassign : ∀ (l k : Nat) (W : World) (K : Act → World → Prop), K (a1 k W.heap.size) (W.alloc (.cells (cs k) t)) →
      assign.wpIn (Fence.wide.inRound l) 1 P (Exit.then K (fun _ _ _ => False)) { tmps := ((#[p] : Array Tmp).zip #[enc k]).foldl (fun t (p, v) => t.setIfInBounds p v) a.tmps, defers := [] } W)
    (hbody : ∀ (l k v : Nat) (W : World), k < N → I k W → w.heap.size ≤ v → v < W.heap.size → W.heap[v]? = some (.cells (cs k) t) → w.heap.size ≤ W.heap.size →
      body.wpIn (Fence.wide.inRound l) 1 P (postU w.heap.size I Ix k W) (a1 k v) W)
    (hdone : ∀ (W : World), I N W → W.heap[w.heap.size]? = some (.deferred (some [])) → Q .normal { a with defers := { target := .collected w.heap.size, args := #[] } :: a.defers } W)
    (hstop : ∀ (k : Nat) (W : World), k < N → Ix k W → W.heap[w.heap.size]? = some (.deferred (some [])) → Code.ret.wpIn Fence.wide 3 P Q { a with defers := { target := .collected w.heap.size, args := #[] } :: a.defers } W) :
    (Code.rangeFunc g #[p] assign body).wpIn Fence.wide 3 P Q a w := by
  refine wpIn_rangeFunc fun fn hfn => ?_
  obtain ⟨rc, hrc⟩ : ∃ rc : LoopState → Option Code → Loop, rc = fun st pe => { state := st, pending := pe, fn, tmps := a.tmps, params := #[p], assign, body, defers := w.heap.size } := ⟨_, rfl⟩
  obtain ⟨W1, hW1⟩ : ∃ W1, (w.alloc (.deferred (some []))).alloc (.loop (rc .ready none)) = W1 := ⟨_, rfl⟩
  have hz : W1.heap.size = w.heap.size + 1 + 1 := by rw [← hW1]; simp
  have hL1 : W1.heap[w.heap.size + 1]? = some (.loop (rc .ready none)) := by
    rw [← hW1]; have := World.alloc_heap_new (w.alloc (.deferred (some []))) (.loop (rc .ready none)); rwa [World.size_alloc] at this
  have hK1 : W1.heap[w.heap.size]? = some (.deferred (some [])) := by
    rw [← hW1]; exact (Below.heap_alloc _ _ _ (by simp)).trans (World.alloc_heap_new w _)
  have hb1 : Below w.heap.size w W1 := by rw [← hW1]; exact below_alloc2 _ _ _
  refine ⟨w.heap.size + 1, [{ target := .collected w.heap.size, args := #[] }], W1, { target := .fn (.func gf) lb, args := #[.func (.yield (w.heap.size + 1)) #[] #[]] }, W1, gf,
    #[.func (.yield (w.heap.size + 1)) #[] #[]] ++ lb, W1, ?_, ?_, fun _ _ => trivial, ?_, fun _ => by decide, ?_⟩
  · rw [← hW1, hrc]; exact run_enterLoop_outer _ _ _ _ _
  · simp only [resolve, hg]
    simp [go_sem]
  · simp [invoke, go_sem, eg]
  · refine (hseq (w.heap.size + 1)
      (fun k W => I k W ∧ W.heap[w.heap.size + 1]? = some (.loop (rc .ready none)) ∧ W.heap[w.heap.size]? = some (.deferred (some [])))
      (fun k W => Ix k W ∧ W.heap[w.heap.size + 1]? = some (.loop (rc .done (some .ret))) ∧ W.heap[w.heap.size]? = some (.deferred (some [])))
      W1 hb1 (by omega)
      (fun k X Y hs hb => ⟨hI k X Y hs.1 (hb.mono (by omega)), (hb.block _ (by omega)).trans hs.2.1, (hb.block _ (by omega)).trans hs.2.2⟩)
      (fun k X Y hs hb => ⟨hIx k X Y hs.1 (hb.mono (by omega)), (hb.block _ (by omega)).trans hs.2.1, (hb.block _ (by omega)).trans hs.2.2⟩)
      ?_ ⟨hI 0 _ _ h0 hb1, hL1, hK1⟩).mono ?_
    · rintro k W hkN ⟨hi, hl, hk⟩
      have hlt : w.heap.size + 1 < W.heap.size := (Array.getElem?_eq_some_iff.1 hl).1
      have hy := run_yield (P := P) (args := #[enc k]) hl (by rw [hrc]; rfl)
      rw [hrc] at hy
      refine ⟨fn, _, assign, body, hy, roundIn_of_wpIn hfn ?_⟩
      clear hy
      refine hassign _ k W _ ?_
      obtain ⟨Wa, hWa⟩ : ∃ Wa, W.alloc (.cells (cs k) t) = Wa := ⟨_, rfl⟩
      rw [hWa]
      have kfa : KeepF w.heap.size W Wa := by rw [← hWa]; exact KeepF.alloc _ _ _
      have hza : Wa.heap.size = W.heap.size + 1 := by rw [← hWa]; simp
      have hva : Wa.heap[W.heap.size]? = some (.cells (cs k) t) := by rw [← hWa]; exact World.alloc_heap_new _ _
      have hia : I k Wa := by rw [← hWa]; exact hI _ _ _ hi ((Below.refl _ _).alloc (by omega) _)
      have hla := (kfa.same _ (by omega) hlt).trans hl
      have hka := (kfa.same _ (Nat.le_refl _) (by omega)).trans hk
      obtain ⟨bz, hbz⟩ : ∃ bz : Obj, bz = .loop { rc .ready none with state := .busy } := ⟨_, rfl⟩
      refine ⟨_, run_beginRound hla (by rw [hrc]), ?_⟩
      rw [← hbz]
      have hlb : (Wa.putObj (w.heap.size + 1) bz).heap[w.heap.size + 1]? = some bz := World.putObj_heap_same (by omega)
      refine wpIn_mono (hbody _ k W.heap.size _ hkN (hI _ _ _ hia (below_putObj _ _ (by omega))) (by omega) (by simp; omega) ((World.putObj_heap_other (by omega)).trans hva) (by simp; omega)) ?_
      have fin : ∀ (j : Option Code) (W3 : World), KeepF w.heap.size (Wa.putObj (w.heap.size + 1) bz) W3 →
          (Instr.endRound (w.heap.size + 1) j).run P W3 = .ok (.bool j.isNone) (W3.putObj (w.heap.size + 1) (.loop (rc (if j.isNone then .ready else .done) j))) ∧
          (W3.putObj (w.heap.size + 1) (.loop (rc (if j.isNone then .ready else .done) j))).heap[w.heap.size + 1]? = some (.loop (rc (if j.isNone then .ready else .done) j)) ∧
          (W3.putObj (w.heap.size + 1) (.loop (rc (if j.isNone then .ready else .done) j))).heap[w.heap.size]? = some (.deferred (some [])) := fun j W3 h3 => by
        have hz3 := h3.size
        simp at hz3
        have hl3 := (h3.same (w.heap.size + 1) (by omega) (by simp; omega)).trans hlb
        rw [hbz] at hl3
        have := run_endRound (P := P) j hl3
        rw [hrc] at this ⊢
        refine ⟨this, World.putObj_heap_same (by omega), (World.putObj_heap_other (by omega)).trans ?_⟩
        exact (h3.same _ (Nat.le_refl _) (by simp; omega)).trans ((World.putObj_heap_other (by omega)).trans hka)
      rintro e a3 W3 hp
      cases e with
      | normal =>
        obtain ⟨h3, hi3⟩ := hp
        obtain ⟨hr, hl4, hk4⟩ := fin none W3 h3
        refine ⟨_, _, hr, .inl ⟨rfl, ⟨hI _ _ _ hi3 (below_putObj _ _ (by omega)), hl4, hk4⟩, ⟨?_, fun i hB hi => ?_⟩⟩⟩
        · have := h3.size; simp at this; simp; omega
        · by_cases e : i = w.heap.size + 1
          · subst e; rw [hl4, hl]; rfl
          · refine (World.putObj_heap_other e).trans ((h3.same i hB (by simp; omega)).trans ((World.putObj_heap_other e).trans (kfa.same i hB hi)))
      | ret =>
        obtain ⟨h3, hi3⟩ := hp
        obtain ⟨hr, hl4, hk4⟩ := fin (some .ret) W3 h3
        exact ⟨_, _, hr, .inr ⟨rfl, hIx _ _ _ hi3 (below_putObj _ _ (by omega)), hl4, hk4⟩⟩
      | exit id => exact hp.elim
      | goto t => exact hp.elim
      | panic ch => exact hp.elim
      | outgrown => exact hp.elim
    · rintro e W2 ⟨⟨v, rfl⟩, (⟨hi, hl, hk⟩ | ⟨k, hkN, hi, hl, hk⟩)⟩
      · exact ⟨none, _, by have := run_endLoop (P := P) hl (by rw [hrc]; simp); rw [hrc] at this; exact this, hdone _ (hI _ _ _ hi (below_putObj _ _ (by omega))) ((World.putObj_heap_other (by omega)).trans hk)⟩
      · exact ⟨some .ret, _, by have := run_endLoop (P := P) hl (by rw [hrc]; simp); rw [hrc] at this; exact this, hstop k _ hkN (hIx _ _ _ hi (below_putObj _ _ (by omega))) ((World.putObj_heap_other (by omega)).trans hk)⟩

end Go.Proofs.Ytkinbgcnenieeaa.M
