/-
  A range over a function whose iterator changes nothing, by one who appends to lists meanwhile; appends inside a round.
-/
import Derived.Test.YtipfcmfcdfofmaaGreatSB
import Derived.Test.YtipfcmfcdfofmaaGreatOZ2
import Derived.RangeFuncNested
import Derived.RangeFuncBound
import Derived.RangeFuncCalls
import Derived.RangeFuncLeaves
import Derived.Shelf.Abstract
import Derived.Shelf.RegionOpen
import Derived.OwnWalkIn
import Derived.TacticsInMore
import Derived.LoopNIn
import Derived.LoopIn
namespace Go.Proofs.YtipfcmfcdfofmaaGreat
open Go.RowKit Go.Joins

/-- All that lay lies as it lay, but for block l. -/
structure Gr (l : Nat) (X Y : World) : Prop where
  os : Y.os = X.os
  tape : Y.tape = X.tape
  output : Y.output = X.output
  size : X.heap.size ≤ Y.heap.size
  block : ∀ k, k < X.heap.size → k ≠ l → Y.heap[k]? = X.heap[k]?
theorem Gr.of {l : Nat} {X Y : World} (h : Below X.heap.size X Y) : Gr l X Y := ⟨h.os, h.tape, h.output, h.size, fun k hk _ => h.block k hk⟩
theorem Gr.put (l : Nat) (W : World) (o : Obj) : Gr l W (W.putObj l o) := ⟨rfl, rfl, rfl, by simp, fun _ _ hk => World.putObj_heap_other hk⟩
theorem Sg.gr {w X Y : World} {rs : List Rw} {l : Nat} (h : Sg w X rs) (hg : Gr l X Y) (hl : w.heap.size ≤ l) (hr : ∀ r ∈ rs, r.v.ownBlock ≠ some l) : Sg w Y rs := by
  refine ⟨⟨hg.os.trans h.bel.os, hg.tape.trans h.bel.tape, hg.output.trans h.bel.output, Nat.le_trans h.bel.size hg.size, fun k hk => (hg.block k (Nat.lt_of_lt_of_le hk h.bel.size) (by omega)).trans (h.bel.block k hk)⟩, fun r hm => ?_, h.dis⟩
  refine World.ownsRow.kept (h.own r hm) (row := some l) ⟨hg.os, hg.tape, hg.output, hg.size, fun k hk hne => hg.block k hk (fun e => hne (by rw [e]))⟩ (.inr (hr r hm))

/-- The value of an iterator that hands out enc 0, enc 1, .. enc (N - 1) while R stands, and changes nothing. -/
def SeqG (P : Program) (gf : Nat) (lb : Array Value) (enc : Nat → Value) (N : Nat) (R : World → Prop) : Prop :=
  ∀ (l : Nat) (J : Nat → World → Prop) (W : World), (∀ k X Y, J k X → Below X.heap.size X Y → J k Y) → (∀ k X, J k X → R X) →
    (∀ k W1, k < N → J k W1 → YieldAt Fence.wide 1 P l #[enc k] W1 fun e W' => e = .returned (.bool true) ∧ J (k + 1) W') →
    J 0 W →
    CallsIn Fence.wide 2 P gf (#[.func (.yield l) #[] #[]] ++ lb) W fun e W' => (∃ v, e = .returned v) ∧ J N W'

/-- How a round is left: off its end alone. -/
def postG (B : Nat) (I : Nat → World → Prop) (k : Nat) (W : World) : Exit → Act → World → Prop
  | .normal, _, W' => I (k + 1) W' ∧ W'.heap[B]? = W.heap[B]? ∧ W'.heap[B + 1]? = W.heap[B + 1]?
  | _, _, _ => False

theorem range_grow {P : Program} {g : Operand} {p : Tmp} {assign body : Code} {Q : Exit → Act → World → Prop} {a : Act} {w : World} {gf : Nat} {lb : Array Value}
    (hg : a.eval g = .func (.func gf) #[] lb) (eg : ∀ args w, (callFunc gf args).run P w = .ok (.enter gf args) w)
    {enc : Nat → Value} {N : Nat} {R : World → Prop} (hseq : SeqG P gf lb enc N R)
    (I : Nat → World → Prop) (hI : ∀ k X Y, I k X → Gr (w.heap.size + 1) X Y → I k Y) (hR : ∀ k X, I k X → R X) (h0 : I 0 w) (a1 : Nat → Act)
    (hassign : ∀ (l k : Nat) (W : World) (K : Act → World → Prop), K (a1 k) W →
      assign.wpIn (Fence.wide.inRound l) 1 P (Exit.then K (fun _ _ _ => False)) { tmps := ((#[p] : Array Tmp).zip #[enc k]).foldl (fun t (p, v) => t.setIfInBounds p v) a.tmps, defers := [] } W)
    (hbody : ∀ (l k : Nat) (W : World), k < N → I k W → w.heap.size + 1 < W.heap.size →
      body.wpIn (Fence.wide.inRound l) 1 P (postG w.heap.size I k W) (a1 k) W)
    (hdone : ∀ (W : World), I N W → W.heap[w.heap.size]? = some (.deferred (some [])) → Q .normal { a with defers := { target := .collected w.heap.size, args := #[] } :: a.defers } W) :
    (Code.rangeFunc g #[p] assign body).wpIn Fence.wide 3 P Q a w := by
  refine wpIn_rangeFunc fun fn hfn => ?_
  obtain ⟨rc, hrc⟩ : ∃ rc : LoopState → Option Code → Loop, rc = fun st pe => { state := st, pending := pe, fn, tmps := a.tmps, params := #[p], assign, body, defers := w.heap.size } := ⟨_, rfl⟩
  obtain ⟨W1, hW1⟩ : ∃ W1, (w.alloc (.deferred (some []))).alloc (.loop (rc .ready none)) = W1 := ⟨_, rfl⟩
  have hz : W1.heap.size = w.heap.size + 1 + 1 := by rw [← hW1]; simp
  have hL1 : W1.heap[w.heap.size + 1]? = some (.loop (rc .ready none)) := by
    rw [← hW1]; have := World.alloc_heap_new (w.alloc (.deferred (some []))) (.loop (rc .ready none)); rwa [World.size_alloc] at this
  have hK1 : W1.heap[w.heap.size]? = some (.deferred (some [])) := by
    rw [← hW1]; exact (Below.heap_alloc _ _ _ (by simp)).trans (World.alloc_heap_new w _)
  have hb1 : Below w.heap.size w W1 := by rw [← hW1]; exact below_alloc2 _ _ _
  refine ⟨w.heap.size + 1, [{ target := .collected w.heap.size, args := #[] }], W1, { target := .fn (.func gf) lb, args := #[.func (.yield (w.heap.size + 1)) #[] #[]] }, W1, gf,
    #[.func (.yield (w.heap.size + 1)) #[] #[]] ++ lb, W1, ?_, ?_, fun _ _ => trivial, ?_, fun _ => by decide, ?_⟩
  · rw [← hW1, hrc]; exact run_enterLoop_outer _ _ _ _ _
  · simp only [resolve, hg]
    simp [go_sem]
  · simp [invoke, go_sem, eg]
  · refine (hseq (w.heap.size + 1)
      (fun k W => I k W ∧ W.heap[w.heap.size + 1]? = some (.loop (rc .ready none)) ∧ W.heap[w.heap.size]? = some (.deferred (some [])))
      W1 (fun k X Y hs hb => ?_) (fun k X hs => hR k X hs.1) ?_ ⟨hI 0 _ _ h0 (Gr.of hb1), hL1, hK1⟩).mono ?_
    · have hlt : w.heap.size + 1 < X.heap.size := (Array.getElem?_eq_some_iff.1 hs.2.1).1
      exact ⟨hI k X Y hs.1 (Gr.of hb), (hb.block _ hlt).trans hs.2.1, (hb.block _ (by omega)).trans hs.2.2⟩
    · rintro k W hkN ⟨hi, hl, hk⟩
      have hlt : w.heap.size + 1 < W.heap.size := (Array.getElem?_eq_some_iff.1 hl).1
      have hy := run_yield (P := P) (args := #[enc k]) hl (by rw [hrc]; rfl)
      rw [hrc] at hy
      refine ⟨fn, _, assign, body, hy, roundIn_of_wpIn hfn ?_⟩
      clear hy
      refine hassign _ k W _ ?_
      obtain ⟨bz, hbz⟩ : ∃ bz : Obj, bz = .loop { rc .ready none with state := .busy } := ⟨_, rfl⟩
      refine ⟨_, run_beginRound hl (by rw [hrc]), ?_⟩
      rw [← hbz]
      have hlb : (W.putObj (w.heap.size + 1) bz).heap[w.heap.size + 1]? = some bz := World.putObj_heap_same (by omega)
      have hkb : (W.putObj (w.heap.size + 1) bz).heap[w.heap.size]? = some (.deferred (some [])) := (World.putObj_heap_other (by omega)).trans hk
      refine wpIn_mono (hbody _ k _ hkN (hI _ _ _ hi (Gr.put _ _ _)) (by simp; omega)) ?_
      rintro e a3 W3 hp
      cases e with
      | normal =>
        obtain ⟨hi3, k1, k2⟩ := hp
        rw [hkb] at k1
        rw [hlb, hbz] at k2
        have hlt3 : w.heap.size + 1 < W3.heap.size := (Array.getElem?_eq_some_iff.1 k2).1
        have hr := run_endRound (P := P) none k2
        rw [hrc] at hr ⊢
        refine ⟨_, _, hr, rfl, hI _ _ _ hi3 (Gr.put _ _ _), World.putObj_heap_same hlt3, (World.putObj_heap_other (by omega)).trans k1⟩
      | ret => exact hp.elim
      | exit id => exact hp.elim
      | goto t => exact hp.elim
      | panic ch => exact hp.elim
      | outgrown => exact hp.elim
    · rintro e W2 ⟨⟨v, rfl⟩, hi, hl, hk⟩
      exact ⟨none, _, by have := run_endLoop (P := P) hl (by rw [hrc]; simp); rw [hrc] at this; exact this, hdone _ (hI _ _ _ hi (Gr.put _ _ _)) ((World.putObj_heap_other (by omega)).trans hk)⟩

theorem wpListIn_sgapp {α : Type} {K : Kd α} {ts : TypeId} {z : Value} {bytes : Nat} (hA : Ap K ts z bytes) {F : Fence} {nn : Nat} {ops : Array Oper} {rest : List Oper} {o : Oper} {a : Act} {Q : Exit → Act → World → Prop} (hgd : o.guard = none) (s x : Operand) (ho : o.op = .call { callee := .builtin .append, args := #[s, x], argTypes := #[ts, ts] })
    {w W0 W : World} {A Bs : List Rw} {v : Value} {M B : List α} {n m : Nat} (hS : Sg w W0 (A ++ rG K v M :: Bs)) (hb : Below W0.heap.size W0 W) (hn : M.length = n) (hm : B.length = m) (hs : a.eval s = v) (ad : Addr) (c : Nat) (hx : a.eval x = .slice (some ad) m c)
    (hsrc : ∀ j u, (K.flat B)[j]? = some u → W.cell? (ad.add j) = some u) (h1 : ∀ u ∈ K.flat B, u.oneCell' = true) (hne : 0 < m ∨ ¬ v = .slice none 0 0) (hl : n + m ≤ 1000000)
    (h : ∀ g cap w', Sg w w' (A ++ rG K (.slice (some ⟨g, 0, none⟩) (n + m) cap) (M ++ B) :: Bs) → W.grownBy w' v.ownBlock → (v.ownBlock = some g ∨ g = W.heap.size) → wpListIn F nn Tryz.prog ops Q rest (a.put o.dst (.slice (some ⟨g, 0, none⟩) (n + m) cap)) w') : wpListIn F nn Tryz.prog ops Q (o :: rest) a W := by
  refine wpListIn_plain hgd fun KK hK' => ?_
  obtain ⟨g, cap, w', hr, h2, h3, h4⟩ := sg_app hA hS hb hn hm ad c hsrc h1 hne hl o.type
  unfold Oper.wpIn
  refine ⟨?_, ?_⟩
  · simp [Oper.about, ho, resolve, Target.leads, Sem.run_pure]
  · rw [Oper.semAt_plain F _ _ (by rw [ho]; intro c hc'; cases hc')]
    simp [execOp, ho, resolve, invoke, builtin, hs, hx, hr, Result.andThen]
    exact hK' _ _ (h g cap w' h2 h3 h4)
end Go.Proofs.YtipfcmfcdfofmaaGreat
