/-
  The spec's Quarters: four Cells in a new list, or none.
-/
import Derived.Test.YtkinbgcnenieeaaGreatDoorML1
import Derived.RangeFuncNested
import Derived.RangeFuncBound
import Derived.RangeFuncCalls
import Derived.RangeFuncLeaves
import Derived.Shelf.Abstract
import Derived.Shelf.RegionOpen
import Derived.OwnWalkIn
import Derived.TacticsInMore
import Derived.LoopNIn
import Derived.LoopIn
import Derived.Laws.EntriesVeiled
import Derived.Maps.AppendAt
namespace Go.Proofs.YtkinbgcnenieeaaGreatDoor.M
open Go.RowKit Go.Joins

/-- What lay from block B on lies as it lay. -/
structure KeepF (B : Nat) (W W' : World) : Prop where
  size : W.heap.size ≤ W'.heap.size
  same : ∀ k, B ≤ k → k < W.heap.size → W'.heap[k]? = W.heap[k]?
theorem KeepF.refl (B : Nat) (W : World) : KeepF B W W := ⟨Nat.le_refl _, fun _ _ _ => rfl⟩
theorem KeepF.trans {B : Nat} {X Y Z : World} (h : KeepF B X Y) (k : KeepF B Y Z) : KeepF B X Z :=
  ⟨Nat.le_trans h.size k.size, fun i hB hi => (k.same i hB (Nat.lt_of_lt_of_le hi h.size)).trans (h.same i hB hi)⟩
theorem KeepF.alloc (B : Nat) (W : World) (o : Obj) : KeepF B W (W.alloc o) := ⟨by simp, fun k _ hk => Below.heap_alloc W o k hk⟩
theorem KeepF.setCell {B b : Nat} (W : World) (i : Nat) (v : Value) (hb : b < B) : KeepF B W (W.setCell ⟨b, i, none⟩ v) :=
  ⟨by simp, fun k hB _ => Below.heap_setCell W ⟨b, i, none⟩ v k (fun e => by have e' : k = b := e; omega)⟩
theorem KeepF.of_below {B : Nat} {W W' : World} (h : Below W.heap.size W W') : KeepF B W W' := ⟨h.size, fun k _ hk => h.block k hk⟩

/-- J asks nothing of what lies from block B on. -/
def Stab (B : Nat) (J : Nat → World → Prop) : Prop := ∀ k X Y, J k X → Below B X Y → J k Y
theorem below_putObj {B l : Nat} (W : World) (o : Obj) (hl : B ≤ l) : Below B W (W.putObj l o) := ⟨rfl, rfl, rfl, by simp, fun _ hk => World.putObj_heap_other (by omega)⟩

/-- The value of an iterator that hands out enc 0, enc 1, .. enc (N - 1), or is told to stop. -/
def UpSeq (P : Program) (gf : Nat) (lb : Array Value) (enc : Nat → Value) (N B : Nat) (w : World) : Prop :=
  ∀ (l : Nat) (J Jx : Nat → World → Prop) (W : World), Below w.heap.size w W → B ≤ W.heap.size → Stab W.heap.size J → Stab W.heap.size Jx →
    (∀ k W1, k < N → J k W1 → YieldAt Fence.wide 1 P l #[enc k] W1 fun e W' =>
      (e = .returned (.bool true) ∧ J (k + 1) W' ∧ KeepF B W1 W') ∨ (e = .returned (.bool false) ∧ Jx k W')) →
    J 0 W →
    CallsIn Fence.wide 2 P gf (#[.func (.yield l) #[] #[]] ++ lb) W fun e W' => (∃ v, e = .returned v) ∧ (J N W' ∨ ∃ k, k < N ∧ Jx k W')

/-- How a round may be left. -/
def postU (B : Nat) (I Ix : Nat → World → Prop) (k : Nat) (W : World) : Exit → Act → World → Prop
  | .normal, _, W' => KeepF B W W' ∧ I (k + 1) W'
  | .ret, _, W' => KeepF B W W' ∧ Ix k W'
  | _, _, _ => False

theorem range_up {P : Program} {g : Operand} {p : Tmp} {assign body : Code} {Q : Exit → Act → World → Prop} {a : Act} {w : World} {gf : Nat} {lb : Array Value}
    (hg : a.eval g = .func (.func gf) #[] lb) (eg : ∀ args w, (callFunc gf args).run P w = .ok (.enter gf args) w)
    {enc : Nat → Value} {cs : Nat → Array Value} {t : TypeId} {N : Nat} (hseq : UpSeq P gf lb enc N w.heap.size w)
    (I Ix : Nat → World → Prop) (hI : Stab w.heap.size I) (hIx : Stab w.heap.size Ix) (h0 : I 0 w) (a1 : Nat → Nat → Act)
    (hassign : ∀ (l k : Nat) (W : World) (K : Act → World → Prop), K (a1 k W.heap.size) (W.alloc (.cells (cs k) t)) →
      assign.wpIn (Fence.wide.inRound l) 1 P (Exit.then K (fun _ _ _ => False)) { tmps := ((#[p] : Array Tmp).zip #[enc k]).foldl (fun t (p, v) => t.setIfInBounds p v) a.tmps, defers := [] } W)
    (hbody : ∀ (l k v : Nat) (W : World), k < N → I k W → w.heap.size ≤ v → v < W.heap.size → W.heap[v]? = some (.cells (cs k) t) → w.heap.size ≤ W.heap.size →
      body.wpIn (Fence.wide.inRound l) 1 P (postU w.heap.size I Ix k W) (a1 k v) W)
    (hdone : ∀ (W : World), I N W → W.heap[w.heap.size]? = some (.deferred (some [])) → Q .normal { a with defers := { target := .collected w.heap.size, args := #[] } :: a.defers } W)
    (hstop : ∀ (k : Nat) (W : World), k < N → Ix k W → W.heap[w.heap.size]? = some (.deferred (some [])) → Code.ret.wpIn Fence.wide 3 P Q { a with defers := { target := .collected w.heap.size, args := #[] } :: a.defers } W) :
    (Code.rangeFunc g #[p] assign body).wpIn Fence.wide 3 P Q a w := by
  refine wpIn_rangeFunc fun fn hfn => ?_
  obtain ⟨rc, hrc⟩ : ∃ rc : LoopState → Option Code → Loop, rc = fun st pe => { state := st, pending := pe, fn, tmps := a.tmps, params := #[p], assign, body, defers := w.heap.size } := ⟨_, rfl⟩
  obtain ⟨W1, hW1⟩ : ∃ W1, (w.alloc (.deferred (some []))).alloc (.loop (rc .ready none)) = W1 := ⟨_, rfl⟩
  have hz : W1.heap.size = w.heap.size + 1 + 1 := by rw [← hW1]; simp
  have hL1 : W1.heap[w.heap.size + 1]? = some (.loop (rc .ready none)) := by
    rw [← hW1]; have := World.alloc_heap_new (w.alloc (.deferred (some []))) (.loop (rc .ready none)); rwa [World.size_alloc] at this
  have hK1 : W1.heap[w.heap.size]? = some (.deferred (some [])) := by
    rw [← hW1]; exact (Below.heap_alloc _ _ _ (by simp)).trans (World.alloc_heap_new w _)
  have hb1 : Below w.heap.size w W1 := by rw [← hW1]; exact below_alloc2 _ _ _
  refine ⟨w.heap.size + 1, [{ target := .collected w.heap.size, args := #[] }], W1, { target := .fn (.func gf) lb, args := #[.func (.yield (w.heap.size + 1)) #[] #[]] }, W1, gf,
    #[.func (.yield (w.heap.size + 1)) #[] #[]] ++ lb, W1, ?_, ?_, fun _ _ => trivial, ?_, fun _ => by decide, ?_⟩
  · rw [← hW1, hrc]; exact run_enterLoop_outer _ _ _ _ _
  · simp only [resolve, hg]
    simp [go_sem]
  · simp [invoke, go_sem, eg]
  · refine (hseq (w.heap.size + 1)
      (fun k W => I k W ∧ W.heap[w.heap.size + 1]? = some (.loop (rc .ready none)) ∧ W.heap[w.heap.size]? = some (.deferred (some [])))
      (fun k W => Ix k W ∧ W.heap[w.heap.size + 1]? = some (.loop (rc .done (some .ret))) ∧ W.heap[w.heap.size]? = some (.deferred (some [])))
      W1 hb1 (by omega)
      (fun k X Y hs hb => ⟨hI k X Y hs.1 (hb.mono (by omega)), (hb.block _ (by omega)).trans hs.2.1, (hb.block _ (by omega)).trans hs.2.2⟩)
      (fun k X Y hs hb => ⟨hIx k X Y hs.1 (hb.mono (by omega)), (hb.block _ (by omega)).trans hs.2.1, (hb.block _ (by omega)).trans hs.2.2⟩)
      ?_ ⟨hI 0 _ _ h0 hb1, hL1, hK1⟩).mono ?_
    · rintro k W hkN ⟨hi, hl, hk⟩
      have hlt : w.heap.size + 1 < W.heap.size := (Array.getElem?_eq_some_iff.1 hl).1
      have hy := run_yield (P := P) (args := #[enc k]) hl (by rw [hrc]; rfl)
      rw [hrc] at hy
      refine ⟨fn, _, assign, body, hy, roundIn_of_wpIn hfn ?_⟩
      clear hy
      refine hassign _ k W _ ?_
      obtain ⟨Wa, hWa⟩ : ∃ Wa, W.alloc (.cells (cs k) t) = Wa := ⟨_, rfl⟩
      rw [hWa]
      have kfa : KeepF w.heap.size W Wa := by rw [← hWa]; exact KeepF.alloc _ _ _
      have hza : Wa.heap.size = W.heap.size + 1 := by rw [← hWa]; simp
      have hva : Wa.heap[W.heap.size]? = some (.cells (cs k) t) := by rw [← hWa]; exact World.alloc_heap_new _ _
      have hia : I k Wa := by rw [← hWa]; exact hI _ _ _ hi ((Below.refl _ _).alloc (by omega) _)
      have hla := (kfa.same _ (by omega) hlt).trans hl
      have hka := (kfa.same _ (Nat.le_refl _) (by omega)).trans hk
      obtain ⟨bz, hbz⟩ : ∃ bz : Obj, bz = .loop { rc .ready none with state := .busy } := ⟨_, rfl⟩
      refine ⟨_, run_beginRound hla (by rw [hrc]), ?_⟩
      rw [← hbz]
      have hlb : (Wa.putObj (w.heap.size + 1) bz).heap[w.heap.size + 1]? = some bz := World.putObj_heap_same (by omega)
      refine wpIn_mono (hbody _ k W.heap.size _ hkN (hI _ _ _ hia (below_putObj _ _ (by omega))) (by omega) (by simp; omega) ((World.putObj_heap_other (by omega)).trans hva) (by simp; omega)) ?_
      have fin : ∀ (j : Option Code) (W3 : World), KeepF w.heap.size (Wa.putObj (w.heap.size + 1) bz) W3 →
          (Instr.endRound (w.heap.size + 1) j).run P W3 = .ok (.bool j.isNone) (W3.putObj (w.heap.size + 1) (.loop (rc (if j.isNone then .ready else .done) j))) ∧
          (W3.putObj (w.heap.size + 1) (.loop (rc (if j.isNone then .ready else .done) j))).heap[w.heap.size + 1]? = some (.loop (rc (if j.isNone then .ready else .done) j)) ∧
          (W3.putObj (w.heap.size + 1) (.loop (rc (if j.isNone then .ready else .done) j))).heap[w.heap.size]? = some (.deferred (some [])) := fun j W3 h3 => by
        have hz3 := h3.size
        simp at hz3
        have hl3 := (h3.same (w.heap.size + 1) (by omega) (by simp; omega)).trans hlb
        rw [hbz] at hl3
        have := run_endRound (P := P) j hl3
        rw [hrc] at this ⊢
        refine ⟨this, World.putObj_heap_same (by omega), (World.putObj_heap_other (by omega)).trans ?_⟩
        exact (h3.same _ (Nat.le_refl _) (by simp; omega)).trans ((World.putObj_heap_other (by omega)).trans hka)
      rintro e a3 W3 hp
      cases e with
      | normal =>
        obtain ⟨h3, hi3⟩ := hp
        obtain ⟨hr, hl4, hk4⟩ := fin none W3 h3
        refine ⟨_, _, hr, .inl ⟨rfl, ⟨hI _ _ _ hi3 (below_putObj _ _ (by omega)), hl4, hk4⟩, ⟨?_, fun i hB hi => ?_⟩⟩⟩
        · have := h3.size; simp at this; simp; omega
        · by_cases e : i = w.heap.size + 1
          · subst e; rw [hl4, hl]; rfl
          · refine (World.putObj_heap_other e).trans ((h3.same i hB (by simp; omega)).trans ((World.putObj_heap_other e).trans (kfa.same i hB hi)))
      | ret =>
        obtain ⟨h3, hi3⟩ := hp
        obtain ⟨hr, hl4, hk4⟩ := fin (some .ret) W3 h3
        exact ⟨_, _, hr, .inr ⟨rfl, hIx _ _ _ hi3 (below_putObj _ _ (by omega)), hl4, hk4⟩⟩
      | exit id => exact hp.elim
      | goto t => exact hp.elim
      | panic ch => exact hp.elim
      | outgrown => exact hp.elim
    · rintro e W2 ⟨⟨v, rfl⟩, (⟨hi, hl, hk⟩ | ⟨k, hkN, hi, hl, hk⟩)⟩
      · exact ⟨none, _, by have := run_endLoop (P := P) hl (by rw [hrc]; simp); rw [hrc] at this; exact this, hdone _ (hI _ _ _ hi (below_putObj _ _ (by omega))) ((World.putObj_heap_other (by omega)).trans hk)⟩
      · exact ⟨some .ret, _, by have := run_endLoop (P := P) hl (by rw [hrc]; simp); rw [hrc] at this; exact this, hstop k _ hkN (hIx _ _ _ hi (below_putObj _ _ (by omega))) ((World.putObj_heap_other (by omega)).trans hk)⟩

end Go.Proofs.YtkinbgcnenieeaaGreatDoor.M
namespace Go.Proofs.YtkinbgcnenieeaaGreatDoor.M
open Go.RowKit Go.Joins
attribute [local go_sem] Oper.semAt_some

def half (x : Int) : Nat → Int
  | 0 => x
  | k + 1 => half x k / 2
def encU (l x y : Int) (k : Nat) : Value := .agg #[.int .i64 (l - k), .int .i64 (half x k), .int .i64 (half y k)]
def cellsU (l x y : Int) (k : Nat) : Array Value := #[.int .i64 (l - k), .int .i64 (half x k), .int .i64 (half y k)]
theorem up_ok {l x y : Int} (h : cellB l x y = true) (h0 : l ≠ 0) : cellB (l - 1) (x / 2) (y / 2) = true := by
  obtain ⟨a, b, c, d, e, f⟩ := cellB_t.mp h
  have hp : (2 : Int) ^ l.toNat = 2 * 2 ^ (l - 1).toNat := by
    rw [show l.toNat = (l - 1).toNat + 1 by omega, Int.pow_succ]; omega
  exact cellB_t.mpr (by omega)
theorem anc_ok {l x y : Int} (h : cellB l x y = true) : ∀ {k : Nat}, k ≤ l.toNat → cellB (l - k) (half x k) (half y k) = true
  | 0, _ => by simpa [half] using h
  | k + 1, hk => by
    have hl := cell_lev h
    have := up_ok (anc_ok h (k := k) (by omega)) (by omega)
    rw [show l - ((k + 1 : Nat) : Int) = l - k - 1 by omega]
    exact this
def intAt : Option Value → Int
  | some (.int _ n) => n
  | _ => 0
theorem keepF_cell {B g i : Nat} {W W' : World} (h : KeepF B W W') (hB : B ≤ g) (hg : g < W.heap.size) : W'.cell? ⟨g, i, none⟩ = W.cell? ⟨g, i, none⟩ := World.cell?_of_block (h.same g hB hg)
theorem keepF_frozen {B g i : Nat} {W W' : World} (h : KeepF B W W') (hB : B ≤ g) (hg : g < W.heap.size) : W'.frozen? ⟨g, i, none⟩ = W.frozen? ⟨g, i, none⟩ := World.frozen?_of_block (h.same g hB hg)

set_option maxRecDepth 100000 in
set_option maxHeartbeats 2000000 in
theorem up_seq {l x y : Int} (h : cellB l x y = true) (b : Nat) (w : World) (hb : b < w.heap.size)
    (c0 : w.cell? ⟨b, 0, none⟩ = some (.int .i64 l)) (c1 : w.cell? ⟨b, 1, none⟩ = some (.int .i64 x)) (c2 : w.cell? ⟨b, 2, none⟩ = some (.int .i64 y)) :
    UpSeq Tryz.prog 108 #[.pointer (some ⟨b, 0, none⟩)] (encU l x y) (l.toNat + 1) w.heap.size w := by
  intro lp J Jx W hW hB hJ hJx hY h0
  have d0 := (hW.cell (p := ⟨b, 0, none⟩) hb).trans c0
  have d1 := (hW.cell (p := ⟨b, 1, none⟩) hb).trans c1
  have d2 := (hW.cell (p := ⟨b, 2, none⟩) hb).trans c2
  obtain ⟨hl0, hl8⟩ := cell_lev h
  refine callsIn_of_wp Tryz.func108 rfl trivial ?_ rfl
  simp only [Tryz.ntmps108, List.size_toArray, List.length_cons, List.length_nil, Nat.reduceAdd, Nat.reduceSub, Array.replicate_succ, Array.replicate_zero, List.push_toArray, List.append_toArray, List.nil_append, List.cons_append]
  gi_wp2
  gi_loopw [] (fun wr => ∃ k : Nat, k ≤ l.toNat ∧ J k wr ∧ W.heap.size < wr.heap.size ∧ wr.cell? ⟨W.heap.size, 0, none⟩ = some (.int .i64 (l - k)) ∧ wr.cell? ⟨W.heap.size, 1, none⟩ = some (.int .i64 (half x k)) ∧ wr.cell? ⟨W.heap.size, 2, none⟩ = some (.int .i64 (half y k)) ∧ ∀ o, wr.frozen? ⟨W.heap.size, o, none⟩ = false)
    (fun wr => (intAt (wr.cell? ⟨W.heap.size, 0, none⟩)).toNat)
  case atStart =>
    refine ⟨0, by omega, hJ _ _ _ h0 (below_alloc1 _ _), by simp, ?_, ?_, ?_, ?_⟩
    · simp [go_sem]
    · simp [go_sem, half]
    · simp [go_sem, half]
    · intro o; exact World.frozen?_alloc_at _ _ _ _ rfl
  case round =>
    obtain ⟨k, hk, hj, hlt, e0, e1, e2, hf⟩ := hrel
    obtain ⟨fn, tmps, assign, body, hy, hR⟩ := hY k wr (by omega) hj
    dsimp only [encU] at hy
    gi_wp2
    refine hR.mono ?_
    rintro e W3 (⟨rfl, hJ3, hk3⟩ | ⟨rfl, hJx3⟩)
    · have hz3 := hk3.size
      have f0 := (keepF_cell (i := 0) hk3 hB hlt).trans e0
      have f1 := (keepF_cell (i := 1) hk3 hB hlt).trans e1
      have f2 := (keepF_cell (i := 2) hk3 hB hlt).trans e2
      have ff : ∀ o, W3.frozen? ⟨W.heap.size, o, none⟩ = false := fun o => (keepF_frozen hk3 hB hlt).trans (hf o)
      have hok := anc_ok h hk
      by_cases hz : 0 < l - (k : Int)
      · have hlu : uL (l - k) (half x k) (half y k) = l - ((k + 1 : Nat) : Int) := by simp only [uL, hok, if_true]; rw [if_neg (by omega)]; omega
        have hxu : uX (l - k) (half x k) (half y k) = half x (k + 1) := by simp only [uX, hok, if_true]; rw [if_neg (by omega)]; rfl
        have hyu : uY (l - k) (half x k) (half y k) = half y (k + 1) := by simp only [uY, hok, if_true]; rw [if_neg (by omega)]; rfl
        gi_wp2_with (refine ⟨trivial, ?_⟩; gi_at_call 109; refine (callsIn_wide.2 (iUp_any _ _ _ _)).mono ?_; rw [hlu, hxu, hyu]; rintro e w4 ⟨rfl, hb4⟩; have hz4 := hb4.size; have g0 := (hb4.cell (p := ⟨W.heap.size, 0, none⟩) (by show W.heap.size < W3.heap.size; omega)).trans f0; have g1 := (hb4.cell (p := ⟨W.heap.size, 1, none⟩) (by show W.heap.size < W3.heap.size; omega)).trans f1; have g2 := (hb4.cell (p := ⟨W.heap.size, 2, none⟩) (by show W.heap.size < W3.heap.size; omega)).trans f2; have gf : ∀ o, w4.frozen? ⟨W.heap.size, o, none⟩ = false := fun o => (hb4.frozen (p := ⟨W.heap.size, o, none⟩) (by show W.heap.size < W3.heap.size; omega)).trans (ff o))
        go_roundw
        case rel =>
          refine ⟨k + 1, by omega, hJ _ _ _ hJ3 (sc3 (hb4.mono (by omega)) (Nat.le_refl _)), by simp; omega, ?_, ?_, ?_, ?_⟩
          · go_simp
          · go_simp
          · go_simp
          · intro o; go_simp
        case measure =>
          have q : ∀ v, v = some (Value.int .i64 (l - ((k : Int) + 1))) → (intAt v).toNat < (intAt (some (.int .i64 (l - (k : Int))))).toNat := by rintro _ rfl; simp only [intAt]; omega
          rw [e0]
          exact q _ (by go_simp)
      · gi_wp2
        go_end0
        exact ⟨⟨_, rfl⟩, .inl (by rw [show l.toNat = k by omega]; exact hJ3)⟩
    · gi_wp2
      go_end0
      exact ⟨⟨_, rfl⟩, .inr ⟨k, by omega, hJx3⟩⟩

set_option maxHeartbeats 1000000 in
theorem upward_any (l x y : Int) (w : World) :
    Calls Tryz.prog 101 #[.agg #[.int .i64 l, .int .i64 x, .int .i64 y]] w fun e w' => e = .returned (.func (.func 108) #[] #[.pointer (some ⟨w.heap.size, 0, none⟩)]) ∧ w' = w.alloc (.cells #[.int .i64 l, .int .i64 x, .int .i64 y] 89) := by
  refine (callsIn_wide (n := 3)).1 ?_
  refine callsIn_of_wp Tryz.func101 rfl trivial ?_ rfl
  simp only [Tryz.ntmps101, List.size_toArray, List.length_cons, List.length_nil, Nat.reduceAdd, Nat.reduceSub, Array.replicate_succ, Array.replicate_zero, List.push_toArray, List.append_toArray, List.nil_append, List.cons_append]
  gi_wp2
  go_ret
  exact ⟨rfl, rfl⟩

/-- Whether the Cell (m, p, q) is the k-th around (l, x, y), k below N. -/
def isUp (l x y m p q : Int) : Nat → Bool
  | 0 => false
  | k + 1 => isUp l x y m p q k || (l - k == m && half x k == p && half y k == q)
end Go.Proofs.YtkinbgcnenieeaaGreatDoor.M
namespace Go.Proofs.YtkinbgcnenieeaaGreatDoor.M
open Go.RowKit Go.Joins
attribute [local go_sem] Oper.semAt_some

set_option maxHeartbeats 1000000 in
theorem every_cc (x1 y1 a1 x2 y2 a2 : Int) (g : Nat) (w : World) (hg : g < w.heap.size)
    (h0 : w.cell? ⟨g, 0, none⟩ = some (.func (Fn.func 83) #[.agg #[.int .i64 x1, .int .i64 y1, .int .i64 a1]] #[])) (h1 : w.cell? ⟨g, 1, none⟩ = some (.func (Fn.func 83) #[.agg #[.int .i64 x2, .int .i64 y2, .int .i64 a2]] #[])) :
    Calls Tryz.prog 24 #[.slice (some ⟨g, 0, none⟩) 2 2] w fun e w' => e = .returned (.bool (cellB x1 y1 a1 && cellB x2 y2 a2)) ∧ Below w.heap.size w w' := by
  cases k1 : cellB x1 y1 a1
  · go_enter Tryz.func24, Tryz.ntmps24
    go_wp2
    refine wp_loop_rounds 3 ?_
    rw [rounds_succ]
    go_wp2_with ((go_at_call 83; refine (isRight_any x1 y1 a1 _).mono ?_; rintro e w1 ⟨rfl, hb2⟩; (first | replace hb := bstep hb hb2 (Nat.le_refl _) | replace hb := bstepA hb hb2 (Nat.le_refl _) | have hb := hb2); (try clear hc hf); obtain ⟨hc, hf⟩ := bcell hb))
    go_ret
    exact ⟨rfl, hb⟩
  cases k2 : cellB x2 y2 a2
  · go_enter Tryz.func24, Tryz.ntmps24
    go_wp2
    refine wp_loop_rounds 3 ?_
    rw [rounds_succ]
    go_wp2_with ((go_at_call 83; refine (isRight_any x1 y1 a1 _).mono ?_; rintro e w1 ⟨rfl, hb2⟩; (first | replace hb := bstep hb hb2 (Nat.le_refl _) | replace hb := bstepA hb hb2 (Nat.le_refl _) | have hb := hb2); (try clear hc hf); obtain ⟨hc, hf⟩ := bcell hb))
    rw [rounds_succ]
    go_wp2_with ((go_at_call 83; refine (isRight_any x2 y2 a2 _).mono ?_; rintro e w1 ⟨rfl, hb2⟩; (first | replace hb := bstep hb hb2 (Nat.le_refl _) | replace hb := bstepA hb hb2 (Nat.le_refl _) | have hb := hb2); (try clear hc hf); obtain ⟨hc, hf⟩ := bcell hb))
    go_ret
    exact ⟨rfl, hb⟩
  · go_enter Tryz.func24, Tryz.ntmps24
    go_wp2
    refine wp_loop_rounds 3 ?_
    rw [rounds_succ]
    go_wp2_with ((go_at_call 83; refine (isRight_any x1 y1 a1 _).mono ?_; rintro e w1 ⟨rfl, hb2⟩; (first | replace hb := bstep hb hb2 (Nat.le_refl _) | replace hb := bstepA hb hb2 (Nat.le_refl _) | have hb := hb2); (try clear hc hf); obtain ⟨hc, hf⟩ := bcell hb))
    rw [rounds_succ]
    go_wp2_with ((go_at_call 83; refine (isRight_any x2 y2 a2 _).mono ?_; rintro e w1 ⟨rfl, hb2⟩; (first | replace hb := bstep hb hb2 (Nat.le_refl _) | replace hb := bstepA hb hb2 (Nat.le_refl _) | have hb := hb2); (try clear hc hf); obtain ⟨hc, hf⟩ := bcell hb))
    rw [rounds_succ]
    go_wp2
    go_ret
    exact ⟨rfl, hb⟩


theorem every_cc_v (x1 y1 a1 x2 y2 a2 : Int) (v : Bool) (g : Nat) (w : World) (hv : (cellB x1 y1 a1 && cellB x2 y2 a2) = v) (hg : g < w.heap.size)
    (h0 : w.cell? ⟨g, 0, none⟩ = some (.func (Fn.func 83) #[.agg #[.int .i64 x1, .int .i64 y1, .int .i64 a1]] #[])) (h1 : w.cell? ⟨g, 1, none⟩ = some (.func (Fn.func 83) #[.agg #[.int .i64 x2, .int .i64 y2, .int .i64 a2]] #[])) :
    Calls Tryz.prog 24 #[.slice (some ⟨g, 0, none⟩) 2 2] w fun e w' => e = .returned (.bool v) ∧ Below w.heap.size w w' := by
  subst hv; exact every_cc x1 y1 a1 x2 y2 a2 g w hg h0 h1

theorem St.stab {B : Nat} {w X Y : World} {l : List (Nat × List Value)} (h : St w X l) (hb : Below B X Y) (hB : w.heap.size ≤ B) (hl : ∀ p ∈ l, p.1 < B) : St w Y l := by
  refine ⟨h.bel.trans (hb.mono hB), ?_⟩
  have hh := h.has
  clear h
  induction l with
  | nil => trivial
  | cons p t ih =>
    obtain ⟨⟨h1, h2, h3⟩, h4⟩ := hh
    have hp := hl p (List.mem_cons_self ..)
    refine ⟨⟨Nat.lt_of_lt_of_le h1 hb.size, fun o => (hb.frozen (p := ⟨p.1, o, none⟩) hp).trans (h2 o), ?_⟩, ih (fun q hq => hl q (List.mem_cons_of_mem _ hq)) h4⟩
    have : ∀ (i : Nat) (vs : List Value), HasAt X p.1 i vs → HasAt Y p.1 i vs := by
      intro i vs
      induction vs generalizing i with
      | nil => intro _; trivial
      | cons v vs ihv => intro hv; exact ⟨(hb.cell (p := ⟨p.1, i, none⟩) hp).trans hv.1, ihv _ hv.2⟩
    exact this _ _ h3
theorem HasAt.far {W : World} {b g i : Nat} {v : Value} (hne : b ≠ g) : ∀ {j : Nat} {vs : List Value}, HasAt W g j vs → HasAt (W.setCell ⟨b, i, none⟩ v) g j vs
  | _, [], _ => trivial
  | j, _ :: _, ⟨h, t⟩ => ⟨(World.cell?_of_block (Below.heap_setCell W ⟨b, i, none⟩ v g (fun e => hne (by have e' : g = b := e; omega)))).trans h, HasAt.far hne t⟩
theorem Has.far {W : World} {b i : Nat} {v : Value} : ∀ {l : List (Nat × List Value)}, (∀ p ∈ l, b ≠ p.1) → Has W l → Has (W.setCell ⟨b, i, none⟩ v) l
  | [], _, _ => trivial
  | p :: _, hl, ⟨⟨h1, h2, h3⟩, t⟩ => ⟨⟨by simpa using h1, fun o => (World.frozen?_setCell ..).trans (h2 o), HasAt.far (hl p (List.mem_cons_self ..)) h3⟩, Has.far (fun q hq => hl q (List.mem_cons_of_mem _ hq)) t⟩
/-- A store into a box of one cell. -/
theorem St.set1 {w W : World} {b : Nat} {u : Value} {l : List (Nat × List Value)} (h : St w W ((b, [u]) :: l)) (v : Value) (hb : w.heap.size ≤ b) (hl : ∀ p ∈ l, b ≠ p.1) : St w (W.setCell ⟨b, 0, none⟩ v) ((b, [v]) :: l) := by
  obtain ⟨h1, ⟨h2, h3, h4, _⟩, h5⟩ := h
  exact ⟨h1.setCell (p := ⟨b, 0, none⟩) hb _, ⟨⟨by simpa using h2, fun o => (World.frozen?_setCell ..).trans (h3 o), World.cell?_setCell_same' _ _ _ (by rw [h4]; rfl), trivial⟩, Has.far hl h5⟩⟩

theorem isUp_mono {l x y m p q : Int} {j k : Nat} (hjk : j ≤ k) (h : isUp l x y m p q j = true) : isUp l x y m p q k = true := by
  induction k with
  | zero => rw [Nat.le_zero.mp hjk] at h; exact h
  | succ k ih =>
    rcases Nat.lt_or_ge j (k + 1) with hj | hj
    · simp only [isUp, ih (by omega), Bool.true_or]
    · rw [show k + 1 = j by omega]; exact h
def insB (l x y m p q : Int) : Bool := (cellB l x y && cellB m p q) && isUp l x y m p q (l.toNat + 1)

set_option maxRecDepth 100000 in
set_option maxHeartbeats 2000000 in
theorem iInside_any (l x y m p q : Int) (w : World) :
    Calls Tryz.prog 92 #[.agg #[.int .i64 l, .int .i64 x, .int .i64 y], .agg #[.int .i64 m, .int .i64 p, .int .i64 q]] w fun e w' => e = .returned (.bool (insB l x y m p q)) ∧ Below w.heap.size w w' := by
  cases hv : (cellB l x y && cellB m p q)
  · have hs := St.nil w
    have hi : insB l x y m p q = false := by simp [insB, hv]
    rw [hi]
    go_enter Tryz.func92, Tryz.ntmps92
    go_wp2_with (go_at_call 24; refine (every_cc_v l x y m p q _ _ _ hv ?_ ?_ ?_).mono ?_; (focus (simp; done)); (focus (simp [go_sem]; done)); (focus (simp [go_sem]; done)); rintro e w1 ⟨rfl, hb2⟩; (first | replace hs := hs.step hb2 | replace hs := (hs.push _ _).step hb2 | replace hs := ((hs.push _ _).push _ _).step hb2 | replace hs := (((hs.push _ _).push _ _).push _ _).step hb2 | replace hs := ((((hs.push _ _).push _ _).push _ _).push _ _).step hb2); (try clear hk); (try simp only [World.size_alloc] at hs); have hk := hs.has; simp [Has, HasAt] at hk)
    refine bodyPost_ret (v := .bool false) (by simp [results, Tryz.results92, go_sem, hk]) rfl ⟨rfl, ?_⟩
    exact hs.bel.setCell (p := ⟨w.heap.size + 1 + 1, 0, none⟩) (by show w.heap.size ≤ w.heap.size + 1 + 1; omega) _
  · obtain ⟨g1, g2⟩ := (Bool.and_eq_true _ _).mp hv
    have hs := St.nil w
    refine (callsIn_wide (n := 3)).1 ?_
    refine callsIn_of_wp_marks Tryz.func92 rfl trivial ?_ rfl
    simp only [Tryz.ntmps92, List.size_toArray, List.length_cons, List.length_nil, Nat.reduceAdd, Nat.reduceSub, Array.replicate_succ, Array.replicate_zero, List.push_toArray, List.append_toArray, List.nil_append, List.cons_append]
    gi_wp2_with (first | (refine ⟨trivial, ?_⟩; gi_at_call 24; refine (callsIn_wide.2 (every_cc_v l x y m p q _ _ _ hv ?_ ?_ ?_)).mono ?_; (focus (simp; done)); (focus (simp [go_sem]; done)); (focus (simp [go_sem]; done)); rintro e w1 ⟨rfl, hb2⟩; (first | replace hs := hs.step hb2 | replace hs := (hs.push _ _).step hb2 | replace hs := ((hs.push _ _).push _ _).step hb2 | replace hs := (((hs.push _ _).push _ _).push _ _).step hb2 | replace hs := ((((hs.push _ _).push _ _).push _ _).push _ _).step hb2); (try clear hk); (try simp only [World.size_alloc] at hs); have hk := hs.has; simp [Has, HasAt] at hk) | (refine ⟨trivial, ?_⟩; gi_at_call 101; refine (callsIn_wide.2 (upward_any _ _ _ _)).mono ?_; rintro e w2 ⟨rfl, rfl⟩))
    have hs0 := (hs.push [.int .i64 l, .int .i64 x, .int .i64 y] 89).sub (l' := [(w1.heap.size, [.int .i64 l, .int .i64 x, .int .i64 y]), (w.heap.size + 1 + 1, [.bool false]), (w.heap.size + 1, [.int .i64 m, .int .i64 p, .int .i64 q])]) (by simp)
    clear hk hs hb2
    generalize w1.heap.size = bx at hs0 ⊢
    generalize w1.alloc _ = W0 at hs0 ⊢
    have hk0 := hs0.has
    simp [Has, HasAt] at hk0
    have hz0 := hs0.size
    have hlt : w.heap.size + 1 + 1 < W0.heap.size := hk0.2.1.1
    refine range_up (gf := 108) (lb := #[.pointer (some ⟨bx, 0, none⟩)]) rfl (enters_of Tryz.func108 (by kernel_rfl) rfl) (cs := cellsU l x y) (t := 89) (up_seq g1 bx W0 hk0.1.1 hk0.1.2.2.1 hk0.1.2.2.2.1 hk0.1.2.2.2.2)
      (fun k W => isUp l x y m p q k = false ∧ St w W [(w.heap.size + 1 + 1, [.bool false]), (w.heap.size + 1, [.int .i64 m, .int .i64 p, .int .i64 q])])
      (fun k W => isUp l x y m p q (k + 1) = true ∧ St w W [(w.heap.size + 1 + 1, [.bool true])])
      (fun k X Y hq hb => ⟨hq.1, hq.2.stab hb hz0 (by simp; omega)⟩)
      (fun k X Y hq hb => ⟨hq.1, hq.2.stab hb hz0 (by simp; omega)⟩)
      ⟨rfl, hs0.sub (by simp)⟩
      (fun k v => { defers := [], tmps := #[Value.agg #[Value.int IntKind.i64 l, Value.int IntKind.i64 x, Value.int IntKind.i64 y],
          Value.agg #[Value.int IntKind.i64 m, Value.int IntKind.i64 p, Value.int IntKind.i64 q],
          Value.pointer (some { block := w.heap.size, off := 0 }),
          Value.pointer (some { block := w.heap.size + 1, off := 0 }),
          Value.pointer (some { block := w.heap.size + 1 + 1, off := 0 }), Value.pointer (some { block := v, off := 0 }),
          Value.agg #[Value.int IntKind.i64 l, Value.int IntKind.i64 x, Value.int IntKind.i64 y],
          Value.func (Fn.func 83)
            #[Value.agg #[Value.int IntKind.i64 l, Value.int IntKind.i64 x, Value.int IntKind.i64 y]] #[],
          Value.agg #[Value.int IntKind.i64 m, Value.int IntKind.i64 p, Value.int IntKind.i64 q],
          Value.func (Fn.func 83)
            #[Value.agg #[Value.int IntKind.i64 m, Value.int IntKind.i64 p, Value.int IntKind.i64 q]] #[],
          Value.slice (some { block := w.heap.size + 1 + 1 + 1, off := 0 }) 2 2, Value.bool true, Value.bool false,
          Value.agg #[Value.int IntKind.i64 l, Value.int IntKind.i64 x, Value.int IntKind.i64 y],
          Value.func (Fn.func 108) #[] #[Value.pointer (some { block := bx, off := 0 })], encU l x y k, undef, undef,
          undef] }) ?assign ?body ?done ?stop
    case assign =>
      intro l1 k W K hK
      simp only [encU, cellsU] at hK ⊢
      gi_wp2
      exact hK
    case body =>
      rintro l1 k v W hkN ⟨hu, hst⟩ hv1 hv2 hv3 hz1
      have hk1 := hst.has
      simp [Has, HasAt] at hk1
      have v0 : W.cell? ⟨v, 0, none⟩ = some (.int .i64 (l - k)) := by simp [World.cell?, hv3, cellsU]
      have v1 : W.cell? ⟨v, 1, none⟩ = some (.int .i64 (half x k)) := by simp [World.cell?, hv3, cellsU]
      have v2 : W.cell? ⟨v, 2, none⟩ = some (.int .i64 (half y k)) := by simp [World.cell?, hv3, cellsU]
      gi_wp2
      · exact ⟨KeepF.setCell W 0 _ hlt, by simp_all [isUp], (hst.set1 _ (by omega) (by simp)).sub (by simp)⟩
      all_goals exact ⟨KeepF.refl _ _, by simp_all [isUp], hst⟩
    case done =>
      rintro W ⟨hu, hst⟩ hD
      have hk1 := hst.has
      simp [Has, HasAt] at hk1
      gi_wp2
      have hD2 : (W.setCell ⟨w.heap.size + 1 + 1, 0, none⟩ (.bool false)).heap[W0.heap.size]? = some (.deferred (some [])) := (KeepsOthers.setCell _ _ _).same _ _ hD rfl
      have hst2 := hst.set1 (.bool false) (by omega) (by simp)
      have hres : ((W.setCell ⟨w.heap.size + 1 + 1, 0, none⟩ (.bool false)).putObj W0.heap.size (.deferred none)).cell? ⟨w.heap.size + 1 + 1, 0, none⟩ = some (.bool false) :=
        (World.cell?_of_block (World.putObj_heap_other (by show w.heap.size + 1 + 1 ≠ W0.heap.size; omega))).trans hst2.has.1.2.2.1
      refine ⟨by simp, .inl ⟨_, _, rfl, run_takeDeferred hD2, ?_⟩⟩
      refine ⟨.bool false, by simp [results, Tryz.results92, go_sem, hres], ?_, hst2.bel.trans (below_putObj _ _ hz0)⟩
      rw [insB, hv, hu]; rfl
    case stop =>
      rintro k W hkN ⟨hu, hst⟩ hD
      have hk1 := hst.has
      simp [Has, HasAt] at hk1
      gi_wp2
      have hres : (W.putObj W0.heap.size (.deferred none)).cell? ⟨w.heap.size + 1 + 1, 0, none⟩ = some (.bool true) :=
        (World.cell?_of_block (World.putObj_heap_other (by show w.heap.size + 1 + 1 ≠ W0.heap.size; omega))).trans hst.has.1.2.2.1
      refine ⟨by simp, .inl ⟨_, _, rfl, run_takeDeferred hD, ?_⟩⟩
      refine ⟨.bool true, by simp [results, Tryz.results92, go_sem, hres], ?_, hst.bel.trans (below_putObj _ _ hz0)⟩
      rw [insB, hv, isUp_mono (by omega) hu]; rfl

end Go.Proofs.YtkinbgcnenieeaaGreatDoor.M
namespace Go.Proofs.YtkinbgcnenieeaaGreatDoor.M
open Go.RowKit Go.Joins

theorem info89 : (Tryz.prog.info? 89).map (fun i => (i.zero, i.size, i.bytes)) = some (some (.agg #[.int .i64 0, .int .i64 0, .int .i64 0]), 3, 24) := by kernel_rfl
def qc (l x y : Int) (i : Nat) : List Value := [.int .i64 (l + 1), .int .i64 (2 * x + ((i % 2 : Nat) : Int)), .int .i64 (2 * y + ((i / 2 : Nat) : Int))]
def qs (l x y : Int) : Nat → List Value
  | 0 => []
  | k + 1 => qs l x y k ++ qc l x y k
theorem cell_three_new (w : World) (a b c : Value) (t : TypeId) : ∀ j u, [a, b, c][j]? = some u → (w.alloc (.cells #[a, b, c] t)).cell? ((⟨w.heap.size, 0, none⟩ : Addr).add j) = some u := by
  intro j u hj
  match j, hj with
  | 0, hj => simp at hj; subst hj; simp [Addr.add, go_sem]
  | 1, hj => simp at hj; subst hj; simp [Addr.add, go_sem]
  | 2, hj => simp at hj; subst hj; simp [Addr.add, go_sem]
theorem St.grown {w X Y : World} {l : List (Nat × List Value)} {row : Option Nat} (h : St w X l) (hg : X.grownBy Y row) (hr : ∀ r, row = some r → w.heap.size ≤ r ∧ ∀ p ∈ l, p.1 ≠ r) : St w Y l := by
  obtain ⟨hb, hh⟩ := h
  refine ⟨⟨hg.os.trans hb.os, hg.tape.trans hb.tape, hg.output.trans hb.output, Nat.le_trans hb.size hg.size, fun k hk => ?_⟩, ?_⟩
  · refine (hg.block k (Nat.lt_of_lt_of_le hk hb.size) (fun e => ?_)).trans (hb.block k hk)
    have := (hr k e.symm).1
    omega
  · clear hb
    induction l with
    | nil => trivial
    | cons p t ih =>
      obtain ⟨⟨h1, h2, h3⟩, h4⟩ := hh
      have hp : Y.heap[p.1]? = X.heap[p.1]? := hg.block p.1 h1 (fun e => (hr p.1 e.symm).2 p (List.mem_cons_self ..) rfl)
      refine ⟨⟨Nat.lt_of_lt_of_le h1 hg.size, fun o => (World.frozen?_of_block hp).trans (h2 o), ?_⟩, ih (fun r e => ⟨(hr r e).1, fun q hq => (hr r e).2 q (List.mem_cons_of_mem _ hq)⟩) h4⟩
      have : ∀ (i : Nat) (vs : List Value), HasAt X p.1 i vs → HasAt Y p.1 i vs := by
        intro i vs
        induction vs generalizing i with
        | nil => intro _; trivial
        | cons v vs ihv => intro hv; exact ⟨(World.cell?_of_block hp).trans hv.1, ihv _ hv.2⟩
      exact this _ _ h3
theorem row_St {w X : World} {base : Nat} {v : Value} {n : Nat} {xs : List Value} (h : X.ownsRow base 89 3 v (n + 1) xs) (hB : Below w.heap.size w X) :
    ∃ g cap, v = .slice (some ⟨g, 0, none⟩) (n + 1) cap ∧ base ≤ g ∧ n + 1 ≤ cap ∧ St w X [(g, xs)] := by
  obtain ⟨hl, ⟨_, h0⟩ | ⟨g, cap, cur, rfl, hg, hh, hc, _, _, ht⟩⟩ := h
  · omega
  · refine ⟨g, cap, rfl, hg, hc, hB, ⟨(Array.getElem?_eq_some_iff.1 hh).1, fun o => by simp [World.frozen?, hh], hasAt_of _ _ (fun j u hj => ?_)⟩, trivial⟩
    have hj' : cur[j]? = some u := by
      have : j < (n + 1) * 3 := by rw [← hl]; exact (List.getElem?_eq_some_iff.1 hj).1
      rw [← ht, List.getElem?_take_of_lt this] at hj
      simpa using hj
    simp [World.cell?, hh, hj']

theorem own_of_below {X Y : World} {base size n : Nat} {e : TypeId} {v : Value} {xs : List Value} (h : X.ownsRow base e size v n xs) (hb : Below X.heap.size X Y) : Y.ownsRow base e size v n xs :=
  h.kept (row := none) ⟨hb.os, hb.tape, hb.output, hb.size, fun k hk _ => hb.block k hk⟩ (by cases hv : v.ownBlock <;> simp)

end Go.Proofs.YtkinbgcnenieeaaGreatDoor.M
