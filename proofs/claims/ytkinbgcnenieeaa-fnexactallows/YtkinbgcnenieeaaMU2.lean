/-
  The iterator upward: from a right Cell it hands out the Cells around it, one Level after the other, up to the whole grid.
-/
import Derived.Test.YtkinbgcnenieeaaMU1
import Derived.Test.YtkinbgcnenieeaaMC3
namespace Go.Proofs.Ytkinbgcnenieeaa.M
open Go.RowKit Go.Joins
attribute [local go_sem] Oper.semAt_some

def half (x : Int) : Nat → Int
  | 0 => x
  | k + 1 => half x k / 2
def encU (l x y : Int) (k : Nat) : Value := .agg #[.int .i64 (l - k), .int .i64 (half x k), .int .i64 (half y k)]
def cellsU (l x y : Int) (k : Nat) : Array Value := #[.int .i64 (l - k), .int .i64 (half x k), .int .i64 (half y k)]
theorem up_ok {l x y : Int} (h : cellB l x y = true) (h0 : l ≠ 0) : cellB (l - 1) (x / 2) (y / 2) = true := by
  obtain ⟨a, b, c, d, e, f⟩ := cellB_t.mp h
  have hp : (2 : Int) ^ l.toNat = 2 * 2 ^ (l - 1).toNat := by
    rw [show l.toNat = (l - 1).toNat + 1 by omega, Int.pow_succ]; omega
  exact cellB_t.mpr (by omega)
theorem anc_ok {l x y : Int} (h : cellB l x y = true) : ∀ {k : Nat}, k ≤ l.toNat → cellB (l - k) (half x k) (half y k) = true
  | 0, _ => by simpa [half] using h
  | k + 1, hk => by
    have hl := cell_lev h
    have := up_ok (anc_ok h (k := k) (by omega)) (by omega)
    rw [show l - ((k + 1 : Nat) : Int) = l - k - 1 by omega]
    exact this
def intAt : Option Value → Int
  | some (.int _ n) => n
  | _ => 0
theorem keepF_cell {B g i : Nat} {W W' : World} (h : KeepF B W W') (hB : B ≤ g) (hg : g < W.heap.size) : W'.cell? ⟨g, i, none⟩ = W.cell? ⟨g, i, none⟩ := World.cell?_of_block (h.same g hB hg)
theorem keepF_frozen {B g i : Nat} {W W' : World} (h : KeepF B W W') (hB : B ≤ g) (hg : g < W.heap.size) : W'.frozen? ⟨g, i, none⟩ = W.frozen? ⟨g, i, none⟩ := World.frozen?_of_block (h.same g hB hg)

set_option maxRecDepth 100000 in
set_option maxHeartbeats 2000000 in
theorem up_seq {l x y : Int} (h : cellB l x y = true) (b : Nat) (w : World) (hb : b < w.heap.size)
    (c0 : w.cell? ⟨b, 0, none⟩ = some (.int .i64 l)) (c1 : w.cell? ⟨b, 1, none⟩ = some (.int .i64 x)) (c2 : w.cell? ⟨b, 2, none⟩ = some (.int .i64 y)) :
    UpSeq Try.prog 77 #[.pointer (some ⟨b, 0, none⟩)] (encU l x y) (l.toNat + 1) w.heap.size w := by
  intro lp J Jx W hW hB hJ hJx hY h0
  have d0 := (hW.cell (p := ⟨b, 0, none⟩) hb).trans c0
  have d1 := (hW.cell (p := ⟨b, 1, none⟩) hb).trans c1
  have d2 := (hW.cell (p := ⟨b, 2, none⟩) hb).trans c2
  obtain ⟨hl0, hl8⟩ := cell_lev h
  refine callsIn_of_wp Try.func77 rfl trivial ?_ rfl
  simp only [Try.ntmps77, List.size_toArray, List.length_cons, List.length_nil, Nat.reduceAdd, Nat.reduceSub, Array.replicate_succ, Array.replicate_zero, List.push_toArray, List.append_toArray, List.nil_append, List.cons_append]
  gi_wp2
  gi_loopw [] (fun wr => ∃ k : Nat, k ≤ l.toNat ∧ J k wr ∧ W.heap.size < wr.heap.size ∧ wr.cell? ⟨W.heap.size, 0, none⟩ = some (.int .i64 (l - k)) ∧ wr.cell? ⟨W.heap.size, 1, none⟩ = some (.int .i64 (half x k)) ∧ wr.cell? ⟨W.heap.size, 2, none⟩ = some (.int .i64 (half y k)) ∧ ∀ o, wr.frozen? ⟨W.heap.size, o, none⟩ = false)
    (fun wr => (intAt (wr.cell? ⟨W.heap.size, 0, none⟩)).toNat)
  case atStart =>
    refine ⟨0, by omega, hJ _ _ _ h0 (below_alloc1 _ _), by simp, ?_, ?_, ?_, ?_⟩
    · simp [go_sem]
    · simp [go_sem, half]
    · simp [go_sem, half]
    · intro o; exact World.frozen?_alloc_at _ _ _ _ rfl
  case round =>
    obtain ⟨k, hk, hj, hlt, e0, e1, e2, hf⟩ := hrel
    obtain ⟨fn, tmps, assign, body, hy, hR⟩ := hY k wr (by omega) hj
    dsimp only [encU] at hy
    gi_wp2
    refine hR.mono ?_
    rintro e W3 (⟨rfl, hJ3, hk3⟩ | ⟨rfl, hJx3⟩)
    · have hz3 := hk3.size
      have f0 := (keepF_cell (i := 0) hk3 hB hlt).trans e0
      have f1 := (keepF_cell (i := 1) hk3 hB hlt).trans e1
      have f2 := (keepF_cell (i := 2) hk3 hB hlt).trans e2
      have ff : ∀ o, W3.frozen? ⟨W.heap.size, o, none⟩ = false := fun o => (keepF_frozen hk3 hB hlt).trans (hf o)
      have hok := anc_ok h hk
      by_cases hz : 0 < l - (k : Int)
      · have hlu : uL (l - k) (half x k) (half y k) = l - ((k + 1 : Nat) : Int) := by simp only [uL, hok, if_true]; rw [if_neg (by omega)]; omega
        have hxu : uX (l - k) (half x k) (half y k) = half x (k + 1) := by simp only [uX, hok, if_true]; rw [if_neg (by omega)]; rfl
        have hyu : uY (l - k) (half x k) (half y k) = half y (k + 1) := by simp only [uY, hok, if_true]; rw [if_neg (by omega)]; rfl
        gi_wp2_with (refine ⟨trivial, ?_⟩; gi_at_call 74; refine (callsIn_wide.2 (iUp_any _ _ _ _)).mono ?_; rw [hlu, hxu, hyu]; rintro e w4 ⟨rfl, hb4⟩; have hz4 := hb4.size; have g0 := (hb4.cell (p := ⟨W.heap.size, 0, none⟩) (by show W.heap.size < W3.heap.size; omega)).trans f0; have g1 := (hb4.cell (p := ⟨W.heap.size, 1, none⟩) (by show W.heap.size < W3.heap.size; omega)).trans f1; have g2 := (hb4.cell (p := ⟨W.heap.size, 2, none⟩) (by show W.heap.size < W3.heap.size; omega)).trans f2; have gf : ∀ o, w4.frozen? ⟨W.heap.size, o, none⟩ = false := fun o => (hb4.frozen (p := ⟨W.heap.size, o, none⟩) (by show W.heap.size < W3.heap.size; omega)).trans (ff o))
        go_roundw
        case rel =>
          refine ⟨k + 1, by omega, hJ _ _ _ hJ3 (sc3 (hb4.mono (by omega)) (Nat.le_refl _)), by simp; omega, ?_, ?_, ?_, ?_⟩
          · go_simp
          · go_simp
          · go_simp
          · intro o; go_simp
        case measure =>
          have q : ∀ v, v = some (Value.int .i64 (l - ((k : Int) + 1))) → (intAt v).toNat < (intAt (some (.int .i64 (l - (k : Int))))).toNat := by rintro _ rfl; simp only [intAt]; omega
          rw [e0]
          exact q _ (by go_simp)
      · gi_wp2
        go_end0
        exact ⟨⟨_, rfl⟩, .inl (by rw [show l.toNat = k by omega]; exact hJ3)⟩
    · gi_wp2
      go_end0
      exact ⟨⟨_, rfl⟩, .inr ⟨k, by omega, hJx3⟩⟩

set_option maxHeartbeats 1000000 in
theorem upward_any (l x y : Int) (w : World) :
    Calls Try.prog 67 #[.agg #[.int .i64 l, .int .i64 x, .int .i64 y]] w fun e w' => e = .returned (.func (.func 77) #[] #[.pointer (some ⟨w.heap.size, 0, none⟩)]) ∧ w' = w.alloc (.cells #[.int .i64 l, .int .i64 x, .int .i64 y] 62) := by
  refine (callsIn_wide (n := 3)).1 ?_
  refine callsIn_of_wp Try.func67 rfl trivial ?_ rfl
  simp only [Try.ntmps67, List.size_toArray, List.length_cons, List.length_nil, Nat.reduceAdd, Nat.reduceSub, Array.replicate_succ, Array.replicate_zero, List.push_toArray, List.append_toArray, List.nil_append, List.cons_append]
  gi_wp2
  go_ret
  exact ⟨rfl, rfl⟩

/-- Whether the Cell (m, p, q) is the k-th around (l, x, y), k below N. -/
def isUp (l x y m p q : Int) : Nat → Bool
  | 0 => false
  | k + 1 => isUp l x y m p q k || (l - k == m && half x k == p && half y k == q)
end Go.Proofs.Ytkinbgcnenieeaa.M
