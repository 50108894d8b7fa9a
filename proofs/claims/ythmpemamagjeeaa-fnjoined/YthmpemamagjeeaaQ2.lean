/-
  The iterator quarters: it hands out the four quarters of a Cell, in order.
-/
import Derived.Test.YthmpemamagjeeaaQ1
namespace Go.Proofs.Ythmpemamagjeeaa
open Go.RowKit Go.Joins
attribute [local go_sem] Oper.semAt_some

def qe (l x y : Int) (i : Nat) : Value := .agg #[.int .i64 (l + 1), .int .i64 (2 * x + ((i % 2 : Nat) : Int)), .int .i64 (2 * y + ((i / 2 : Nat) : Int))]

set_option maxRecDepth 100000 in
set_option maxHeartbeats 2000000 in
theorem quart_stops {l x y : Int} (h : cellB l x y = true) (b : Nat) (w : World) (hb : b < w.heap.size)
    (c0 : w.cell? ⟨b, 0, none⟩ = some (.int .i64 l)) (c1 : w.cell? ⟨b, 1, none⟩ = some (.int .i64 x)) (c2 : w.cell? ⟨b, 2, none⟩ = some (.int .i64 y)) :
    SeqStopsK Fence.wide 2 Try.prog 78 #[.pointer (some ⟨b, 0, none⟩)] (fun i : Nat => #[qe l x y i]) (fun X Y => Y.heap[b]? = X.heap[b]?) (fun ys => ys = List.range 4) (fun _ => True) 4 w := by
  intro lp J Jx W hW _ _ hY h0
  have d0 := (hW.cell (p := ⟨b, 0, none⟩) hb).trans c0
  have d1 := (hW.cell (p := ⟨b, 1, none⟩) hb).trans c1
  have d2 := (hW.cell (p := ⟨b, 2, none⟩) hb).trans c2
  obtain ⟨g0, g8, hx, hx1, hy, hy1⟩ := cellB_t.mp h
  obtain ⟨p1, p2⟩ := pw g0 g8
  have f1 : wrap64 (l + 1) = l + 1 := w64 (by omega) (by omega)
  have f2 : wrap64 (2 * x) = 2 * x := w64 (by omega) (by omega)
  have f3 : wrap64 (2 * y) = 2 * y := w64 (by omega) (by omega)
  have hxb : x < 256 := by omega
  have hyb : y < 256 := by omega
  clear p1 p2 hx1 hy1
  refine callsIn_of_wp Try.func78 rfl trivial ?_ rfl
  simp only [Try.ntmps78, List.size_toArray, List.length_cons, List.length_nil, Nat.reduceAdd, Nat.reduceSub, Array.replicate_succ, Array.replicate_zero, List.push_toArray, List.append_toArray, List.nil_append, List.cons_append]
  gi_wp2
  gi_loopw [5] (fun i wr => ∃ k : Nat, k ≤ 2 ∧ i = .int .i64 k ∧ J (List.range (2 * k)) wr ∧ wr.heap[b]? = W.heap[b]?) (fun i _ => 2 - (intOf i).toNat)
  case atStart => exact ⟨0, by omega, rfl, h0, rfl⟩
  case round =>
    obtain ⟨k, hk, rfl, hj, hB⟩ := hrel
    by_cases hlt : k < 2
    · have hki : (k : Int) < 2 := by omega
      gi_wp2
      gi_loopw [8] (fun i wx => ∃ j : Nat, j ≤ 2 ∧ i = .int .i64 j ∧ J (List.range (2 * k + j)) wx ∧ wx.heap[b]? = W.heap[b]?) (fun i _ => 2 - (intOf i).toNat)
      case atStart => exact ⟨0, by omega, rfl, hj, hB⟩
      case round =>
        obtain ⟨j, hj2, rfl, hJ, hB2⟩ := hrel
        by_cases hlt2 : j < 2
        · have e0 := (World.cell?_of_block (a := ⟨b, 0, none⟩) hB2).trans d0
          have e1 := (World.cell?_of_block (a := ⟨b, 1, none⟩) hB2).trans d1
          have e2 := (World.cell?_of_block (a := ⟨b, 2, none⟩) hB2).trans d2
          obtain ⟨fn, tmps, assign, body, hy', hR⟩ := hY _ (2 * k + j) _ hJ (by simp; omega)
          have r1 : (2 * k + j) % 2 = j := by omega
          have r2 : (2 * k + j) / 2 = k := by omega
          have f4 : wrap64 (2 * x + (j : Int)) = 2 * x + j := w64 (by omega) (by omega)
          have f5 : wrap64 (2 * y + (k : Int)) = 2 * y + k := w64 (by omega) (by omega)
          rw [← List.range_succ] at hR
          dsimp only [qe] at hy'
          rw [r1, r2] at hy'
          gi_wp2
          refine hR.mono ?_
          rintro e W3 (⟨rfl, hJ3, hk3⟩ | ⟨rfl, hJx3⟩)
          · gi_wp2
            go_roundw
            case rel => exact ⟨j + 1, by omega, by go_num, hJ3, hk3.trans hB2⟩
            case measure => simp [intOf]; omega
          · gi_wp2
            refine bodyPost_ret (results_none rfl _ _ _) rfl ?_
            exact ⟨⟨_, rfl⟩, .inr ⟨_, trivial, hJx3⟩⟩
        · gi_wp2
          refine ⟨⟨k + 1, by omega, by go_num, ?_, hB2⟩, by simp [intOf]; omega⟩
          rw [show 2 * (k + 1) = 2 * k + j by omega]; exact hJ
    · gi_wp2
      go_end0
      obtain rfl : k = 2 := by omega
      exact ⟨⟨_, rfl⟩, .inl ⟨_, rfl, hj⟩⟩

set_option maxHeartbeats 1000000 in
theorem quarters_any (l x y : Int) (w : World) :
    Calls Try.prog 46 #[.agg #[.int .i64 l, .int .i64 x, .int .i64 y]] w fun e w' => e = .returned (.func (.func 78) #[] #[.pointer (some ⟨w.heap.size, 0, none⟩)]) ∧ w' = w.alloc (.cells #[.int .i64 l, .int .i64 x, .int .i64 y] 38) := by
  refine (callsIn_wide (n := 3)).1 ?_
  refine callsIn_of_wp Try.func46 rfl trivial ?_ rfl
  simp only [Try.ntmps46, List.size_toArray, List.length_cons, List.length_nil, Nat.reduceAdd, Nat.reduceSub, Array.replicate_succ, Array.replicate_zero, List.push_toArray, List.append_toArray, List.nil_append, List.cons_append]
  gi_wp2
  go_ret
  exact ⟨rfl, rfl⟩
end Go.Proofs.Ythmpemamagjeeaa
