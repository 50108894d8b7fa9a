/-
  The program's Cover: a closure that calls itself goes down; first its parts.
-/
import Derived.Test.YthmpemamagjeeaaK2
import Derived.Test.YthmpemamagjeeaaQ3
namespace Go.Proofs.Ythmpemamagjeeaa
open Go.RowKit Go.Joins
attribute [local go_sem] Oper.semAt_some

/-- The box lb holds the list, v at first, v' now, which reads M; nothing else of W has turned. -/
structure ExtB (base lb : Nat) (W : World) (v : Value) (W' : World) (v' : Value) (M : List T3) : Prop where
  own : Ow W' base v' M
  os : W'.os = W.os
  tape : W'.tape = W.tape
  output : W'.output = W.output
  size : W.heap.size ≤ W'.heap.size
  block : ∀ k, k < W.heap.size → k ≠ lb → v.ownBlock ≠ some k → W'.heap[k]? = W.heap[k]?
  lies : ∀ g, v'.ownBlock = some g → v.ownBlock = some g ∨ W.heap.size ≤ g
  box : Has W' [(lb, [v'])]
theorem ExtB.refl {base lb : Nat} {W : World} {v : Value} {M : List T3} (h : Ow W base v M) (hb : Has W [(lb, [v])]) : ExtB base lb W v W v M := ⟨h, rfl, rfl, rfl, Nat.le_refl _, fun _ _ _ _ => rfl, fun _ e => .inl e, hb⟩
theorem ExtB.trans {base lb : Nat} {A B C : World} {u v z : Value} {M N : List T3} (h : ExtB base lb A u B v M) (k : ExtB base lb B v C z N) : ExtB base lb A u C z N := by
  refine ⟨k.own, k.os.trans h.os, k.tape.trans h.tape, k.output.trans h.output, Nat.le_trans h.size k.size, fun i hi h1 h2 => ?_, fun g e => ?_, k.box⟩
  · refine (k.block i (Nat.lt_of_lt_of_le hi h.size) h1 (fun e => ?_)).trans (h.block i hi h1 h2)
    rcases h.lies i e with e2 | e2
    · exact h2 e2
    · omega
  · rcases k.lies g e with e2 | e2
    · exact h.lies g e2
    · exact .inr (Nat.le_trans h.size e2)
theorem ExtB.ahead {base lb : Nat} {W W1 W' : World} {v v' : Value} {M : List T3} (hb : Below W.heap.size W W1) (h : ExtB base lb W1 v W' v' M) : ExtB base lb W v W' v' M :=
  ⟨h.own, h.os.trans hb.os, h.tape.trans hb.tape, h.output.trans hb.output, Nat.le_trans hb.size h.size, fun k hk h1 h2 => (h.block k (Nat.lt_of_lt_of_le hk hb.size) h1 h2).trans (hb.block k hk), fun g e => (h.lies g e).imp id (fun e2 => Nat.le_trans hb.size e2), h.box⟩
theorem ExtB.behind {base lb : Nat} {W W1 W' : World} {v v' : Value} {M : List T3} (h : ExtB base lb W v W1 v' M) (hb : Below W1.heap.size W1 W') : ExtB base lb W v W' v' M :=
  ⟨own_of_below h.own hb, hb.os.trans h.os, hb.tape.trans h.tape, hb.output.trans h.output, Nat.le_trans h.size hb.size, fun k hk h1 h2 => (hb.block k (Nat.lt_of_lt_of_le hk h.size)).trans (h.block k hk h1 h2), h.lies, h.box.step hb⟩
theorem Has.same {X Y : World} (hs : X.heap.size ≤ Y.heap.size) : ∀ {l : List (Nat × List Value)}, Has X l → (∀ p ∈ l, Y.heap[p.1]? = X.heap[p.1]?) → Has Y l
  | [], _, _ => trivial
  | p :: _, ⟨⟨h1, h2, h3⟩, t⟩, hd => ⟨⟨Nat.lt_of_lt_of_le h1 hs, fun o => (World.frozen?_of_block (hd p (List.mem_cons_self ..))).trans (h2 o), HasAt.grown (hd p (List.mem_cons_self ..)) h3⟩, Has.same hs t (fun q hq => hd q (List.mem_cons_of_mem _ hq))⟩
theorem ExtB.has {base lb : Nat} {W W' : World} {v v' : Value} {M : List T3} (h : ExtB base lb W v W' v' M) {l : List (Nat × List Value)} (hh : Has W l) (hd : ∀ p ∈ l, p.1 ≠ lb ∧ v.ownBlock ≠ some p.1) : Has W' l :=
  hh.same h.size (fun p hp => h.block p.1 (hh.mem hp).1 (hd p hp).1 (hd p hp).2)
theorem has_cells {W : World} {b : Nat} {u : Value} {o : Obj} (h : Has W [(b, [u])]) (ho : W.heap[b]? = some o) : o.isCells = true := by
  have := h.1.2.2.1
  rw [World.cell?, ho] at this
  cases o <;> simp at this
  rfl
theorem ow_cells {W : World} {base : Nat} {v : Value} {M : List T3} (h : Ow W base v M) {g : Nat} (e : v.ownBlock = some g) {o : Obj} (ho : W.heap[g]? = some o) : o.isCells = true := by
  rcases h.2 with ⟨rfl, _⟩ | ⟨g', cap, cur, rfl, _, hgb, _⟩
  · cases e
  · simp [Value.ownBlock] at e; subst e; rw [hgb] at ho; cases ho; rfl
theorem ExtB.keeps {base lb : Nat} {W W' : World} {v v' : Value} {M N : List T3} (h : ExtB base lb W v W' v' M) (hb : Has W [(lb, [v])]) (ho : Ow W base v N) : KeepsOthers W W' :=
  ⟨h.size, fun k o hk hc => by
    have hlt := (Array.getElem?_eq_some_iff.1 hk).1
    refine (h.block k hlt (fun e => ?_) (fun e => ?_)).trans hk
    · subst e; rw [has_cells hb hk] at hc; cases hc
    · rw [ow_cells ho e hk] at hc; cases hc⟩
theorem ExtB.grow {base lb : Nat} {W X Y : World} {v v' : Value} {M : List T3} {row : Option Nat} (h : ExtB base lb W v X v' M) (hg : X.grownBy Y row) (hr : ∀ r, row = some r → W.heap.size ≤ r ∧ ∃ o : Obj, X.heap[r]? = some o ∧ o.isCells = false) : ExtB base lb W v Y v' M := by
  refine ⟨?_, hg.os.trans h.os, hg.tape.trans h.tape, hg.output.trans h.output, Nat.le_trans h.size hg.size, fun k hk h1 h2 => ?_, h.lies, ?_⟩
  · exact row_own h.own hg (fun r e => (hr r e).2)
  · refine (hg.block k (Nat.lt_of_lt_of_le hk h.size) (fun e => ?_)).trans (h.block k hk h1 h2)
    have := (hr k e.symm).1; omega
  · refine h.box.grown hg (fun p hp e => ?_)
    obtain ⟨o, ho, hc⟩ := (hr _ e).2
    simp at hp; subst hp
    rw [has_cells h.box ho] at hc; cases hc

theorem four_take {n : Nat} (h : n < 4) : (List.finRange 4).take (n + 1) = (List.finRange 4).take n ++ [(⟨n, h⟩ : Fin 4)] := by
  have : n = 0 ∨ n = 1 ∨ n = 2 ∨ n = 3 := by omega
  rcases this with rfl | rfl | rfl | rfl <;> rfl

set_option maxRecDepth 100000 in
set_option maxHeartbeats 2000000 in
theorem quart_stopsF {l x y : Int} (h : cellB l x y = true) (b : Nat) (w : World) (hb : b < w.heap.size)
    (c0 : w.cell? ⟨b, 0, none⟩ = some (.int .i64 l)) (c1 : w.cell? ⟨b, 1, none⟩ = some (.int .i64 x)) (c2 : w.cell? ⟨b, 2, none⟩ = some (.int .i64 y)) :
    SeqStopsK Fence.wide 2 Try.prog 78 #[.pointer (some ⟨b, 0, none⟩)] (fun i : Fin 4 => #[qe l x y i.val]) (fun X Y => Y.heap[b]? = X.heap[b]?) (fun ys => ys = List.finRange 4) (fun _ => True) 4 w := by
  intro lp J Jx W hW _ _ hY h0
  have d0 := (hW.cell (p := ⟨b, 0, none⟩) hb).trans c0
  have d1 := (hW.cell (p := ⟨b, 1, none⟩) hb).trans c1
  have d2 := (hW.cell (p := ⟨b, 2, none⟩) hb).trans c2
  obtain ⟨g0, g8, hx, hx1, hy, hy1⟩ := cellB_t.mp h
  obtain ⟨p1, p2⟩ := pw g0 g8
  have f1 : wrap64 (l + 1) = l + 1 := w64 (by omega) (by omega)
  have f2 : wrap64 (2 * x) = 2 * x := w64 (by omega) (by omega)
  have f3 : wrap64 (2 * y) = 2 * y := w64 (by omega) (by omega)
  have hxb : x < 256 := by omega
  have hyb : y < 256 := by omega
  clear p1 p2 hx1 hy1
  refine callsIn_of_wp Try.func78 rfl trivial ?_ rfl
  simp only [Try.ntmps78, List.size_toArray, List.length_cons, List.length_nil, Nat.reduceAdd, Nat.reduceSub, Array.replicate_succ, Array.replicate_zero, List.push_toArray, List.append_toArray, List.nil_append, List.cons_append]
  gi_wp2
  gi_loopw [5] (fun i wr => ∃ k : Nat, k ≤ 2 ∧ i = .int .i64 k ∧ J ((List.finRange 4).take (2 * k)) wr ∧ wr.heap[b]? = W.heap[b]?) (fun i _ => 2 - (intOf i).toNat)
  case atStart => exact ⟨0, by omega, rfl, h0, rfl⟩
  case round =>
    obtain ⟨k, hk, rfl, hj, hB⟩ := hrel
    by_cases hlt : k < 2
    · have hki : (k : Int) < 2 := by omega
      gi_wp2
      gi_loopw [8] (fun i wx => ∃ j : Nat, j ≤ 2 ∧ i = .int .i64 j ∧ J ((List.finRange 4).take (2 * k + j)) wx ∧ wx.heap[b]? = W.heap[b]?) (fun i _ => 2 - (intOf i).toNat)
      case atStart => exact ⟨0, by omega, rfl, hj, hB⟩
      case round =>
        obtain ⟨j, hj2, rfl, hJ, hB2⟩ := hrel
        by_cases hlt2 : j < 2
        · have e0 := (World.cell?_of_block (a := ⟨b, 0, none⟩) hB2).trans d0
          have e1 := (World.cell?_of_block (a := ⟨b, 1, none⟩) hB2).trans d1
          have e2 := (World.cell?_of_block (a := ⟨b, 2, none⟩) hB2).trans d2
          obtain ⟨fn, tmps, assign, body, hy', hR⟩ := hY _ (⟨2 * k + j, by omega⟩ : Fin 4) _ hJ (by simp; omega)
          have r1 : (2 * k + j) % 2 = j := by omega
          have r2 : (2 * k + j) / 2 = k := by omega
          have f4 : wrap64 (2 * x + (j : Int)) = 2 * x + j := w64 (by omega) (by omega)
          have f5 : wrap64 (2 * y + (k : Int)) = 2 * y + k := w64 (by omega) (by omega)
          rw [← four_take] at hR
          dsimp only [qe] at hy'
          rw [r1, r2] at hy'
          gi_wp2
          refine hR.mono ?_
          rintro e W3 (⟨rfl, hJ3, hk3⟩ | ⟨rfl, hJx3⟩)
          · gi_wp2
            go_roundw
            case rel => exact ⟨j + 1, by omega, by go_num, hJ3, hk3.trans hB2⟩
            case measure => simp [intOf]; omega
          · gi_wp2
            refine bodyPost_ret (results_none rfl _ _ _) rfl ?_
            exact ⟨⟨_, rfl⟩, .inr ⟨_, trivial, hJx3⟩⟩
        · gi_wp2
          refine ⟨⟨k + 1, by omega, by go_num, ?_, hB2⟩, by simp [intOf]; omega⟩
          rw [show 2 * (k + 1) = 2 * k + j by omega]; exact hJ
    · gi_wp2
      go_end0
      obtain rfl : k = 2 := by omega
      exact ⟨⟨_, rfl⟩, .inl ⟨_, rfl, hj⟩⟩
end Go.Proofs.Ythmpemamagjeeaa
