/-
  Arrays of four Cells compared.
-/
import Derived.Test.YtmfbkbifoehoeaaML4
import Derived.Laws.StructEq
namespace Go.Proofs.Ytmfbkbifoehoeaa.M
open Go.RowKit Go.Joins
attribute [local go_sem] Oper.semAt_some

def qe (l x y : Int) (i : Nat) : Value := .agg #[.int .i64 (l + 1), .int .i64 (2 * x + ((i % 2 : Nat) : Int)), .int .i64 (2 * y + ((i / 2 : Nat) : Int))]

set_option maxRecDepth 100000 in
set_option maxHeartbeats 2000000 in
theorem quart_stops {l x y : Int} (h : cellB l x y = true) (b : Nat) (w : World) (hb : b < w.heap.size)
    (c0 : w.cell? ⟨b, 0, none⟩ = some (.int .i64 l)) (c1 : w.cell? ⟨b, 1, none⟩ = some (.int .i64 x)) (c2 : w.cell? ⟨b, 2, none⟩ = some (.int .i64 y)) :
    SeqStopsK Fence.wide 2 Try.prog 39 #[.pointer (some ⟨b, 0, none⟩)] (fun i : Nat => #[qe l x y i]) (fun X Y => Y.heap[b]? = X.heap[b]?) (fun ys => ys = List.range 4) (fun _ => True) 4 w := by
  intro lp J Jx W hW _ _ hY h0
  have d0 := (hW.cell (p := ⟨b, 0, none⟩) hb).trans c0
  have d1 := (hW.cell (p := ⟨b, 1, none⟩) hb).trans c1
  have d2 := (hW.cell (p := ⟨b, 2, none⟩) hb).trans c2
  obtain ⟨g0, g8, hx, hx1, hy, hy1⟩ := cellB_t.mp h
  obtain ⟨p1, p2⟩ := pw g0 g8
  have f1 : wrap64 (l + 1) = l + 1 := w64 (by omega) (by omega)
  have f2 : wrap64 (2 * x) = 2 * x := w64 (by omega) (by omega)
  have f3 : wrap64 (2 * y) = 2 * y := w64 (by omega) (by omega)
  have hxb : x < 256 := by omega
  have hyb : y < 256 := by omega
  clear p1 p2 hx1 hy1
  refine callsIn_of_wp Try.func39 rfl trivial ?_ rfl
  simp only [Try.ntmps39, List.size_toArray, List.length_cons, List.length_nil, Nat.reduceAdd, Nat.reduceSub, Array.replicate_succ, Array.replicate_zero, List.push_toArray, List.append_toArray, List.nil_append, List.cons_append]
  gi_wp2
  gi_loopw [5] (fun i wr => ∃ k : Nat, k ≤ 2 ∧ i = .int .i64 k ∧ J (List.range (2 * k)) wr ∧ wr.heap[b]? = W.heap[b]?) (fun i _ => 2 - (intOf i).toNat)
  case atStart => exact ⟨0, by omega, rfl, h0, rfl⟩
  case round =>
    obtain ⟨k, hk, rfl, hj, hB⟩ := hrel
    by_cases hlt : k < 2
    · have hki : (k : Int) < 2 := by omega
      gi_wp2
      gi_loopw [8] (fun i wx => ∃ j : Nat, j ≤ 2 ∧ i = .int .i64 j ∧ J (List.range (2 * k + j)) wx ∧ wx.heap[b]? = W.heap[b]?) (fun i _ => 2 - (intOf i).toNat)
      case atStart => exact ⟨0, by omega, rfl, hj, hB⟩
      case round =>
        obtain ⟨j, hj2, rfl, hJ, hB2⟩ := hrel
        by_cases hlt2 : j < 2
        · have e0 := (World.cell?_of_block (a := ⟨b, 0, none⟩) hB2).trans d0
          have e1 := (World.cell?_of_block (a := ⟨b, 1, none⟩) hB2).trans d1
          have e2 := (World.cell?_of_block (a := ⟨b, 2, none⟩) hB2).trans d2
          obtain ⟨fn, tmps, assign, body, hy', hR⟩ := hY _ (2 * k + j) _ hJ (by simp; omega)
          have r1 : (2 * k + j) % 2 = j := by omega
          have r2 : (2 * k + j) / 2 = k := by omega
          have f4 : wrap64 (2 * x + (j : Int)) = 2 * x + j := w64 (by omega) (by omega)
          have f5 : wrap64 (2 * y + (k : Int)) = 2 * y + k := w64 (by omega) (by omega)
          rw [← List.range_succ] at hR
          dsimp only [qe] at hy'
          rw [r1, r2] at hy'
          gi_wp2
          refine hR.mono ?_
          rintro e W3 (⟨rfl, hJ3, hk3⟩ | ⟨rfl, hJx3⟩)
          · gi_wp2
            go_roundw
            case rel => exact ⟨j + 1, by omega, by go_num, hJ3, hk3.trans hB2⟩
            case measure => simp [intOf]; omega
          · gi_wp2
            refine bodyPost_ret (results_none rfl _ _ _) rfl ?_
            exact ⟨⟨_, rfl⟩, .inr ⟨_, trivial, hJx3⟩⟩
        · gi_wp2
          refine ⟨⟨k + 1, by omega, by go_num, ?_, hB2⟩, by simp [intOf]; omega⟩
          rw [show 2 * (k + 1) = 2 * k + j by omega]; exact hJ
    · gi_wp2
      go_end0
      obtain rfl : k = 2 := by omega
      exact ⟨⟨_, rfl⟩, .inl ⟨_, rfl, hj⟩⟩

set_option maxHeartbeats 1000000 in
theorem quarters_any (l x y : Int) (w : World) :
    Calls Try.prog 23 #[.agg #[.int .i64 l, .int .i64 x, .int .i64 y]] w fun e w' => e = .returned (.func (.func 39) #[] #[.pointer (some ⟨w.heap.size, 0, none⟩)]) ∧ w' = w.alloc (.cells #[.int .i64 l, .int .i64 x, .int .i64 y] 36) := by
  refine (callsIn_wide (n := 3)).1 ?_
  refine callsIn_of_wp Try.func23 rfl trivial ?_ rfl
  simp only [Try.ntmps23, List.size_toArray, List.length_cons, List.length_nil, Nat.reduceAdd, Nat.reduceSub, Array.replicate_succ, Array.replicate_zero, List.push_toArray, List.append_toArray, List.nil_append, List.cons_append]
  gi_wp2
  go_ret
  exact ⟨rfl, rfl⟩
end Go.Proofs.Ytmfbkbifoehoeaa.M
namespace Go.Proofs.Ytmfbkbifoehoeaa.M
open Go.RowKit Go.Joins
attribute [local go_sem] Oper.semAt_some

def qf (l x y : Int) (pre : List Nat) : List Value := pre.flatMap (qc l x y)
theorem qf_len (l x y : Int) : ∀ pre, (qf l x y pre).length = pre.length * 3
  | [] => rfl
  | a :: t => by have := qf_len l x y t; simp only [qf, List.flatMap_cons, List.length_append, List.length_cons] at this ⊢; rw [this]; simp [qc]; omega
theorem qf_snoc (l x y : Int) (pre : List Nat) (a : Nat) : qf l x y (pre ++ [a]) = qf l x y pre ++ qc l x y a := by simp [qf]
theorem qf_range (l x y : Int) : qf l x y (List.range 4) = qs l x y 4 := rfl

theorem row_own {X Y : World} {row : Option Nat} {base n : Nat} {v : Value} {xs : List Value} (h : X.ownsRow base 36 3 v n xs) (hg : X.grownBy Y row) (hr : ∀ r, row = some r → ∃ o : Obj, X.heap[r]? = some o ∧ o.isCells = false) : Y.ownsRow base 36 3 v n xs := by
  refine h.kept hg ?_
  rcases h.2 with ⟨rfl, _⟩ | ⟨g, cap, cur, rfl, _, hgb, _⟩
  · exact .inl rfl
  · refine .inr fun e' => ?_
    obtain ⟨o, ho, hc⟩ := hr g (by simpa [Value.ownBlock] using e'.symm)
    rw [hgb] at ho; cases ho; cases hc

theorem keeps_append {W w1 : World} {base n : Nat} {v : Value} {xs : List Value} {tmp : Obj} (hrow : W.ownsRow base 36 3 v n xs) (hgrow : (W.alloc tmp).grownBy w1 v.ownBlock) : KeepsOthers W w1 := by
  refine (KeepsOthers.alloc W tmp).trans (KeepsOthers.of_grownBy hgrow fun j o ej hj => ?_)
  rcases (hrow.alloc tmp).2 with ⟨rfl, _⟩ | ⟨g, cap, cur, rfl, _, hgb, _⟩
  · simp [Value.ownBlock] at ej
  · obtain rfl : g = j := by simpa [Value.ownBlock] using ej
    rw [hgb] at hj; cases hj; rfl

set_option maxRecDepth 100000 in
set_option maxHeartbeats 2000000 in
theorem iQuarters_yes {l x y : Int} (h : cellB l x y = true) (hl : l ≠ 8) (w : World) :
    Calls Try.prog 12 #[.agg #[.int .i64 l, .int .i64 x, .int .i64 y]] w fun e w' => ∃ g cap, e = .returned (.slice (some ⟨g, 0, none⟩) 4 cap) ∧ w.heap.size ≤ g ∧ 4 ≤ cap ∧ St w w' [(g, qs l x y 4)] := by
  obtain ⟨i0, hi, hz0, hz1, hz2⟩ := info_parts info36
  have hl8 : (l == 8) = false := by simpa using hl
  have hs := St.nil w
  refine (callsIn_wide (n := 3)).1 ?_
  refine callsIn_of_wp_marks Try.func12 rfl trivial ?_ rfl
  simp only [Try.ntmps12, List.size_toArray, List.length_cons, List.length_nil, Nat.reduceAdd, Nat.reduceSub, Array.replicate_succ, Array.replicate_zero, List.push_toArray, List.append_toArray, List.nil_append, List.cons_append]
  gi_wp2_with (first | (refine ⟨trivial, ?_⟩; gi_at_call 22; refine (callsIn_wide.2 (isRight_v h _)).mono ?_; rintro e w1 ⟨rfl, hb2⟩; (first | replace hs := hs.step hb2 | replace hs := (hs.push _ _).step hb2); (try simp only [World.size_alloc] at hs); (try clear hk); have hk := hs.has; simp [Has, HasAt] at hk) | (refine ⟨trivial, ?_⟩; gi_at_call 23; refine (callsIn_wide.2 (quarters_any _ _ _ _)).mono ?_; rintro e w2 ⟨rfl, rfl⟩))
  have hs0 := ((hs.push [.slice none 0 0] 41).push [.int .i64 l, .int .i64 x, .int .i64 y] 36)
  simp only [World.size_alloc] at hs0
  replace hs0 := hs0.sub (l' := [(w1.heap.size, [.slice none 0 0]), (w1.heap.size + 1, [.int .i64 l, .int .i64 x, .int .i64 y])]) (by simp)
  have hw1 : w.heap.size ≤ w1.heap.size := hs.size
  clear hk hs hb2
  generalize (w1.alloc _).alloc _ = W0 at hs0 ⊢
  generalize w1.heap.size = b3 at hs0 hw1 ⊢
  have hk0 := hs0.has
  simp [Has, HasAt] at hk0
  have hzs := hs0.size
  have lt3 : b3 < W0.heap.size := hk0.1.1
  have lt4 : b3 + 1 < W0.heap.size := hk0.2.1
  refine wpIn_rangeFunc_ownH rfl (by decide) (gf := 39) (lb := #[.pointer (some ⟨b3 + 1, 0, none⟩)]) rfl trivial (enters_of Try.func39 (by kernel_rfl) rfl)
    (quart_stops h (b3 + 1) W0 lt4 hk0.2.2.2.1 hk0.2.2.2.2.1 hk0.2.2.2.2.2) (fun h k => k.trans h) (fun W l o o' hl _ _ _ => World.putObj_heap_other (by omega)) (Below.refl _ _) (fun _ => rfl)
    (fun pre W => W0.heap.size ≤ W.heap.size ∧ ∃ v, W.ownsRow W0.heap.size 36 3 v pre.length (qf l x y pre) ∧ St w W [(b3, [v]), (b3 + 1, [.int .i64 l, .int .i64 x, .int .i64 y])])
    (fun _ _ _ => False)
    ?own (fun _ _ _ _ _ hs _ _ => hs)
    ⟨Nat.le_refl _, _, World.ownsRow_nil _ _ _ _, hs0⟩
    (fun i a' W => ∃ vb, W0.heap.size ≤ vb ∧ W.heap[vb]? = some (.cells (qc l x y i).toArray 36 (0, 0)) ∧ a' = { defers := [], tmps := #[Value.agg #[Value.int IntKind.i64 l, Value.int IntKind.i64 x, Value.int IntKind.i64 y],
          Value.pointer (some { block := w.heap.size, off := 0 }), Value.slice none 0 0,
          Value.pointer (some { block := b3, off := 0 }), Value.pointer (some { block := vb, off := 0 }),
          Value.agg #[Value.int IntKind.i64 l, Value.int IntKind.i64 x, Value.int IntKind.i64 y], Value.bool true,
          Value.bool false, Value.bool false, Value.pointer (some { block := w.heap.size, off := 0 }),
          Value.int IntKind.i64 l, Value.bool false, Value.bool false,
          Value.agg #[Value.int IntKind.i64 l, Value.int IntKind.i64 x, Value.int IntKind.i64 y],
          Value.func (Fn.func 39) #[] #[Value.pointer (some { block := b3 + 1, off := 0 })], qe l x y i, undef, undef,
          undef, undef, undef] })
    ?ownA ?assign ?body ?done ?stop
  case own =>
    rintro s X Y row ⟨hz, v, hr, hst⟩ hg hrw
    exact ⟨Nat.le_trans hz hg.size, v, row_own hr hg (fun r e => (hrw r e).2), hst.grown hg (fun r e => ⟨by have := (hrw r e).1; omega, fun p hp => by simp at hp; have := (hrw r e).1; rcases hp with rfl | rfl <;> (show _ ≠ r; omega)⟩)⟩
  case ownA =>
    rintro i a' _ X Y row ⟨vb, h1, h2, h3⟩ hg hr
    refine ⟨vb, h1, (hg.block vb (Array.getElem?_eq_some_iff.1 h2).1 (fun e => ?_)).trans h2, h3⟩
    obtain ⟨o, ho, hc⟩ := (hr vb e.symm).2
    rw [h2] at ho; cases ho; cases hc
  case assign =>
    rintro l1 pre i W K ⟨hz, v, hr, hst⟩ hK
    simp only [qe] at hK ⊢
    gi_wp2
    exact hK _ _ ((KeepsOthers.alloc _ _).from _) (Below.heap_alloc _ _ _ (by omega)) ⟨by simp; omega, v, hr.alloc _, hst.al _⟩ ⟨W.heap.size, hz, World.alloc_heap_new _ _, rfl⟩
  case body =>
    rintro l1 pre i a' W hl1 hlr ⟨hz, v, hrow, hst⟩ ⟨vb, hvb, hvh, rfl⟩ hlen
    have hk1 := hst.has
    simp [Has, HasAt] at hk1
    have v0 : W.cell? ⟨vb, 0, none⟩ = some (.int .i64 (l + 1)) := by simp [World.cell?, hvh, qc]
    have v1 : W.cell? ⟨vb, 1, none⟩ = some (.int .i64 (2 * x + ((i % 2 : Nat) : Int))) := by simp [World.cell?, hvh, qc]
    have v2 : W.cell? ⟨vb, 2, none⟩ = some (.int .i64 (2 * y + ((i / 2 : Nat) : Int))) := by simp [World.cell?, hvh, qc]
    gi_wp2_with (gi_at_builtin; refine wpListIn_append_own _ rfl _ _ 41 rfl W0.heap.size 36 i0 (.agg #[.int .i64 0, .int .i64 0, .int .i64 0]) 3 24 Try.underlying41 hi hz0 hz1 hz2 rfl (by decide) _ _ _ rfl (hrow.alloc _) ⟨W.heap.size, 0, none⟩ 1 1 (qc l x y i) rfl rfl (cell_three_new _ _ _ _ _) (fun u hu => by simp [qc] at hu; rcases hu with rfl | rfl | rfl <;> rfl) (by unfold maxLen; omega) (by omega) (by simp; omega) ?_; intro v' w3 hown' hgrow _; obtain ⟨g', cap', rfl⟩ := ownsRow_succ hown'; have hst3 := (hst.al _).grown hgrow (fun r e => ⟨by have := hrow.lt r e; omega, fun p hp => by simp at hp; have := hrow.lt r e; rcases hp with rfl | rfl <;> (show _ ≠ r; omega)⟩); have hk3 := hst3.has; simp [Has, HasAt] at hk3)
    have hg' : W0.heap.size ≤ g' := (hown'.lt g' rfl).1
    have hne : ∀ r, v.ownBlock = some r → b3 + 1 < r := fun r e => by have := hrow.lt r e; omega
    refine ⟨((keeps_append hrow hgrow).trans (KeepsOthers.setCell _ _ _)).from _, ?_, ?_, _, ?_, hst3.set1 _ hw1 (by simp)⟩
    · refine (Below.heap_setCell w3 ⟨b3, 0, none⟩ _ (b3 + 1) (by show b3 + 1 ≠ b3; omega)).trans ((hgrow.block (b3 + 1) (by simp; omega) (fun e => ?_)).trans (Below.heap_alloc W _ (b3 + 1) (by omega)))
      have := hne _ e.symm
      omega
    · have := hgrow.size; simp at this; simp; omega
    · rw [qf_snoc, List.length_append]
      exact hown'.kept (grownBy_setCell' w3 b3 _) (.inr (by simp [Value.ownBlock]; omega))
  case done =>
    rintro D ys W hD rfl ⟨hz, v, hrow, hst⟩ hK
    have hk1 := hst.has
    simp [Has, HasAt] at hk1
    gi_wp2
    refine ⟨by simp, .inl ⟨_, _, rfl, run_takeDeferred hK, ?_⟩⟩
    have hrow2 := ownsRow_putObj hrow (.deferred none) hK rfl
    rw [qf_range] at hrow2
    obtain ⟨g, cap, rfl, hg, hc, hS⟩ := row_St (n := 3) hrow2 (hst.bel.trans (below_putObj _ _ (by omega)))
    exact ⟨_, results_tmp rfl _ _ _, g, cap, rfl, by omega, hc, hS⟩
  case stop =>
    rintro D c pre W _ _ h _
    exact h.elim

set_option maxHeartbeats 1000000 in
theorem iQuarters_no {l x y : Int} (h : cellB l x y = false ∨ l = 8) (w : World) :
    Calls Try.prog 12 #[.agg #[.int .i64 l, .int .i64 x, .int .i64 y]] w fun e w' => e = .returned (.slice none 0 0) ∧ Below w.heap.size w w' := by
  have hs := St.nil w
  cases hv : cellB l x y
  · go_enter Try.func12, Try.ntmps12
    go_wp2_with (go_at_call 22; refine (isRight_v hv _).mono ?_; rintro e w1 ⟨rfl, hb2⟩; (first | replace hs := hs.step hb2 | replace hs := (hs.push _ _).step hb2 | replace hs := ((hs.push _ _).push _ _).step hb2); (try simp only [World.size_alloc] at hs); (try clear hk); have hk := hs.has; simp [Has, HasAt] at hk)
    go_ret
    exact ⟨rfl, hs.bel⟩
  · obtain rfl : l = 8 := by rcases h with h | h; (rw [hv] at h; cases h); exact h
    go_enter Try.func12, Try.ntmps12
    go_wp2_with (go_at_call 22; refine (isRight_v hv _).mono ?_; rintro e w1 ⟨rfl, hb2⟩; (first | replace hs := hs.step hb2 | replace hs := (hs.push _ _).step hb2 | replace hs := ((hs.push _ _).push _ _).step hb2); (try simp only [World.size_alloc] at hs); (try clear hk); have hk := hs.has; simp [Has, HasAt] at hk)
    go_ret
    exact ⟨rfl, hs.bel⟩
end Go.Proofs.Ytmfbkbifoehoeaa.M
namespace Go.Proofs.Ytmfbkbifoehoeaa.M
open Go.RowKit Go.Joins

def eqT (a b : T3) : Bool := a.l == b.l && (a.x == b.x && a.y == b.y)
theorem eqT_iff {a b : T3} : eqT a b = true ↔ a = b := by
  obtain ⟨l, x, y⟩ := a
  obtain ⟨l', x', y'⟩ := b
  simp [eqT]
theorem run_eq38 (d : Nat) (a b : T3) (w : World) : (Op.equalIn (d + 1 + 1) 36 (.agg #[.int .i64 a.l, .int .i64 a.x, .int .i64 a.y]) (.agg #[.int .i64 b.l, .int .i64 b.x, .int .i64 b.y])).run Try.prog w = .ok (eqT a b) w := by
  have u2 := Try.underlying2
  have a2 := Try.isAgg2
  have z2 := Try.sizeOf2
  have hS : Try.prog.underlying 36 = some (.struct (Try.prog.fieldsOf 36)) := by kernel_rfl
  have hp : Try.prog.stoodInHeld 36 = false := by kernel_rfl
  rw [run_equalIn_agg w (d + 1) 36 _ _ hS hp]
  simp only [Program.fieldsOf, Try.underlying36]
  unfold eqT
  go_simp
  by_cases h1 : a.l = b.l <;> by_cases h2 : a.x = b.x <;> by_cases h3 : a.y = b.y <;> simp [h1, h2, h3]
end Go.Proofs.Ytmfbkbifoehoeaa.M
