/-
  The quarters of a Cell, as a list of one's own.
-/
import Derived.Test.YtmfbkbifoehoeaaMA4
import Derived.Laws.StructEq
namespace Go.Proofs.Ytmfbkbifoehoeaa.M
open Go.RowKit Go.Joins
attribute [local go_sem] Oper.semAt_some

set_option maxRecDepth 100000 in
set_option maxHeartbeats 2000000 in
theorem iQuarters_own {l x y : Int} (h : cellB l x y = true) (hl : l ≠ 8) (w : World) :
    Calls Try.prog 12 #[.agg #[.int .i64 l, .int .i64 x, .int .i64 y]] w fun e w' => ∃ g cap B, e = .returned (.slice (some ⟨g, 0, none⟩) 4 cap) ∧ w.heap.size ≤ B ∧ w'.ownsRow B 36 3 (.slice (some ⟨g, 0, none⟩) 4 cap) 4 (qs l x y 4) ∧ Below w.heap.size w w' := by
  obtain ⟨i0, hi, hz0, hz1, hz2⟩ := info_parts info36
  have hl8 : (l == 8) = false := by simpa using hl
  have hs := St.nil w
  refine (callsIn_wide (n := 3)).1 ?_
  refine callsIn_of_wp_marks Try.func12 rfl trivial ?_ rfl
  simp only [Try.ntmps12, List.size_toArray, List.length_cons, List.length_nil, Nat.reduceAdd, Nat.reduceSub, Array.replicate_succ, Array.replicate_zero, List.push_toArray, List.append_toArray, List.nil_append, List.cons_append]
  gi_wp2_with (first | (refine ⟨trivial, ?_⟩; gi_at_call 22; refine (callsIn_wide.2 (isRight_v h _)).mono ?_; rintro e w1 ⟨rfl, hb2⟩; (first | replace hs := hs.step hb2 | replace hs := (hs.push _ _).step hb2); (try simp only [World.size_alloc] at hs); (try clear hk); have hk := hs.has; simp [Has, HasAt] at hk) | (refine ⟨trivial, ?_⟩; gi_at_call 23; refine (callsIn_wide.2 (quarters_any _ _ _ _)).mono ?_; rintro e w2 ⟨rfl, rfl⟩))
  have hs0 := ((hs.push [.slice none 0 0] 41).push [.int .i64 l, .int .i64 x, .int .i64 y] 36)
  simp only [World.size_alloc] at hs0
  replace hs0 := hs0.sub (l' := [(w1.heap.size, [.slice none 0 0]), (w1.heap.size + 1, [.int .i64 l, .int .i64 x, .int .i64 y])]) (by simp)
  have hw1 : w.heap.size ≤ w1.heap.size := hs.size
  clear hk hs hb2
  generalize (w1.alloc _).alloc _ = W0 at hs0 ⊢
  generalize w1.heap.size = b3 at hs0 hw1 ⊢
  have hk0 := hs0.has
  simp [Has, HasAt] at hk0
  have hzs := hs0.size
  have lt3 : b3 < W0.heap.size := hk0.1.1
  have lt4 : b3 + 1 < W0.heap.size := hk0.2.1
  refine wpIn_rangeFunc_ownH rfl (by decide) (gf := 39) (lb := #[.pointer (some ⟨b3 + 1, 0, none⟩)]) rfl trivial (enters_of Try.func39 (by kernel_rfl) rfl)
    (quart_stops h (b3 + 1) W0 lt4 hk0.2.2.2.1 hk0.2.2.2.2.1 hk0.2.2.2.2.2) (fun h k => k.trans h) (fun W l o o' hl _ _ _ => World.putObj_heap_other (by omega)) (Below.refl _ _) (fun _ => rfl)
    (fun pre W => W0.heap.size ≤ W.heap.size ∧ ∃ v, W.ownsRow W0.heap.size 36 3 v pre.length (qf l x y pre) ∧ St w W [(b3, [v]), (b3 + 1, [.int .i64 l, .int .i64 x, .int .i64 y])])
    (fun _ _ _ => False)
    ?own (fun _ _ _ _ _ hs _ _ => hs)
    ⟨Nat.le_refl _, _, World.ownsRow_nil _ _ _ _, hs0⟩
    (fun i a' W => ∃ vb, W0.heap.size ≤ vb ∧ W.heap[vb]? = some (.cells (qc l x y i).toArray 36 (0, 0)) ∧ a' = { defers := [], tmps := #[Value.agg #[Value.int IntKind.i64 l, Value.int IntKind.i64 x, Value.int IntKind.i64 y],
          Value.pointer (some { block := w.heap.size, off := 0 }), Value.slice none 0 0,
          Value.pointer (some { block := b3, off := 0 }), Value.pointer (some { block := vb, off := 0 }),
          Value.agg #[Value.int IntKind.i64 l, Value.int IntKind.i64 x, Value.int IntKind.i64 y], Value.bool true,
          Value.bool false, Value.bool false, Value.pointer (some { block := w.heap.size, off := 0 }),
          Value.int IntKind.i64 l, Value.bool false, Value.bool false,
          Value.agg #[Value.int IntKind.i64 l, Value.int IntKind.i64 x, Value.int IntKind.i64 y],
          Value.func (Fn.func 39) #[] #[Value.pointer (some { block := b3 + 1, off := 0 })], qe l x y i, undef, undef,
          undef, undef, undef] })
    ?ownA ?assign ?body ?done ?stop
  case own =>
    rintro s X Y row ⟨hz, v, hr, hst⟩ hg hrw
    exact ⟨Nat.le_trans hz hg.size, v, row_own hr hg (fun r e => (hrw r e).2), hst.grown hg (fun r e => ⟨by have := (hrw r e).1; omega, fun p hp => by simp at hp; have := (hrw r e).1; rcases hp with rfl | rfl <;> (show _ ≠ r; omega)⟩)⟩
  case ownA =>
    rintro i a' _ X Y row ⟨vb, h1, h2, h3⟩ hg hr
    refine ⟨vb, h1, (hg.block vb (Array.getElem?_eq_some_iff.1 h2).1 (fun e => ?_)).trans h2, h3⟩
    obtain ⟨o, ho, hc⟩ := (hr vb e.symm).2
    rw [h2] at ho; cases ho; cases hc
  case assign =>
    rintro l1 pre i W K ⟨hz, v, hr, hst⟩ hK
    simp only [qe] at hK ⊢
    gi_wp2
    exact hK _ _ ((KeepsOthers.alloc _ _).from _) (Below.heap_alloc _ _ _ (by omega)) ⟨by simp; omega, v, hr.alloc _, hst.al _⟩ ⟨W.heap.size, hz, World.alloc_heap_new _ _, rfl⟩
  case body =>
    rintro l1 pre i a' W hl1 hlr ⟨hz, v, hrow, hst⟩ ⟨vb, hvb, hvh, rfl⟩ hlen
    have hk1 := hst.has
    simp [Has, HasAt] at hk1
    have v0 : W.cell? ⟨vb, 0, none⟩ = some (.int .i64 (l + 1)) := by simp [World.cell?, hvh, qc]
    have v1 : W.cell? ⟨vb, 1, none⟩ = some (.int .i64 (2 * x + ((i % 2 : Nat) : Int))) := by simp [World.cell?, hvh, qc]
    have v2 : W.cell? ⟨vb, 2, none⟩ = some (.int .i64 (2 * y + ((i / 2 : Nat) : Int))) := by simp [World.cell?, hvh, qc]
    gi_wp2_with (gi_at_builtin; refine wpListIn_append_own _ rfl _ _ 41 rfl W0.heap.size 36 i0 (.agg #[.int .i64 0, .int .i64 0, .int .i64 0]) 3 24 Try.underlying41 hi hz0 hz1 hz2 rfl (by decide) _ _ _ rfl (hrow.alloc _) ⟨W.heap.size, 0, none⟩ 1 1 (qc l x y i) rfl rfl (cell_three_new _ _ _ _ _) (fun u hu => by simp [qc] at hu; rcases hu with rfl | rfl | rfl <;> rfl) (by unfold maxLen; omega) (by omega) (by simp; omega) ?_; intro v' w3 hown' hgrow _; obtain ⟨g', cap', rfl⟩ := ownsRow_succ hown'; have hst3 := (hst.al _).grown hgrow (fun r e => ⟨by have := hrow.lt r e; omega, fun p hp => by simp at hp; have := hrow.lt r e; rcases hp with rfl | rfl <;> (show _ ≠ r; omega)⟩); have hk3 := hst3.has; simp [Has, HasAt] at hk3)
    have hg' : W0.heap.size ≤ g' := (hown'.lt g' rfl).1
    have hne : ∀ r, v.ownBlock = some r → b3 + 1 < r := fun r e => by have := hrow.lt r e; omega
    refine ⟨((keeps_append hrow hgrow).trans (KeepsOthers.setCell _ _ _)).from _, ?_, ?_, _, ?_, hst3.set1 _ hw1 (by simp)⟩
    · refine (Below.heap_setCell w3 ⟨b3, 0, none⟩ _ (b3 + 1) (by show b3 + 1 ≠ b3; omega)).trans ((hgrow.block (b3 + 1) (by simp; omega) (fun e => ?_)).trans (Below.heap_alloc W _ (b3 + 1) (by omega)))
      have := hne _ e.symm
      omega
    · have := hgrow.size; simp at this; simp; omega
    · rw [qf_snoc, List.length_append]
      exact hown'.kept (grownBy_setCell' w3 b3 _) (.inr (by simp [Value.ownBlock]; omega))
  case done =>
    rintro D ys W hD rfl ⟨hz, v, hrow, hst⟩ hK
    have hk1 := hst.has
    simp [Has, HasAt] at hk1
    gi_wp2
    refine ⟨by simp, .inl ⟨_, _, rfl, run_takeDeferred hK, ?_⟩⟩
    have hrow2 := ownsRow_putObj hrow (.deferred none) hK rfl
    rw [qf_range] at hrow2
    obtain ⟨g, cap, rfl, _, _, hS⟩ := row_St (n := 3) hrow2 (hst.bel.trans (below_putObj _ _ (by omega)))
    exact ⟨_, results_tmp rfl _ _ _, g, cap, _, rfl, by omega, hrow2, hS.bel⟩
  case stop =>
    rintro D c pre W _ _ h _
    exact h.elim
end Go.Proofs.Ytmfbkbifoehoeaa.M
