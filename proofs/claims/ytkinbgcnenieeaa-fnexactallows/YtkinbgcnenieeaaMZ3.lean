/-
  The program's Order: the number in z order, summed up from the places of the Cells around a Spot.
-/
import Derived.Test.YtkinbgcnenieeaaMZ2
namespace Go.Proofs.Ytkinbgcnenieeaa.M
open Go.RowKit Go.Joins
attribute [local go_sem] Oper.semAt_some

theorem cell8_ok {s t : Int} (h : spB s t = true) : cellB 8 s t = true := by
  obtain ⟨a, b, c, d⟩ := spB_t.mp h
  exact cellB_t.mpr ⟨by decide, by decide, a, by show s < 256; omega, c, by show t < 256; omega⟩

set_option maxRecDepth 100000 in
set_option maxHeartbeats 2000000 in
theorem iOrder_any (s t : Int) (w : World) :
    Calls Try.prog 82 #[.agg #[.int .i64 s, .int .i64 t]] w fun e w' => e = .returned (.int .i64 (ordI s t)) ∧ Below w.heap.size w w' := by
  have hs := St.nil w
  cases h : spB s t
  · have e0 : ordI s t = -1 := by simp [ordI, h]
    rw [e0]
    go_enter Try.func82, Try.ntmps82
    go_wp2_with (go_at_call 54; refine (spRight_v h _).mono ?_; rintro e w1 ⟨rfl, hb2⟩; (first | replace hs := hs.step hb2 | replace hs := (hs.push _ _).step hb2 | replace hs := ((hs.push _ _).push _ _).step hb2 | replace hs := (((hs.push _ _).push _ _).push _ _).step hb2); (try simp only [World.size_alloc] at hs); (try clear hk); have hk := hs.has; simp [Has, HasAt] at hk)
    go_ret
    exact ⟨rfl, hs.bel⟩
  · obtain ⟨ha, hb, hc, hd⟩ := spB_t.mp h
    refine (callsIn_wide (n := 3)).1 ?_
    refine callsIn_of_wp_marks Try.func82 rfl trivial ?_ rfl
    simp only [Try.ntmps82, List.size_toArray, List.length_cons, List.length_nil, Nat.reduceAdd, Nat.reduceSub, Array.replicate_succ, Array.replicate_zero, List.push_toArray, List.append_toArray, List.nil_append, List.cons_append]
    gi_wp2_with (first | (refine ⟨trivial, ?_⟩; gi_at_call 54; refine (callsIn_wide.2 (spRight_v h _)).mono ?_; rintro e w1 ⟨rfl, hb2⟩; (first | replace hs := hs.step hb2 | replace hs := (hs.push _ _).step hb2 | replace hs := ((hs.push _ _).push _ _).step hb2 | replace hs := (((hs.push _ _).push _ _).push _ _).step hb2); (try simp only [World.size_alloc] at hs); (try clear hk); have hk := hs.has; simp [Has, HasAt] at hk) | (refine ⟨trivial, ?_⟩; gi_at_call 56; refine (callsIn_wide.2 (iCellAt8 h _)).mono ?_; rintro e w1 ⟨rfl, hb2⟩; (first | replace hs := hs.step hb2 | replace hs := (hs.push _ _).step hb2 | replace hs := ((hs.push _ _).push _ _).step hb2 | replace hs := (((hs.push _ _).push _ _).push _ _).step hb2); (try simp only [World.size_alloc] at hs); (try clear hk); have hk := hs.has; simp [Has, HasAt] at hk) | (refine ⟨trivial, ?_⟩; gi_at_call 67; refine (callsIn_wide.2 (upward_any _ _ _ _)).mono ?_; rintro e w2 ⟨rfl, rfl⟩))
    rename_i w0 _ _ _
    have hs0 := (hs.push [.int .i64 8, .int .i64 s, .int .i64 t] 62).sub (l' := [(w1.heap.size, [.int .i64 8, .int .i64 s, .int .i64 t]), (w0.heap.size, [.int .i64 0]), (w0.heap.size + 1, [.int .i64 1])]) (by simp)
    have hw0 : w.heap.size ≤ w0.heap.size := by have := Below.size ‹Below _ _ w0›; simp at this; omega
    clear hk hs hb2
    generalize w0.heap.size = b3 at hs0 hw0 ⊢
    generalize w1.heap.size = bx at hs0 ⊢
    generalize w1.alloc _ = W0 at hs0 ⊢
    have hk0 := hs0.has
    simp [Has, HasAt] at hk0
    have hz0 := hs0.size
    have lt3 : b3 < W0.heap.size := hk0.2.1.1
    have lt4 : b3 + 1 < W0.heap.size := hk0.2.2.1
    refine range_up (gf := 77) (lb := #[.pointer (some ⟨bx, 0, none⟩)]) rfl (enters_of Try.func77 (by kernel_rfl) rfl) (cs := cellsU 8 s t) (t := 62) (up_seq (cell8_ok h) bx W0 hk0.1.1 hk0.1.2.2.1 hk0.1.2.2.2.1 hk0.1.2.2.2.2)
      (fun k W => St w W [(b3, [.int .i64 (zz s t k)]), (b3 + 1, [.int .i64 (4 ^ k)])])
      (fun _ _ => False)
      (fun k X Y hq hb => hq.stab hb hz0 (by simp; omega))
      (fun k X Y hq hb => hq)
      (hs0.sub (by simp [zz]))
      (fun k v => { defers := [], tmps := #[Value.agg #[Value.int IntKind.i64 s, Value.int IntKind.i64 t],
          Value.pointer (some { block := w.heap.size, off := 0 }), Value.int IntKind.i64 0,
          Value.pointer (some { block := b3, off := 0 }),
          Value.pointer (some { block := b3 + 1, off := 0 }), Value.pointer (some { block := v, off := 0 }),
          Value.agg #[Value.int IntKind.i64 s, Value.int IntKind.i64 t], Value.bool true, Value.bool false,
          Value.agg #[Value.int IntKind.i64 s, Value.int IntKind.i64 t],
          Value.agg #[Value.int IntKind.i64 8, Value.int IntKind.i64 s, Value.int IntKind.i64 t],
          Value.func (Fn.func 77) #[] #[Value.pointer (some { block := bx, off := 0 })], encU 8 s t k, undef, undef,
          undef, undef, undef, undef, undef, undef, undef] }) ?assign ?body ?done ?stop
    case assign =>
      intro l1 k W K hK
      simp only [encU, cellsU] at hK ⊢
      gi_wp2
      exact hK
    case body =>
      rintro l1 k v W hkN hst hv1 hv2 hv3 hz1
      have hkN' : k ≤ 8 := by simp at hkN; omega
      have hst1 := hst.add (vs := [.int .i64 (8 - k), .int .i64 (half s k), .int .i64 (half t k)]) hv3
      have hk1 := hst1.has
      simp [Has, HasAt] at hk1
      obtain ⟨z1, z2⟩ := zz_bd s t k
      have z3 := pow4_le (k := k) (by omega)
      have z4 := pow4 k
      have hp : 0 ≤ plI (half s k) (half t k) ∧ plI (half s k) (half t k) ≤ 3 := by unfold plI; omega
      obtain ⟨z5, z6⟩ := zz_bd s t (k + 1)
      have z7 := pow4_le (k := k + 1) (by omega)
      have e1 : zz s t (k + 1) = zz s t k + 4 ^ k * plI (half s k) (half t k) := rfl
      have r1 : wrap64 (4 ^ k * plI (half s k) (half t k)) = 4 ^ k * plI (half s k) (half t k) := w64 (by have := Int.mul_nonneg (a := 4 ^ k) (b := plI (half s k) (half t k)) (by omega) hp.1; omega) (by omega)
      have r2 : wrap64 (zz s t k + 4 ^ k * plI (half s k) (half t k)) = zz s t (k + 1) := by rw [← e1]; exact w64 (by omega) (by omega)
      have r3 : wrap64 (4 ^ k * 4) = 4 ^ (k + 1) := by rw [Int.pow_succ]; exact w64 (by omega) (by omega)
      clear e1 z1 z2 z3 z4 z5 z6 z7 hp
      have hmo : Try.prog.follows .mixedOrders = true := by kernel_rfl
      gi_wp2
      gi_region_with_o (refine ⟨trivial, ?_⟩; gi_at_call 94; refine (CallsIn.inRound l1 (callsIn_wide.2 (place_any _ _ _ _))).mono ?_; rintro e w5 ⟨rfl, hb5⟩; (first | replace hst1 := hst1.step hb5 | replace hst1 := hst1.dr.step hb5); clear hk1; have hk1 := hst1.has; simp [Has, HasAt] at hk1)
      all_goals gi_wp2
      all_goals
        have h4 := (((hst1.sub (l' := [(b3, [.int .i64 (zz s t k)]), (b3 + 1, [.int .i64 (4 ^ k)])]) (by simp)).set1 (.int .i64 (zz s t (k + 1))) hw0 (by simp)).sub (l' := [(b3 + 1, [.int .i64 (4 ^ k)]), (b3, [.int .i64 (zz s t (k + 1))])]) (by simp)).set1 (.int .i64 (4 ^ (k + 1))) (by omega) (by simp)
        have h5 : KeepF W0.heap.size W w5 := ⟨hb5.size, fun i _ hi => hb5.block i hi⟩
        exact ⟨(h5.trans (KeepF.setCell _ 0 _ lt3)).trans (KeepF.setCell _ 0 _ lt4), h4.sub (by simp)⟩
    case done =>
      rintro W hst hD
      have hk1 := hst.has
      simp [Has, HasAt] at hk1
      gi_wp2
      refine ⟨by simp, .inl ⟨_, _, rfl, run_takeDeferred hD, ?_⟩⟩
      refine ⟨_, results_tmp rfl _ _ _, ?_, hst.bel.trans (below_putObj _ _ hz0)⟩
      refine ret_i64 ?_
      rw [zz9 h]; simp [ordI, h]
    case stop =>
      rintro k W hkN hst hD
      exact hst.elim

end Go.Proofs.Ytkinbgcnenieeaa.M
