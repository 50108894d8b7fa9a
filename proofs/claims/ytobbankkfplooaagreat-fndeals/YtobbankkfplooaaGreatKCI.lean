/-
  Items put together, copied; marks found again.
-/
import Derived.Test.YtobbankkfplooaaGreatKB5
import Derived.Test.YtobbankkfplooaaGreatKIL3
import Derived.Test.YtobbankkfplooaaGreatKIB0
import Derived.Shelf.Spec.SlicesGrow
import Derived.Shelf.SlGeneric
import Derived.Laws.OwnMore
namespace Go.Proofs
open Go.Shelf
def Tryz.growI_ren : Go.Shelf.Ren := ⟨fun | 4 => 107 | n => n, fun | 22 => 119 | 25 => 91 | 0 => 0 | 3 => 3 | 4 => 4 | 9 => 9 | 20 => 20 | n => n, fun | n => n⟩
theorem Tryz.growI : Go.Proofs.Lays8.n4 Tryz.prog Tryz.growI_ren := {
  mixed := by kernel_rfl
  f4 := ⟨Tryz.f107.name, by decide, Tryz.func107.trans (congrArg some (by kernel_rfl))⟩
  t0 := Tryz.underlying0
  a0 := Tryz.isAgg0
  z0 := Tryz.sizeOf0
  v0 := Tryz.zeroValue0
  t3 := Tryz.underlying3
  a3 := Tryz.isAgg3
  z3 := Tryz.sizeOf3
  v3 := Tryz.zeroValue3
  t4 := Tryz.underlying4
  a4 := Tryz.isAgg4
  z4 := Tryz.sizeOf4
  v4 := Tryz.zeroValue4
  t9 := Tryz.underlying9
  a9 := Tryz.isAgg9
  z9 := Tryz.sizeOf9
  v9 := Tryz.zeroValue9
  t20 := Tryz.underlying20
  a20 := Tryz.isAgg20
  z20 := Tryz.sizeOf20
  v20 := Tryz.zeroValue20
  t22 := Tryz.underlying119
  a22 := Tryz.isAgg119
  z22 := Tryz.sizeOf119
  v22 := Tryz.zeroValue119 }
end Go.Proofs
namespace Go.Proofs.YtobbankkfplooaaGreat.K.I
open Go.Shelf Go.RowKit Go.Joins
attribute [local go_sem] Oper.semAt_some

theorem appC : Ap kR 119 zR 48 := ⟨Tryz.underlying119, info91, rfl, by decide, by decide⟩
theorem sg_nilrow (w : World) : Sg w w [rG kR (.slice none 0 0) []] := by
  refine ⟨Below.refl _ _, fun r hr => ?_, List.pairwise_singleton _ _⟩
  obtain rfl := List.mem_singleton.mp hr
  exact ⟨rfl, .inl ⟨rfl, rfl⟩⟩
theorem grow_any (n : Nat) (w : World) (h2 : n ≤ 1100000) :
    Calls Tryz.prog 107 #[.slice none 0 0, .int .i64 (n : Int)] w fun e w' => ∃ q cap, e = .returned (.slice q 0 cap) ∧ Sg w w' [rG kR (.slice q 0 cap) []] := by
  by_cases h0 : n = 0
  · subst h0
    go_enter Tryz.func107, Tryz.ntmps107
    go_wp2
    go_ret
    exact ⟨none, 0, rfl, sg_nilrow w⟩
  obtain ⟨i0, hi, hz0, hz1, hz2⟩ := info_parts info91
  have h : Calls Tryz.prog 107 #[.slice none 0 0, .int .i64 (n : Int)] w _ := Any8.slices_Grow_grow Tryz.growI i0 _ hi hz0 (by omega) none 0 0 n [] w (Nat.le_refl _) (by omega) (by rw [hz2]; omega) (by omega) (by simp) (fun _ => rfl) (fun a h => by cases h)
  refine h.mono ?_
  rintro e w' ⟨he, rfl⟩
  have hge := grownCap_ge w (0 + n) 0 91
  have hle := grownCap_le_maxLen w (0 + n) 0 91 (by unfold maxLen; omega)
  change e = .returned (.slice (some ⟨w.heap.size, 0, none⟩) 0 (grownCap w (0 + n) 0 91)) at he
  refine ⟨_, _, he, (Below.refl _ _).drew.alloc (Nat.le_refl _) _, ?_, List.pairwise_singleton _ _⟩
  intro r hr
  obtain rfl := List.mem_singleton.mp hr
  refine ⟨rfl, .inr ⟨w.heap.size, _, _, rfl, Nat.le_refl _, heap_alloc_new w.drew _, Nat.zero_le _, hle, ?_, by simp [rG, Kd.flat]⟩⟩
  change _ = grownCap w (0 + n) 0 91 * 5
  have hz : ∀ k, (Builtin.zeroCells zR.cells k).size = k * 5 := fun k => by simp [Builtin.zeroCells, Value.cells]
  rw [Array.size_append, Array.size_append, hz, hz]
  change 0 + (0 + n - 0) * 5 + (grownCap w (0 + n) 0 91 - (0 + n)) * 5 = grownCap w (0 + n) 0 91 * 5
  omega
set_option maxRecDepth 100000 in
set_option maxHeartbeats 1000000 in
theorem concat1_any (gb : Nat) (a : Sv) (A : List Rc) (w : World) (h0 : w.cell? ⟨gb, 0, none⟩ = some (.slice a.p a.n a.c)) (hgb : gb < w.heap.size)
    (hA : SlG kR w a.p A) (la : A.length = a.n) (oa : okv a) (hs : a.n ≤ 1000000) :
    Calls Tryz.prog 99 #[.slice (some ⟨gb, 0, none⟩) 1 1] w fun e w' => ∃ q cap, e = .returned (.slice q a.n cap) ∧ Sg w w' [rG kR (.slice q a.n cap) A] := by
  obtain ⟨ap, an, ac⟩ := a
  simp only at h0 hA la hs ⊢
  have HG := Lib.hid (show ∀ (m : Int) (n : Nat) (w : World), m = n → n ≤ 1100000 → Calls Tryz.prog 107 #[.slice none 0 0, .int .i64 m] w fun e w' => ∃ q cap, e = .returned (.slice q 0 cap) ∧ Sg w w' [rG kR (.slice q 0 cap) []] from fun m n w e h => e ▸ grow_any n w h)
  have HA := Lib.hid hA
  have HO := Lib.hid oa
  have HL := Lib.hid la
  clear hA oa la
  have s1 : ¬ ((an : Int) < 0) := by omega
  go_enter Tryz.func99, Tryz.ntmps99
  go_wp2
  refine wp_loop_rounds 2 ?_
  rw [rounds_succ]
  go_wp2
  rw [rounds_succ]
  go_wp2_with (go_at_call 107; refine (HG.out _ an _ (by omega) (by omega)).mono ?_; rintro e w1 ⟨q1, cap1, rfl, hS1⟩)
  have c0 := (hS1.bel.cell (p := ⟨gb, 0, none⟩) hgb).trans h0
  refine wp_loop_rounds 2 ?_
  rw [rounds_succ]
  go_wp2_with (at_builtin; refine wpList_ap appC oneRs rfl _ _ rfl (A := []) (M := ([] : List Rc)) (L := A) (m := 0) (s := ⟨ap, an, ac⟩) hS1 (Below.refl _ _) (HA.out.step hS1.bel) rfl HL.out (by simp only; omega) HO.out rfl rfl ?_; intro q2 cap2 w2 hS2 _ _ _)
  simp only [Nat.zero_add, List.nil_append] at hS2
  rw [rounds_succ]
  go_wp2
  go_ret
  exact ⟨q2, cap2, by simp, hS2⟩
theorem copied_any (a : Sv) (A : List Rc) (w : World) (hA : SlG kR w a.p A) (la : A.length = a.n) (oa : okv a) (hs : a.n ≤ 1000000) :
    Calls Tryz.prog 88 #[.slice a.p a.n a.c] w fun e w' => ∃ q cap, e = .returned (.slice q a.n cap) ∧ Sg w w' [rG kR (.slice q a.n cap) A] := by
  obtain ⟨ap, an, ac⟩ := a
  have HC := Lib.hid (fun gb W h0 hgb h => concat1_any gb ⟨ap, an, ac⟩ A W h0 hgb h la oa hs)
  have HA := Lib.hid hA
  clear hA la oa
  go_enter Tryz.func88, Tryz.ntmps88
  go_wp2_with (go_at_call 99; refine (HC.out _ _ ?_ ?_ ?_).mono ?_; (focus (simp [go_sem]; done)); (focus (simp; done)); (focus exact HA.out.step (below_alloc1 _ _)); rintro e w1 ⟨q, cap, rfl, hS⟩)
  go_ret
  exact ⟨q, cap, rfl, by simpa using (Sg.nil w).step (below_alloc1 _ _) |>.addL hS⟩
set_option maxHeartbeats 2000000 in
theorem heldRecS_any (p : Option Addr) (c : Nat) (k0 : Int) (n : Nat) (w : World) (hL : SlG kR w p (mkRs k0 n)) (hb : n ≤ 1048576) (hk0 : 1 ≤ k0) (hk1 : k0 ≤ 100000000) :
    Calls Tryz.prog 85 #[.slice p n c, .int .i64 k0] w fun e w' => e = .returned (.int .i64 (k0 + 5 * n)) ∧ Below w.heap.size w w' := by
  have HT := Lib.hid (fun k h0 h1 w => markText_any k h0 h1 w)
  go_enter Tryz.func85, Tryz.ntmps85
  go_wp2
  go_loopw [1, 5] (fun kv i wr => ∃ k : Nat, k ≤ n ∧ i = .int .i64 k ∧ kv = .int .i64 (k0 + 5 * k) ∧ Below w.heap.size w wr) (fun _ i _ => n - (intOf i).toNat)
  case atStart => exact ⟨0, by omega, rfl, by simp, Below.refl _ _⟩
  case round =>
    obtain ⟨k, hk, rfl, rfl, hbl⟩ := hrel
    by_cases hlt : k < n
    · have hki : (k : Int) < n := by omega
      obtain ⟨g, off, rfl, hC0⟩ := hL.at (k := k) (by rw [mkRs_len]; exact hlt)
      have hC := hC0.step hbl
      obtain ⟨d0, d1, d2, d3, d4⟩ := hC.i5 (mkRs_get hlt)
      have hS : ∀ w', Below w.heap.size w w' → w'.cell? ⟨g, off + k * 5 + 4, none⟩ = some (.string (mk5 (k0 + 5 * k)).s) := fun w' h => ((hC0.step h).i5 (mkRs_get hlt)).2.2.2.2
      clear hC hC0
      simp only [mk5] at d0 d1 d2 d3 d4 hS
      obtain ⟨z, hz⟩ : ∃ z, k0 + 5 * (k : Int) = z := ⟨_, rfl⟩
      have hz0 : 1 ≤ z := by omega
      have hz1 : z ≤ 110000000 := by omega
      rw [hz] at d0 d1 d2 d3 d4 hS ⊢
      have HZ : Hid (k0 + 5 * (k : Int) = z) := hz
      clear hz
      go_wp2
      refine wp_region_quiet (C := fun w' => Below w.heap.size w w') (by kernel_rfl) (by kernel_rfl) (hbl.drew) ?_
      refine q_intro (fun A hA => ?_)
      have hf : Fr 61 A [(0, .slice (some ⟨g, off, none⟩) n c), (1, .int .i64 (z + 1 + 1 + 1 + 1)), (5, .int .i64 (k : Int))] := by subst hA; exact ⟨rfl, by simp⟩
      refine q_step hf (d := 50) (v := .slice (some ⟨g, off, none⟩) n c) rfl rfl (by decide) (by simp) (fun w' hw' => ?_) (fun A hA50 hf => ?_)
      · have f0 := hf.get (d := 0) (v := .slice (some ⟨g, off, none⟩) n c) (by simp)
        clear hf
        simp [Oper.quietAt, Oper.quietUpon, go_sem, f0]
      refine q_step hf (d := 51) (v := .int .i64 (k : Int)) rfl rfl (by decide) (by simp) (fun w' hw' => ?_) (fun A hA51 hf => ?_)
      · have f5 := hf.get (d := 5) (v := .int .i64 (k : Int)) (by simp)
        clear hf
        simp [Oper.quietAt, Oper.quietUpon, go_sem, f5]
      refine q_step hf (d := 52) (v := .pointer (some ⟨g, off + k * 5, none⟩)) rfl rfl (by decide) (by simp) (fun w' hw' => ?_) (fun A hA52 hf => ?_)
      · have f50 := hf.get (d := 50) (v := .slice (some ⟨g, off, none⟩) n c) (by simp)
        have f51 := hf.get (d := 51) (v := .int .i64 (k : Int)) (by simp)
        clear hf
        simp [Oper.quietAt, Oper.quietUpon, go_sem, f50, f51, hki]
      refine q_step hf (d := 53) (v := .pointer (some ⟨g, off + k * 5 + 4, none⟩)) rfl rfl (by decide) (by simp) (fun w' hw' => ?_) (fun A hA53 hf => ?_)
      · have f52 := hf.get (d := 52) (v := .pointer (some ⟨g, off + k * 5, none⟩)) (by simp)
        clear hf
        simp [Oper.quietAt, Oper.quietUpon, go_sem, f52]
      refine q_step hf (d := 54) (v := .string (mtx (z + 1 + 1 + 1 + 1))) rfl rfl (by decide) (by simp) (fun w' hw' => ?_) (fun A hA54 hf => ?_)
      · have hc := hS _ hw'
        have f53 := hf.get (d := 53) (v := .pointer (some ⟨g, off + k * 5 + 4, none⟩)) (by simp)
        clear hf
        simp [Oper.quietAt, Oper.quietUpon, go_sem, f53, hc]
      refine q_step hf (d := 55) (v := .int .i64 (z + 1 + 1 + 1 + 1)) rfl rfl (by decide) (by simp) (fun w' hw' => ?_) (fun A hA55 hf => ?_)
      · have f1 := hf.get (d := 1) (v := .int .i64 (z + 1 + 1 + 1 + 1)) (by simp)
        clear hf
        simp [Oper.quietAt, Oper.quietUpon, go_sem, f1]
      refine q_step hf (d := 56) (v := .string (mtx (z + 1 + 1 + 1 + 1))) rfl rfl (by decide) (by simp) (fun w' hw' => ?_) (fun A hA56 hf => ?_)
      · have f55 := hf.get (d := 55) (v := .int .i64 (z + 1 + 1 + 1 + 1)) (by simp)
        clear hf
        simp [Oper.quietAt, Oper.quietUpon, go_sem, f55]
        exact (HT.out _ (by omega) (by omega) _).mono (fun e w'' hq => ⟨hq.1, bstep hw' hq.2 (Nat.le_refl _)⟩)
      refine q_step hf (d := 57) (v := .bool false) rfl rfl (by decide) (by simp) (fun w' hw' => ?_) (fun A hA57 hf => ?_)
      · have f54 := hf.get (d := 54) (v := .string (mtx (z + 1 + 1 + 1 + 1))) (by simp)
        have f56 := hf.get (d := 56) (v := .string (mtx (z + 1 + 1 + 1 + 1))) (by simp)
        clear hf
        simp [Oper.quietAt, Oper.quietUpon, go_sem, f54, f56]
      refine wpQuiet_nil (fun w' hw' => ?_)
      clear hf
      subst hA57 hA56 hA55 hA54 hA53 hA52 hA51 hA50 hA
      simp only [Act.put, List.setIfInBounds_toArray, List.set_cons_succ, List.set_cons_zero]
      go_wp2
      go_roundw
      case rel => exact ⟨k + 1, by omega, by go_num, by congr 1; have := HZ.out; simp; omega, hw'⟩
      case measure => simp [intOf]; omega
    · obtain rfl : k = n := by omega
      go_wp2
      go_ret
      exact ⟨rfl, hbl⟩
end Go.Proofs.YtobbankkfplooaaGreat.K.I
