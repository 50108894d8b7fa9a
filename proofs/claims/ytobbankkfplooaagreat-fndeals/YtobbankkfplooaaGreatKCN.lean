/-
  Numbers put together, copied; marks found again.
-/
import Derived.Test.YtobbankkfplooaaGreatKB5
import Derived.Test.YtobbankkfplooaaGreatKNG
import Derived.Shelf.Spec.SlicesGrow
import Derived.Shelf.SlGeneric
import Derived.Laws.OwnMore
namespace Go.Proofs
open Go.Shelf
def Tryz.growN_ren : Go.Shelf.Ren := ⟨fun | 4 => 100 | n => n, fun | 22 => 97 | 25 => 2 | 0 => 0 | 3 => 3 | 4 => 4 | 9 => 9 | 20 => 20 | n => n, fun | n => n⟩
theorem Tryz.growN : Go.Proofs.Lays8.n4 Tryz.prog Tryz.growN_ren := {
  mixed := by kernel_rfl
  f4 := ⟨Tryz.f100.name, by decide, Tryz.func100.trans (congrArg some (by kernel_rfl))⟩
  t0 := Tryz.underlying0
  a0 := Tryz.isAgg0
  z0 := Tryz.sizeOf0
  v0 := Tryz.zeroValue0
  t3 := Tryz.underlying3
  a3 := Tryz.isAgg3
  z3 := Tryz.sizeOf3
  v3 := Tryz.zeroValue3
  t4 := Tryz.underlying4
  a4 := Tryz.isAgg4
  z4 := Tryz.sizeOf4
  v4 := Tryz.zeroValue4
  t9 := Tryz.underlying9
  a9 := Tryz.isAgg9
  z9 := Tryz.sizeOf9
  v9 := Tryz.zeroValue9
  t20 := Tryz.underlying20
  a20 := Tryz.isAgg20
  z20 := Tryz.sizeOf20
  v20 := Tryz.zeroValue20
  t22 := Tryz.underlying97
  a22 := Tryz.isAgg97
  z22 := Tryz.sizeOf97
  v22 := Tryz.zeroValue97 }
end Go.Proofs
namespace Go.Proofs.YtobbankkfplooaaGreat.K.N
open Go.Shelf Go.RowKit Go.Joins
attribute [local go_sem] Oper.semAt_some

theorem appC : Ap kI 97 (.int .i64 0) 8 := ⟨Tryz.underlying97, info2, rfl, by decide, by decide⟩
theorem sg_nilrow (w : World) : Sg w w [rG kI (.slice none 0 0) []] := by
  refine ⟨Below.refl _ _, fun r hr => ?_, List.pairwise_singleton _ _⟩
  obtain rfl := List.mem_singleton.mp hr
  exact ⟨rfl, .inl ⟨rfl, rfl⟩⟩
theorem grow_any (n : Nat) (w : World) (h2 : n ≤ 1100000) :
    Calls Tryz.prog 100 #[.slice none 0 0, .int .i64 (n : Int)] w fun e w' => ∃ q cap, e = .returned (.slice q 0 cap) ∧ Sg w w' [rG kI (.slice q 0 cap) []] := by
  by_cases h0 : n = 0
  · subst h0
    go_enter Tryz.func100, Tryz.ntmps100
    go_wp2
    go_ret
    exact ⟨none, 0, rfl, sg_nilrow w⟩
  obtain ⟨i0, hi, hz0, hz1, hz2⟩ := info_parts info2
  have h : Calls Tryz.prog 100 #[.slice none 0 0, .int .i64 (n : Int)] w _ := Any8.slices_Grow_grow Tryz.growN i0 _ hi hz0 (by omega) none 0 0 n [] w (Nat.le_refl _) (by omega) (by rw [hz2]; omega) (by omega) (by simp) (fun _ => rfl) (fun a h => by cases h)
  refine h.mono ?_
  rintro e w' ⟨he, rfl⟩
  have hge := grownCap_ge w (0 + n) 0 2
  have hle := grownCap_le_maxLen w (0 + n) 0 2 (by unfold maxLen; omega)
  change e = .returned (.slice (some ⟨w.heap.size, 0, none⟩) 0 (grownCap w (0 + n) 0 2)) at he
  refine ⟨_, _, he, (Below.refl _ _).drew.alloc (Nat.le_refl _) _, ?_, List.pairwise_singleton _ _⟩
  intro r hr
  obtain rfl := List.mem_singleton.mp hr
  refine ⟨rfl, .inr ⟨w.heap.size, _, _, rfl, Nat.le_refl _, heap_alloc_new w.drew _, Nat.zero_le _, hle, ?_, by simp [rG, Kd.flat]⟩⟩
  change _ = grownCap w (0 + n) 0 2 * 1
  have hz : ∀ k, (Builtin.zeroCells (Value.int .i64 0).cells k).size = k * 1 := fun k => by simp [Builtin.zeroCells, Value.cells]
  rw [Array.size_append, Array.size_append, hz, hz]
  change 0 + (0 + n - 0) * 1 + (grownCap w (0 + n) 0 2 - (0 + n)) * 1 = grownCap w (0 + n) 0 2 * 1
  omega
set_option maxRecDepth 100000 in
set_option maxHeartbeats 1000000 in
theorem concat1_any (gb : Nat) (a : Sv) (A : List Int) (w : World) (h0 : w.cell? ⟨gb, 0, none⟩ = some (.slice a.p a.n a.c)) (hgb : gb < w.heap.size)
    (hA : SlG kI w a.p A) (la : A.length = a.n) (oa : okv a) (hs : a.n ≤ 1000000) :
    Calls Tryz.prog 89 #[.slice (some ⟨gb, 0, none⟩) 1 1] w fun e w' => ∃ q cap, e = .returned (.slice q a.n cap) ∧ Sg w w' [rG kI (.slice q a.n cap) A] := by
  obtain ⟨ap, an, ac⟩ := a
  simp only at h0 hA la hs ⊢
  have HG := Lib.hid (show ∀ (m : Int) (n : Nat) (w : World), m = n → n ≤ 1100000 → Calls Tryz.prog 100 #[.slice none 0 0, .int .i64 m] w fun e w' => ∃ q cap, e = .returned (.slice q 0 cap) ∧ Sg w w' [rG kI (.slice q 0 cap) []] from fun m n w e h => e ▸ grow_any n w h)
  have HA := Lib.hid hA
  have HO := Lib.hid oa
  have HL := Lib.hid la
  clear hA oa la
  have s1 : ¬ ((an : Int) < 0) := by omega
  go_enter Tryz.func89, Tryz.ntmps89
  go_wp2
  refine wp_loop_rounds 2 ?_
  rw [rounds_succ]
  go_wp2
  rw [rounds_succ]
  go_wp2_with (go_at_call 100; refine (HG.out _ an _ (by omega) (by omega)).mono ?_; rintro e w1 ⟨q1, cap1, rfl, hS1⟩)
  have c0 := (hS1.bel.cell (p := ⟨gb, 0, none⟩) hgb).trans h0
  refine wp_loop_rounds 2 ?_
  rw [rounds_succ]
  go_wp2_with (at_builtin; refine wpList_ap appC oneIs rfl _ _ rfl (A := []) (M := ([] : List Int)) (L := A) (m := 0) (s := ⟨ap, an, ac⟩) hS1 (Below.refl _ _) (HA.out.step hS1.bel) rfl HL.out (by simp only; omega) HO.out rfl rfl ?_; intro q2 cap2 w2 hS2 _ _ _)
  simp only [Nat.zero_add, List.nil_append] at hS2
  rw [rounds_succ]
  go_wp2
  go_ret
  exact ⟨q2, cap2, by simp, hS2⟩
theorem copied_any (a : Sv) (A : List Int) (w : World) (hA : SlG kI w a.p A) (la : A.length = a.n) (oa : okv a) (hs : a.n ≤ 1000000) :
    Calls Tryz.prog 70 #[.slice a.p a.n a.c] w fun e w' => ∃ q cap, e = .returned (.slice q a.n cap) ∧ Sg w w' [rG kI (.slice q a.n cap) A] := by
  obtain ⟨ap, an, ac⟩ := a
  have HC := Lib.hid (fun gb W h0 hgb h => concat1_any gb ⟨ap, an, ac⟩ A W h0 hgb h la oa hs)
  have HA := Lib.hid hA
  clear hA la oa
  go_enter Tryz.func70, Tryz.ntmps70
  go_wp2_with (go_at_call 89; refine (HC.out _ _ ?_ ?_ ?_).mono ?_; (focus (simp [go_sem]; done)); (focus (simp; done)); (focus exact HA.out.step (below_alloc1 _ _)); rintro e w1 ⟨q, cap, rfl, hS⟩)
  go_ret
  exact ⟨q, cap, rfl, by simpa using (Sg.nil w).step (below_alloc1 _ _) |>.addL hS⟩
end Go.Proofs.YtobbankkfplooaaGreat.K.N
