/-
  slices.Grow and slices.Concat of lists of Clauses.
-/
import Derived.Test.YtkinbgcnenieeaaGreatDoorN3
import Derived.Test.YtkinbgcnenieeaaGreatDoorSg
namespace Go.Proofs.YtkinbgcnenieeaaGreatDoor
open Go.Shelf Go.RowKit Go.Joins M
attribute [local go_sem] Oper.semAt_some

theorem appQ6 : Ap kQ 51 (.agg #[.slice none 0 0, .slice none 0 0, .int .i64 0]) 56 := ⟨Tryz.underlying51, info29, rfl, by decide, by decide⟩
theorem grow_any (m : Int) (w : World) (h1 : 1 ≤ m) (h2 : m ≤ 100000) :
    Calls Tryz.prog 56 #[.slice none 0 0, .int .i64 m] w fun e w' => ∃ cap, e = .returned (.slice (some ⟨w.heap.size, 0, none⟩) 0 cap) ∧ Sg w w' [rG kQ (.slice (some ⟨w.heap.size, 0, none⟩) 0 cap) []] := by
  obtain ⟨n, rfl⟩ : ∃ n : Nat, m = n := ⟨m.toNat, by omega⟩
  obtain ⟨i0, hi, hz0, hz1, hz2⟩ := info_parts info29
  have h : Calls Tryz.prog 56 #[.slice none 0 0, .int .i64 (n : Int)] w _ := Any8.slices_Grow_grow Tryz.growC i0 _ hi hz0 (by omega) none 0 0 n [] w (Nat.le_refl _) (by omega) (by rw [hz2]; omega) (by omega) (by simp) (fun _ => rfl) (fun a h => by cases h)
  refine h.mono ?_
  rintro e w' ⟨he, rfl⟩
  have hge := grownCap_ge w (0 + n) 0 29
  have hle := grownCap_le_maxLen w (0 + n) 0 29 (by unfold maxLen; omega)
  change e = .returned (.slice (some ⟨w.heap.size, 0, none⟩) 0 (grownCap w (0 + n) 0 29)) at he
  refine ⟨_, he, (Below.refl _ _).drew.alloc (Nat.le_refl _) _, ?_, List.pairwise_singleton _ _⟩
  intro r hr
  obtain rfl := List.mem_singleton.mp hr
  refine ⟨rfl, .inr ⟨w.heap.size, _, _, rfl, Nat.le_refl _, heap_alloc_new w.drew _, Nat.zero_le _, hle, ?_, by simp [rG, Kd.flat]⟩⟩
  change _ = grownCap w (0 + n) 0 29 * 3
  have hz : ∀ k, (Builtin.zeroCells (Value.agg #[Value.slice none 0 0, Value.slice none 0 0, Value.int IntKind.i64 0]).cells k).size = k * 3 := fun k => by simp [Builtin.zeroCells, Value.cells]
  rw [Array.size_append, Array.size_append, hz, hz]
  change 0 + (0 + n - 0) * 3 + (grownCap w (0 + n) 0 29 - (0 + n)) * 3 = grownCap w (0 + n) 0 29 * 3
  omega

set_option maxRecDepth 100000 in
set_option maxHeartbeats 4000000 in
theorem concat_any (gb ga oa ca gc n : Nat) (QL : List CQ) (q : CQ) (w : World) (h0 : w.cell? ⟨gb, 0, none⟩ = some (.slice (some ⟨ga, oa, none⟩) n ca)) (h1 : w.cell? ⟨gb, 1, none⟩ = some (.slice (some ⟨gc, 0, none⟩) 1 1)) (hgb : gb < w.heap.size) (hn : QL.length = n) (hA : CsG kQ w ga oa QL) (hB : CsG kQ w gc 0 [q]) (hla : 1 ≤ n) (hla2 : n ≤ 1000) :
    Calls Tryz.prog 28 #[.slice (some ⟨gb, 0, none⟩) 2 2] w fun e w' => ∃ g cap, e = .returned (.slice (some ⟨g, 0, none⟩) (n + 1) cap) ∧ Sg w w' [rG kQ (.slice (some ⟨g, 0, none⟩) (n + 1) cap) (QL ++ [q])] := by
  have s1 : ¬ ((n : Int) < 0) := by omega
  have s2 : ¬ ((n : Int) + 1 < 0) := by omega
  have HN : Hid (QL.length = n ∧ CsG kQ w ga oa QL ∧ CsG kQ w gc 0 [q]) := ⟨hn, hA, hB⟩
  clear hn hA hB
  go_enter Tryz.func28, Tryz.ntmps28
  go_wp2
  refine wp_loop_rounds 3 ?_
  rw [rounds_succ]
  go_wp2
  rw [rounds_succ]
  go_wp2
  rw [rounds_succ]
  go_wp2_with (go_at_call 56; refine (grow_any _ _ ?_ ?_).mono ?_; (focus omega); (focus omega); rintro e w1 ⟨cap1, rfl, hS1⟩)
  have c0 := (hS1.bel.cell (p := ⟨gb, 0, none⟩) hgb).trans h0
  have c1 := (hS1.bel.cell (p := ⟨gb, 1, none⟩) hgb).trans h1
  refine wp_loop_rounds 3 ?_
  rw [rounds_succ]
  go_wp2_with (at_builtin; refine wpList_sgapp appQ6 rfl _ _ rfl (A := []) (M := ([] : List CQ)) (B := QL) (n := 0) (m := n) hS1 (Below.refl _ _) rfl HN.out.1 rfl _ _ rfl (cs_src (HN.out.2.1.step hS1.bel)) (oneQs _) (.inl (by omega)) (by omega) ?_; intro g2 cap2 w2 hS2 _ _)
  clear c0 c1 hS1
  simp only [Nat.zero_add, List.nil_append] at hS2
  have c1 := (hS2.bel.cell (p := ⟨gb, 1, none⟩) hgb).trans h1
  rw [rounds_succ]
  go_wp2_with (at_builtin; refine wpList_sgapp appQ6 rfl _ _ rfl (A := []) (M := QL) (B := [q]) (n := n) (m := 1) hS2 (Below.refl _ _) HN.out.1 rfl rfl _ _ rfl (cs_src (HN.out.2.2.step hS2.bel)) (oneQs _) (.inl (by decide)) (by omega) ?_; intro g3 cap3 w3 hS3 _ _)
  rw [rounds_succ]
  go_wp2
  go_ret
  exact ⟨g3, cap3, rfl, hS3⟩
end Go.Proofs.YtkinbgcnenieeaaGreatDoor
