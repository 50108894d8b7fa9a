/-
  slices.Concat of two lists of Spots.
-/
import Derived.Test.YtkpkigllabhejaaC0
import Derived.Test.YtkpkigllabhejaaSg
namespace Go.Proofs.Ytkpkigllabhejaa
open Go.RowKit Go.Joins
attribute [local go_sem ↓] Go.wp_at_zero Go.wp_at_succ

theorem grow_any (m : Int) (w : World) (h1 : 1 ≤ m) (h2 : m ≤ 100000) :
    Calls Try.prog 57 #[.slice none 0 0, .int .i64 m] w fun e w' => ∃ cap, e = .returned (.slice (some ⟨w.heap.size, 0, none⟩) 0 cap) ∧ Ow w' w.heap.size (.slice (some ⟨w.heap.size, 0, none⟩) 0 cap) [] ∧ Below w.heap.size w w' := by
  obtain ⟨n, rfl⟩ : ∃ n : Nat, m = n := ⟨m.toNat, by omega⟩
  obtain ⟨i0, hi, hz0, hz1, hz2⟩ := info_parts info38
  have h : Calls Try.prog 57 #[.slice none 0 0, .int .i64 (n : Int)] w _ := Any8.slices_Grow_grow Try.growC i0 _ hi hz0 (by omega) none 0 0 n [] w (Nat.le_refl _) (by omega) (by rw [hz2]; omega) (by omega) (by simp) (fun _ => rfl) (fun a h => by cases h)
  refine h.mono ?_
  rintro e w' ⟨he, rfl⟩
  have hge := grownCap_ge w (0 + n) 0 38
  have hle := grownCap_le_maxLen w (0 + n) 0 38 (by unfold maxLen; omega)
  change e = .returned (.slice (some ⟨w.heap.size, 0, none⟩) 0 (grownCap w (0 + n) 0 38)) at he
  refine ⟨_, he, ?_, (Below.refl _ _).drew.alloc (Nat.le_refl _) _⟩
  refine ⟨rfl, .inr ⟨w.heap.size, _, _, rfl, Nat.le_refl _, heap_alloc_new w.drew _, Nat.zero_le _, hle, ?_, by simp [flat]⟩⟩
  change _ = grownCap w (0 + n) 0 38 * 2
  have hz : ∀ k, (Builtin.zeroCells (Value.agg #[Value.int IntKind.i64 0, Value.int IntKind.i64 0]).cells k).size = k * 2 := fun k => by simp [Builtin.zeroCells, Value.cells]
  rw [Array.size_append, Array.size_append, hz, hz]
  change 0 + (0 + n - 0) * 2 + (grownCap w (0 + n) 0 38 - (0 + n)) * 2 = grownCap w (0 + n) 0 38 * 2
  omega

set_option maxRecDepth 100000 in
set_option maxHeartbeats 4000000 in
theorem concat_any (gb ga oa ca gc oc cc : Nat) (LA LB : List T2) (w : World) (h0 : w.cell? ⟨gb, 0, none⟩ = some (.slice (some ⟨ga, oa, none⟩) LA.length ca)) (h1 : w.cell? ⟨gb, 1, none⟩ = some (.slice (some ⟨gc, oc, none⟩) LB.length cc)) (hgb : gb < w.heap.size) (hA : Cs w ga oa LA) (hB : Cs w gc oc LB) (hla : 1 ≤ LA.length) (hla2 : LA.length ≤ 1000) (hlb : LB.length ≤ 1000) :
    Calls Try.prog 38 #[.slice (some ⟨gb, 0, none⟩) 2 2] w fun e w' => ∃ q cap', e = .returned (.slice (some ⟨q, 0, none⟩) (LA ++ LB).length cap') ∧ Ow w' w.heap.size (.slice (some ⟨q, 0, none⟩) (LA ++ LB).length cap') (LA ++ LB) ∧ Below w.heap.size w w' := by
  have s1 : ¬ ((LA.length : Int) < 0) := by omega
  have s2 : ¬ ((LA.length : Int) + (LB.length : Int) < 0) := by omega
  go_enter Try.func38, Try.ntmps38
  go_wp2
  refine wp_loop_rounds 3 ?_
  rw [rounds_succ]
  go_wp2
  rw [rounds_succ]
  go_wp2
  rw [rounds_succ]
  go_wp2_with (go_at_call 57; refine (grow_any _ _ ?_ ?_).mono ?_; (focus omega); (focus omega); rintro e w1 ⟨cap1, rfl, hO1, hb1⟩)
  have c0 := (hb1.cell (p := ⟨gb, 0, none⟩) hgb).trans h0
  have c1 := (hb1.cell (p := ⟨gb, 1, none⟩) hgb).trans h1
  refine wp_loop_rounds 3 ?_
  rw [rounds_succ]
  go_wp2_with (at_builtin; refine wpList_app rfl _ _ rfl (base := w.heap.size) (M := ([] : List T2)) (B := LA) rfl hO1 _ _ rfl (cs_news (hA.step hb1)) (by simp; omega) hb1.size ?_; intro g2 cap2 w2 hO2 hg2 ha2)
  simp only [List.nil_append] at hO2 ⊢
  have hb2 : Below w.heap.size w w2 := bel_grown hb1 hg2 (fun r hr => by injection hr with hr; omega) (Nat.le_refl _)
  clear c0 c1 hO1 hb1 hg2 ha2 h0
  have c1 := (hb2.cell (p := ⟨gb, 1, none⟩) hgb).trans h1
  have hb2g : w.heap.size ≤ g2 := (hO2.lt g2 rfl).1
  rw [rounds_succ]
  go_wp2_with (at_builtin; refine wpList_app rfl _ _ rfl (base := w.heap.size) (M := LA) (B := LB) rfl hO2 _ _ rfl (cs_news (hB.step hb2)) (by omega) hb2.size ?_; intro g3 cap3 w3 hO3 hg3 ha3)
  have hb3 : Below w.heap.size w w3 := bel_grown hb2 hg3 (fun r hr => by injection hr with hr; omega) (Nat.le_refl _)
  rw [rounds_succ]
  go_wp2
  go_ret
  exact ⟨g3, cap3, by rw [List.length_append]; rfl, hO3, hb3⟩
end Go.Proofs.Ytkpkigllabhejaa
