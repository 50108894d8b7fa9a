/-
  For every list of Records and every Batch the law of Spots returns true: the program answers as the specification, writes into no argument, and its answer owns its memory; no conditions.
-/
import Derived.Test.YtbkiogedipmioaaRows
import Derived.Test.YtbkiogedipmioaaIW2
import Derived.Test.YtbkiogedipmioaaIO2
import Derived.ProofKit
import Derived.Below
import Derived.Carry
import Derived.Lib.SmallJoins
namespace Go.Proofs.Ytbkiogedipmioaa
namespace FnExactSpotsP
open Go.ChangeShapes Go.WideShapes Go.ChangeAt Go.RowKit Go.Joins

theorem own : ownKnob Try.prog.godebug = none := by kernel_rfl
theorem laidOut : laidOutB Try.prog = true := by kernel_rfl
theorem cellsB : Try.prog.cellsOf 24 = 3 := by kernel_rfl

set_option maxRecDepth 100000 in
theorem lifted (os : Os) (started : os.Started) (H : Type) (enc : TypeId × Value → H) :
    ReturnsInHanded {} Try.checked os 4 .any (Rows.fnExactSpotsSpec.pre6 enc Try.prog Try.f4 Rows.fnExactSpotsRow.domain false) (Rows.fnExactSpotsSpec.post enc Try.prog Try.f4 false true false false) := by
  refine returnsInHanded_of_change (C := Try.checked) own started (by kernel_rfl) Try.func4
    (ChangeSpec.witness6 (enc := enc) (C := Try.checked) false ⟨#[], #[.slice none 0 0, .agg #[.int .i64 0, .int .i64 0, .slice none 0 0]], []⟩ 8 (by kernel_rfl) (by kernel_rfl) (by kernel_rfl) (by kernel_rfl)) ?_
  intro W base args ds gs before hval0 hW _ _
  have hval : ∀ (j : Nat) t v, Try.f4.params[j]? = some t → args[j]? = some v → Value.okWide Try.prog W .any base t v := hval0
  have hW' := hW
  obtain ⟨p, q, hA0, hV, rfl, _, _⟩ := hW
  have hA : DataW.TrodAll enc Try.prog W 0 (fun _ => true) true Try.f4.params.toList args.toList ds p := hA0
  rw [Try.params4] at hA hval
  obtain ⟨v0, v1, d0, d1, p0, p1, rfl, rfl, rfl, h0, h1⟩ := trodAll_two hA
  obtain ⟨rfl, rfl⟩ := trodVars_none hV
  have k0 := h0
  have lt0 : ∀ x ∈ p0, x.block < W.heap.size := by obtain ⟨m, hm⟩ := k0; exact DataW.trod_lt m _ _ _ hm
  have k1 := h1
  have lt1 : ∀ x ∈ p1, x.block < W.heap.size := by obtain ⟨m, hm⟩ := k1; exact DataW.trod_lt m _ _ _ hm
  obtain ⟨a0, len0, cap0, rfl⟩ := okWide_slice Try.underlying33 (hval 0 33 v0 rfl rfl)
  obtain ⟨L0, hl0, s0, b0, ms0⟩ : ∃ L : List Rc, L.length = len0 ∧ SlG kL W a0 L ∧ len0 ≤ maxLen ∧ ∀ r ∈ L, r.s.size ≤ maxLen := by
    obtain ⟨fuel, hf⟩ := h0
    exact open_R hf
  obtain ⟨c10, c11, c12, y10, y11, y12, m1, rfl, hd1, hp1, hy10, hy11, hy12⟩ := open_agg3 Try.underlying24 (by kernel_rfl) cellsB (hval 1 24 v1 rfl rfl) h1
  obtain ⟨t1, e10, _, _⟩ := DataW.trod_int Try.underlying2 hy10
  obtain ⟨s1, e11, _, _⟩ := DataW.trod_int Try.underlying2 hy11
  obtain ⟨u1, L1, e12, hl1, sr1, b1, ms1⟩ := I.open_B hy12
  simp at e10 e11
  subst e10 e11 e12
  clear hA0 hval0
  refine (I.exactSpots a0 cap0 L0 len0 hl0 b0 ms0 t1 s1 u1.p u1.n u1.c L1 hl1 b1 ms1 W s0 sr1).mono fun e W' ⟨he, bel⟩ => ?_
  subst he
  exact ⟨_, rfl, _, _, _, [], _, [], hW', trodAll_mk1 (shut_bool Try.underlying4 _), (trodAll_cons_mk (Below.trod laidOut (by kernel_rfl) (of_decide_eq_true (by kernel_rfl)) k0 bel lt0) (trodAll_cons_mk (Below.trod laidOut (by kernel_rfl) (of_decide_eq_true (by kernel_rfl)) k1 bel lt1) trodAll_mk0)), rfl, bel.frame _, fun h => by cases h⟩

theorem over : Rows.fnExactSpotsRow.holds Try.pinned (OpenSpec.ofChange Rows.fnExactSpotsSpec) :=
  OpenClaim.holds_of_wide 4 Try.f4 rfl rfl rfl rfl rfl rfl rfl ⟨rfl, rfl, rfl, rfl, rfl⟩ rfl rfl rfl rfl rfl (by kernel_rfl) Try.func4 (by kernel_rfl)
    (of_decide_eq_true (by kernel_rfl)) (by unfold Func.isWrapper; first | (rw [if_pos (by decide +kernel)]; kernel_rfl) | (rw [if_neg (by decide +kernel)]; exact ⟨rfl, rfl⟩))
    (fun os started H enc _ => lifted os started H enc)
end FnExactSpotsP

theorem fnExactSpots_holds : Rows.FnExactSpotsSaid := FnExactSpotsP.over
#print axioms fnExactSpots_holds
end Go.Proofs.Ytbkiogedipmioaa
