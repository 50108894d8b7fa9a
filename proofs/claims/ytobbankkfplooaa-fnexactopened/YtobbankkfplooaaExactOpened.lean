/-
  For all lists of Batches and Shards the law of Opened returns true: the program answers as the specification, writes into no argument, and its answer owns its memory; no conditions.
-/
import Derived.Test.YtobbankkfplooaaRows
import Derived.Test.YtobbankkfplooaaKQ2
import Derived.Test.YtobbankkfplooaaKGO
import Derived.ProofKit
import Derived.Below
import Derived.Carry
import Derived.Lib.SmallJoins
namespace Go.Proofs.Ytobbankkfplooaa
namespace FnExactOpenedP
open Go.ChangeShapes Go.WideShapes Go.ChangeAt Go.RowKit Go.Joins

theorem own : ownKnob Try.prog.godebug = none := by kernel_rfl
theorem laidOut : laidOutB Try.prog = true := by kernel_rfl

set_option maxRecDepth 100000 in
theorem lifted (os : Os) (started : os.Started) (H : Type) (enc : TypeId × Value → H) :
    ReturnsInHanded {} Try.checked os 4 .any (Rows.fnExactOpenedSpec.pre6 enc Try.prog Try.f4 Rows.fnExactOpenedRow.domain false) (Rows.fnExactOpenedSpec.post enc Try.prog Try.f4 false true false false) := by
  refine returnsInHanded_of_change (C := Try.checked) own started (by kernel_rfl) Try.func4
    (ChangeSpec.witness6 (enc := enc) (C := Try.checked) false ⟨#[], #[.slice none 0 0, .slice none 0 0], []⟩ 8 (by kernel_rfl) (by kernel_rfl) (by kernel_rfl) (by kernel_rfl)) ?_
  intro W base args ds gs before hval0 hW _ _
  have hval : ∀ (j : Nat) t v, Try.f4.params[j]? = some t → args[j]? = some v → Value.okWide Try.prog W .any base t v := hval0
  have hW' := hW
  obtain ⟨p, q, hA0, hV, rfl, _, _⟩ := hW
  have hA : DataW.TrodAll enc Try.prog W 0 (fun _ => true) true Try.f4.params.toList args.toList ds p := hA0
  rw [Try.params4] at hA hval
  obtain ⟨v0, v1, d0, d1, p0, p1, rfl, rfl, rfl, h0, h1⟩ := trodAll_two hA
  obtain ⟨rfl, rfl⟩ := trodVars_none hV
  have k0 := h0
  have lt0 : ∀ x ∈ p0, x.block < W.heap.size := by obtain ⟨m, hm⟩ := k0; exact DataW.trod_lt m _ _ _ hm
  have k1 := h1
  have lt1 : ∀ x ∈ p1, x.block < W.heap.size := by obtain ⟨m, hm⟩ := k1; exact DataW.trod_lt m _ _ _ hm
  obtain ⟨a0, len0, cap0, rfl⟩ := okWide_slice Try.underlying22 (hval 0 22 v0 rfl rfl)
  obtain ⟨s0, QL0, es0, l0, r0, m0, b0⟩ := (by obtain ⟨fuel, hf⟩ := h0; exact K.Y.open_Y hf : ∃ (s : K.Sv) (QL : List K.Y.YQ), Value.slice a0 len0 cap0 = .slice s.p s.n s.c ∧ QL.length = s.n ∧ K.Y.RdLY W s.p QL ∧ K.Y.SmY QL ∧ s.n ≤ maxLen)
  cases es0
  obtain ⟨a1, len1, cap1, rfl⟩ := okWide_slice Try.underlying23 (hval 1 23 v1 rfl rfl)
  obtain ⟨s1, O1, es1, l1, r1, b1, _⟩ := (by obtain ⟨fuel, hf⟩ := h1; exact K.Y.open_I hf : ∃ (s : K.Sv) (L : List Int), Value.slice a1 len1 cap1 = .slice s.p s.n s.c ∧ L.length = s.n ∧ K.SlG K.kI W s.p L ∧ s.n ≤ maxLen ∧ ∀ z ∈ L, K.Y.i64B z)
  cases es1
  clear hA0 hval0
  refine (K.G.exactOpened s0 QL0 s1 O1 W l0 r0 m0 b0 l1 r1 b1).mono fun e W' ⟨he, bel⟩ => ?_
  subst he
  exact ⟨_, rfl, _, _, _, [], _, [], hW', trodAll_mk1 (shut_bool Try.underlying4 _), (trodAll_cons_mk (Below.trod laidOut (by kernel_rfl) (of_decide_eq_true (by kernel_rfl)) k0 bel lt0) (trodAll_cons_mk (Below.trod laidOut (by kernel_rfl) (of_decide_eq_true (by kernel_rfl)) k1 bel lt1) trodAll_mk0)), rfl, bel.frame _, fun h => by cases h⟩

theorem over : Rows.fnExactOpenedRow.holds Try.pinned (OpenSpec.ofChange Rows.fnExactOpenedSpec) :=
  OpenClaim.holds_of_wide 4 Try.f4 rfl rfl rfl rfl rfl rfl rfl ⟨rfl, rfl, rfl, rfl, rfl⟩ rfl rfl rfl rfl rfl (by kernel_rfl) Try.func4 (by kernel_rfl)
    (of_decide_eq_true (by kernel_rfl)) (by unfold Func.isWrapper; first | (rw [if_pos (by decide +kernel)]; kernel_rfl) | (rw [if_neg (by decide +kernel)]; exact ⟨rfl, rfl⟩))
    (fun os started H enc _ => lifted os started H enc)
end FnExactOpenedP

theorem fnExactOpened_holds : Rows.FnExactOpenedSaid := FnExactOpenedP.over
#print axioms fnExactOpened_holds
end Go.Proofs.Ytobbankkfplooaa
