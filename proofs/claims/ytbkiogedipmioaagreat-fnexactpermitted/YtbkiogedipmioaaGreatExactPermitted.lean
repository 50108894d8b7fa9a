/-
  For every Paper, every list of Records, every Batch and every number for now the law of Permitted returns true: the program answers as the specification and writes into no argument; no conditions.
-/
import Derived.Test.YtbkiogedipmioaaGreatRows
import Derived.Test.YtbkiogedipmioaaGreatPT2
import Derived.Test.YtbkiogedipmioaaGreatRIO2
import Derived.Test.YtbkiogedipmioaaGreatZ4
import Derived.ProofKit
import Derived.Below
import Derived.Carry
import Derived.Lib.SmallJoins
namespace Go.Proofs.YtbkiogedipmioaaGreat
namespace FnExactPermittedP
open Go.ChangeShapes Go.WideShapes Go.ChangeAt Go.RowKit Go.Joins

theorem own : ownKnob Tryz.prog.godebug = none := by kernel_rfl
theorem laidOut : laidOutB Tryz.prog = true := by kernel_rfl
theorem cellsB : Tryz.prog.cellsOf 50 = 3 := by kernel_rfl
theorem cellsP : Tryz.prog.cellsOf 46 = 3 := by kernel_rfl

set_option maxRecDepth 100000 in
theorem lifted (os : Os) (started : os.Started) (H : Type) (enc : TypeId × Value → H) :
    ReturnsInHanded {} Tryz.checked os 4 .any (Rows.fnExactPermittedSpec.pre6 enc Tryz.prog Tryz.f4 Rows.fnExactPermittedRow.domain false) (Rows.fnExactPermittedSpec.post enc Tryz.prog Tryz.f4 false true false false) := by
  refine returnsInHanded_of_change (C := Tryz.checked) own started (by kernel_rfl) Tryz.func4
    (ChangeSpec.witness6 (enc := enc) (C := Tryz.checked) false ⟨#[], #[.agg #[.int .i64 0, .slice none 0 0, .int .i64 0], .slice none 0 0, .agg #[.int .i64 0, .int .i64 0, .slice none 0 0], .int .i64 0], []⟩ 8 (by kernel_rfl) (by kernel_rfl) (by kernel_rfl) (by kernel_rfl)) ?_
  intro W base args ds gs before hval0 hW _ _
  have hval : ∀ (j : Nat) t v, Tryz.f4.params[j]? = some t → args[j]? = some v → Value.okWide Tryz.prog W .any base t v := hval0
  have hW' := hW
  obtain ⟨p, q, hA0, hV, rfl, _, _⟩ := hW
  have hA : DataW.TrodAll enc Tryz.prog W 0 (fun _ => true) true Tryz.f4.params.toList args.toList ds p := hA0
  rw [Tryz.params4] at hA hval
  obtain ⟨v0, v1, v2, v3, d0, d1, d2, d3, p0, p1, p2, p3, rfl, rfl, rfl, h0, h1, h2, h3⟩ := trodAll_four hA
  obtain ⟨rfl, rfl⟩ := trodVars_none hV
  have k0 := h0
  have lt0 : ∀ x ∈ p0, x.block < W.heap.size := by obtain ⟨m, hm⟩ := k0; exact DataW.trod_lt m _ _ _ hm
  have k1 := h1
  have lt1 : ∀ x ∈ p1, x.block < W.heap.size := by obtain ⟨m, hm⟩ := k1; exact DataW.trod_lt m _ _ _ hm
  have k2 := h2
  have lt2 : ∀ x ∈ p2, x.block < W.heap.size := by obtain ⟨m, hm⟩ := k2; exact DataW.trod_lt m _ _ _ hm
  have k3 := h3
  have lt3 : ∀ x ∈ p3, x.block < W.heap.size := by obtain ⟨m, hm⟩ := k3; exact DataW.trod_lt m _ _ _ hm
  obtain ⟨c00, c01, c02, y00, y01, y02, m0, rfl, hd0, hp0, hy00, hy01, hy02⟩ := open_agg3 Tryz.underlying46 (by kernel_rfl) cellsP (hval 0 46 v0 rfl rfl) h0
  obtain ⟨tn0, e00, _, _⟩ := DataW.trod_int Tryz.underlying2 hy00
  obtain ⟨u0, QL0, e01, l0, sr0, sb0, bd0⟩ := open_Q hy01
  obtain ⟨tag0, e02, _, _⟩ := DataW.trod_int Tryz.underlying2 hy02
  simp at e00 e01 e02
  subst e00 e01 e02
  obtain ⟨a1, len1, cap1, rfl⟩ := okWide_slice Tryz.underlying47 (hval 1 47 v1 rfl rfl)
  obtain ⟨L1, hl1, s1, b1, ms1⟩ : ∃ L : List R.Rc, L.length = len1 ∧ R.SlG R.kL W a1 L ∧ len1 ≤ maxLen ∧ ∀ r ∈ L, r.s.size ≤ maxLen := by
    obtain ⟨fuel, hf⟩ := h1
    exact R.open_R hf
  obtain ⟨c20, c21, c22, y20, y21, y22, m2, rfl, hd2, hp2, hy20, hy21, hy22⟩ := open_agg3 Tryz.underlying50 (by kernel_rfl) cellsB (hval 2 50 v2 rfl rfl) h2
  obtain ⟨t2, e20, _, _⟩ := DataW.trod_int Tryz.underlying2 hy20
  obtain ⟨s2, e21, _, _⟩ := DataW.trod_int Tryz.underlying2 hy21
  obtain ⟨u2, L2, e22, hl2, sr2, b2, ms2⟩ := R.I.open_B hy22
  simp at e20 e21
  subst e20 e21 e22
  obtain ⟨n3, rfl, hd3, wa3⟩ := open_int Tryz.underlying2 (hval 3 2 v3 rfl rfl) h3
  clear hA0 hval0
  refine (exactPermitted tn0 tag0 u0.p u0.n u0.c QL0 l0 bd0 sb0 a1 cap1 L1 len1 hl1 b1 ms1 t2 s2 u2.p u2.n u2.c L2 hl2 b2 ms2 n3 W sr0 s1 sr2).mono fun e W' ⟨he, bel⟩ => ?_
  subst he
  exact ⟨_, rfl, _, _, _, [], _, [], hW', trodAll_mk1 (shut_bool Tryz.underlying4 _), (trodAll_cons_mk (Below.trod laidOut (by kernel_rfl) (of_decide_eq_true (by kernel_rfl)) k0 bel lt0) (trodAll_cons_mk (Below.trod laidOut (by kernel_rfl) (of_decide_eq_true (by kernel_rfl)) k1 bel lt1) (trodAll_cons_mk (Below.trod laidOut (by kernel_rfl) (of_decide_eq_true (by kernel_rfl)) k2 bel lt2) (trodAll_cons_mk (Below.trod laidOut (by kernel_rfl) (of_decide_eq_true (by kernel_rfl)) k3 bel lt3) trodAll_mk0)))), rfl, bel.frame _, fun h => by cases h⟩

theorem over : Rows.fnExactPermittedRow.holds Tryz.pinned (OpenSpec.ofChange Rows.fnExactPermittedSpec) :=
  OpenClaim.holds_of_wide 4 Tryz.f4 rfl rfl rfl rfl rfl rfl rfl ⟨rfl, rfl, rfl, rfl, rfl⟩ rfl rfl rfl rfl rfl (by kernel_rfl) Tryz.func4 (by kernel_rfl)
    (of_decide_eq_true (by kernel_rfl)) (by unfold Func.isWrapper; first | (rw [if_pos (by decide +kernel)]; kernel_rfl) | (rw [if_neg (by decide +kernel)]; exact ⟨rfl, rfl⟩))
    (fun os started H enc _ => lifted os started H enc)
end FnExactPermittedP

theorem fnExactPermitted_holds : Rows.FnExactPermittedSaid := FnExactPermittedP.over
#print axioms fnExactPermitted_holds
end Go.Proofs.YtbkiogedipmioaaGreat
