/-
  For every Tree, Spot and number the law of NearTo returns true: the program answers as the specification, writes into no argument, and its answer is memory of its own; no condition.
-/
import Derived.Test.YtipfcmfcdfofmaaGreatRows
import Derived.Test.YtipfcmfcdfofmaaGreatXQ
import Derived.Test.YtipfcmfcdfofmaaGreatXL
import Derived.ProofKit
import Derived.Below
import Derived.Lib.SmallJoins
namespace Go.Proofs.YtipfcmfcdfofmaaGreat
namespace FnExactNearToP
open Go.ChangeShapes Go.WideShapes Go.ChangeAt Go.RowKit Go.Joins

theorem own : ownKnob Tryz.prog.godebug = none := by kernel_rfl
theorem cells55 : Tryz.prog.cellsOf 55 = 2 := by kernel_rfl
theorem laidOut : laidOutB Tryz.prog = true := by kernel_rfl
theorem cells63 : Tryz.prog.cellsOf 63 = 2 := by kernel_rfl

set_option maxRecDepth 100000 in
theorem lifted (os : Os) (started : os.Started) (H : Type) (enc : TypeId × Value → H) :
    ReturnsInHanded {} Tryz.checked os 5 .any (Rows.fnExactNearToSpec.pre6 enc Tryz.prog Tryz.f5 Rows.fnExactNearToRow.domain false) (Rows.fnExactNearToSpec.post enc Tryz.prog Tryz.f5 false true false false) := by
  refine returnsInHanded_of_change (C := Tryz.checked) own started (by kernel_rfl) Tryz.func5
    (ChangeSpec.witness6 (enc := enc) (C := Tryz.checked) false ⟨#[], #[.agg #[.slice none 0 0, .slice none 0 0], .agg #[.int .i64 0, .int .i64 0], .int .i64 0], []⟩ 8 (by kernel_rfl) (by kernel_rfl) (by kernel_rfl) (by kernel_rfl)) ?_
  intro W base args ds gs before hval0 hW _ _
  have hval : ∀ (j : Nat) t v, Tryz.f5.params[j]? = some t → args[j]? = some v → Value.okWide Tryz.prog W .any base t v := hval0
  have hW' := hW
  obtain ⟨p, q, hA0, hV, rfl, _, _⟩ := hW
  have hA : DataW.TrodAll enc Tryz.prog W 0 (fun _ => true) true Tryz.f5.params.toList args.toList ds p := hA0
  rw [Tryz.params5] at hA hval
  obtain ⟨v0, v1, v2, d0, d1, d2, p0, p1, p2, rfl, rfl, rfl, h0, h1, h2⟩ := trodAll_three hA
  obtain ⟨rfl, rfl⟩ := trodVars_none hV
  have k0 := h0
  have lt0 : ∀ x ∈ p0, x.block < W.heap.size := by obtain ⟨m, hm⟩ := k0; exact DataW.trod_lt m _ _ _ hm
  have k1 := h1
  have lt1 : ∀ x ∈ p1, x.block < W.heap.size := by obtain ⟨m, hm⟩ := k1; exact DataW.trod_lt m _ _ _ hm
  have k2 := h2
  have lt2 : ∀ x ∈ p2, x.block < W.heap.size := by obtain ⟨m, hm⟩ := k2; exact DataW.trod_lt m _ _ _ hm
  obtain ⟨c0, c1, y0, y1, m, rfl, hd0, hp0, hy0, hy1⟩ := open_agg2 Tryz.underlying55 (by kernel_rfl) cells55 (hval 0 55 v0 rfl rfl) h0
  obtain ⟨a0, len0, cap0, rfl⟩ : ∃ p len cap, c0 = .slice p len cap := by
    rcases Go.Deep.open_slice Tryz.underlying52 hy0 with ⟨hcs, _⟩ | ⟨a, len, cap, _, _, _, _, hcs, _⟩
    · simp at hcs; exact ⟨_, _, _, hcs⟩
    · simp at hcs; exact ⟨_, _, _, hcs⟩
  obtain ⟨L0, hl0, s0, b0⟩ : ∃ L : List Mk, L.length = len0 ∧ SlG kL W a0 L ∧ len0 ≤ maxLen := open_M hy0
  obtain ⟨s, NL, e1, hn1, s1, hP, b1⟩ := open_N hy1
  simp at e1
  subst e1
  obtain ⟨e0c, e1c, z0, z1, m1, rfl, hd1, hp1, hz0, hz1⟩ := open_agg2 Tryz.underlying63 (by kernel_rfl) cells63 (hval 1 63 v1 rfl rfl) h1
  obtain ⟨n10, f0, g10, wn10⟩ := DataW.trod_int Tryz.underlying2 hz0
  obtain ⟨n11, f1, g11, wn11⟩ := DataW.trod_int Tryz.underlying2 hz1
  simp at f0 f1
  subst f0 f1
  obtain ⟨n2, rfl, hd2, wa2⟩ := open_int Tryz.underlying2 (hval 2 2 v2 rfl rfl) h2
  clear hA0 hval0
  refine (exactNearTo a0 s.p len0 s.n cap0 s.c L0 NL hl0 hn1 b0 b1 n10 n11 n2 W s0 s1 hP).mono fun e W' ⟨he, bel⟩ => ?_
  subst he
  exact ⟨_, rfl, _, _, _, [], _, [], hW', trodAll_mk1 (shut_bool Tryz.underlying4 _), (trodAll_cons_mk (Below.trod laidOut (by kernel_rfl) (of_decide_eq_true (by kernel_rfl)) k0 bel lt0) (trodAll_cons_mk (Below.trod laidOut (by kernel_rfl) (of_decide_eq_true (by kernel_rfl)) k1 bel lt1) (trodAll_cons_mk (Below.trod laidOut (by kernel_rfl) (of_decide_eq_true (by kernel_rfl)) k2 bel lt2) trodAll_mk0))), rfl, bel.frame _, fun h => by cases h⟩

theorem over : Rows.fnExactNearToRow.holds Tryz.pinned (OpenSpec.ofChange Rows.fnExactNearToSpec) :=
  OpenClaim.holds_of_wide 5 Tryz.f5 rfl rfl rfl rfl rfl rfl rfl ⟨rfl, rfl, rfl, rfl, rfl⟩ rfl rfl rfl rfl rfl (by kernel_rfl) Tryz.func5 (by kernel_rfl)
    (of_decide_eq_true (by kernel_rfl)) (by unfold Func.isWrapper; first | (rw [if_pos (by decide +kernel)]; kernel_rfl) | (rw [if_neg (by decide +kernel)]; exact ⟨rfl, rfl⟩))
    (fun os started H enc _ => lifted os started H enc)
end FnExactNearToP

theorem fnExactNearTo_holds : Rows.FnExactNearToSaid := FnExactNearToP.over
#print axioms fnExactNearTo_holds
end Go.Proofs.YtipfcmfcdfofmaaGreat
