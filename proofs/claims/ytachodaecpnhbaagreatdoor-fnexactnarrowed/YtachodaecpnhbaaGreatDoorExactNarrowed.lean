/-
  For every Paper and every Clause the law of Narrowed returns true: the program answers as the specification, writes into no argument, and its answer is new memory; the condition: the library's three listed tables start as the program's text lays them (the card ties them).
-/
import Derived.Test.YtachodaecpnhbaaGreatDoorCards
import Derived.Test.YtachodaecpnhbaaGreatDoorTie
import Derived.Test.YtachodaecpnhbaaGreatDoorW2
import Derived.Test.YtachodaecpnhbaaGreatDoorZ4
import Derived.WalkKit
import Derived.ProofKit
import Derived.OpenShut
import Derived.Below
import Derived.Deep.DeepHandedRow
import Derived.Lib.LaidTab
import Derived.Lib.SmallJoins
namespace Go.Proofs.YtachodaecpnhbaaGreatDoor
namespace FnExactNarrowedP
open Go.ChangeShapes Go.WideShapes Go.ChangeAt Go.RowKit Go.Joins

theorem own : ownKnob Tryz.prog.godebug = none := by kernel_rfl
theorem laidOut : laidOutB Tryz.prog = true := by kernel_rfl
theorem cellsQ : Tryz.prog.cellsOf 48 = 3 := by kernel_rfl
theorem cellsP : Tryz.prog.cellsOf 57 = 3 := by kernel_rfl

set_option maxRecDepth 100000 in
theorem contract (H : Type) (enc : TypeId × Value → H) (W : World) (base : Nat) (args : Array Value) (ds gs : List (DataW H)) (before : List MemPlace)
    (hval0 : ∀ (j : Nat) t v, Tryz.f5.params[j]? = some t → args[j]? = some v → Value.okWide Tryz.prog W .any base t v)
    (hW : DataW.Whole enc Tryz.prog Tryz.f5.params.toList Rows.fnExactNarrowedSpec.vars false W args.toList ds gs before) (hL : laidMetH Tryz.prog Rows.fnExactNarrowedRow.laid W) :
    Calls Tryz.prog 5 args W fun e W' => ∃ v, e = .returned v ∧ Rows.fnExactNarrowedSpec.post enc Tryz.prog Tryz.f5 false true false false W args v W' := by
  have hval := hval0
  have hT : TB W := table hL
  have hW' := hW
  obtain ⟨p, q, hA0, hV, rfl, _, _⟩ := hW
  have hA : DataW.TrodAll enc Tryz.prog W 0 (fun _ => true) true Tryz.f5.params.toList args.toList ds p := hA0
  rw [Tryz.params5] at hA hval
  obtain ⟨v0, v1, d0, d1, p0, p1, rfl, rfl, rfl, h0, h1⟩ := trodAll_two hA
  obtain ⟨rfl, rfl⟩ := trodVars_none hV
  have k0 := h0
  have lt0 : ∀ x ∈ p0, x.block < W.heap.size := by obtain ⟨m, hm⟩ := k0; exact DataW.trod_lt m _ _ _ hm
  have k1 := h1
  have lt1 : ∀ x ∈ p1, x.block < W.heap.size := by obtain ⟨m, hm⟩ := k1; exact DataW.trod_lt m _ _ _ hm
  obtain ⟨c00, c01, c02, y0, y1, y2, m0, rfl, hd0, hp0, hy0, hy1, hy2⟩ := open_agg3 Tryz.underlying57 (by kernel_rfl) cellsP (hval 0 57 v0 rfl rfl) h0
  obtain ⟨tn0, e0, _, _⟩ := DataW.trod_int Tryz.underlying2 hy0
  obtain ⟨s0, QL0, e1, l0, sr0, sb0, b0⟩ := open_Q hy1
  obtain ⟨tag0, e2, _, _⟩ := DataW.trod_int Tryz.underlying2 hy2
  simp at e0 e1 e2
  subst e0 e1 e2
  obtain ⟨c10, c11, c12, y0, y1, y2, m1, rfl, hd1, hp1, hy0, hy1, hy2⟩ := open_agg3 Tryz.underlying48 (by kernel_rfl) cellsQ (hval 1 48 v1 rfl rfl) h1
  obtain ⟨s1, L1, e0, l1, sr1, b1⟩ := open_C hy0
  obtain ⟨t1, M1, e1, k1l, tr1, bb1⟩ := open_C hy1
  obtain ⟨u1, e2, _, _⟩ := DataW.trod_int Tryz.underlying2 hy2
  simp at e0 e1 e2
  subst e0 e1 e2
  clear hA0 hval0
  refine (exactNarrowed tn0 tag0 s0.p s0.n s0.c QL0 ⟨L1, M1, u1⟩ s1 t1 l0 b0 sb0 b1 bb1 W sr0 ⟨sr1, l1, tr1, k1l⟩ hT).mono fun e W' ⟨he, bel⟩ => ?_
  subst he
  exact ⟨_, rfl, _, _, _, [], _, [], hW', trodAll_mk1 (shut_bool Tryz.underlying4 _), (trodAll_cons_mk (Below.trod laidOut (by kernel_rfl) (of_decide_eq_true (by kernel_rfl)) k0 bel lt0) (trodAll_cons_mk (Below.trod laidOut (by kernel_rfl) (of_decide_eq_true (by kernel_rfl)) k1 bel lt1) trodAll_mk0)), rfl, bel.frame _, fun h => by cases h⟩

theorem laid_met (os : Os) : laidMet Tryz.prog Rows.fnExactNarrowedRow.laid (({ World.holding Tryz.prog os ⟨#[], #[], []⟩ with heap := setB 0 (Lib.pow10Tab.map fun z => Value.int .u64 z).toArray (setB 2 (tab32.map fun z => Value.int .u8 z).toArray (setB 3 (tab64.map fun z => Value.int .u8 z).toArray (World.holding Tryz.prog os ⟨#[], #[], []⟩).heap)) } : World).forCall (fun _ _ => 0) ⟨#[], #[.agg #[.int .i64 0, .slice none 0 0, .int .i64 0], .agg #[.slice none 0 0, .slice none 0 0, .int .i64 0]], []⟩).memory :=
  laidMet_of_run' 8 (by kernel_rfl) (by kernel_rfl)
theorem reads (os : Os) {H : Type} (enc : TypeId × Value → H) : ∃ places, DataW.whole enc Tryz.prog (({ World.holding Tryz.prog os ⟨#[], #[], []⟩ with heap := setB 0 (Lib.pow10Tab.map fun z => Value.int .u64 z).toArray (setB 2 (tab32.map fun z => Value.int .u8 z).toArray (setB 3 (tab64.map fun z => Value.int .u8 z).toArray (World.holding Tryz.prog os ⟨#[], #[], []⟩).heap)) } : World).forCall (fun _ _ => 0) ⟨#[], #[.agg #[.int .i64 0, .slice none 0 0, .int .i64 0], .agg #[.slice none 0 0, .slice none 0 0, .int .i64 0]], []⟩).memory Tryz.f5.params.toList Rows.fnExactNarrowedSpec.vars false (#[Value.agg #[.int .i64 0, .slice none 0 0, .int .i64 0], .agg #[.slice none 0 0, .slice none 0 0, .int .i64 0]]).toList 8 = some ([.agg [.lit (.int .i64 0), .nil, .lit (.int .i64 0)], .agg [.nil, .nil, .lit (.int .i64 0)]], [], places) :=
  ⟨[], by kernel_rfl⟩

set_option maxRecDepth 100000 in
theorem lifted (os : Os) (started : os.Started) (H : Type) (enc : TypeId × Value → H) (F : Stop.Interp) :
    ReturnsInHanded {} Tryz.checked os 5 .any ((OpenSpec.ofChange Rows.fnExactNarrowedSpec).preRow enc Tryz.prog Tryz.f5 Rows.fnExactNarrowedRow.domain false Rows.fnExactNarrowedRow.laid) (((OpenSpec.ofChange Rows.fnExactNarrowedSpec).at F).post enc Tryz.prog Tryz.f5 false true false false) := by
  obtain ⟨places, hx⟩ := reads os enc
  refine returnsInHanded_of_row (C := Tryz.checked) (s := OpenSpec.ofChange Rows.fnExactNarrowedSpec) own started (by kernel_rfl) Tryz.func5
    (witness_row_at (enc := enc) (C := Tryz.checked) false ({ World.holding Tryz.prog os ⟨#[], #[], []⟩ with heap := setB 0 (Lib.pow10Tab.map fun z => Value.int .u64 z).toArray (setB 2 (tab32.map fun z => Value.int .u8 z).toArray (setB 3 (tab64.map fun z => Value.int .u8 z).toArray (World.holding Tryz.prog os ⟨#[], #[], []⟩).heap)) } : World) #[.agg #[.int .i64 0, .slice none 0 0, .int .i64 0], .agg #[.slice none 0 0, .slice none 0 0, .int .i64 0]] rfl (by kernel_rfl) (by kernel_rfl) (by kernel_rfl)
      (OpenSpec.preRow_of_cond 8 hx (by kernel_rfl) (fun k hk => by cases hk) (by kernel_rfl) (laid_met os))) ?_
  intro W base args ds gs before hval hW _ _ _ hL _ _
  exact contract H enc W base args ds gs before hval hW hL

theorem said : Rows.FnExactNarrowedSaid :=
  OpenClaim.holds_of_cond 5 Tryz.f5 rfl rfl rfl rfl rfl rfl rfl ⟨rfl, rfl, rfl, rfl, rfl⟩ rfl rfl rfl rfl rfl (by kernel_rfl) Tryz.func5 (by kernel_rfl)
    (of_decide_eq_true (by kernel_rfl)) (by unfold Func.isWrapper; first | (rw [if_pos (by decide +kernel)]; kernel_rfl) | (rw [if_neg (by decide +kernel)]; exact ⟨rfl, rfl⟩))
    (fun os started H enc _ F => by rw [OpenClaim.pre_eq_preRow]; exact lifted os started H enc F)

theorem plain (f : FuncId) (fn : Func) (hf : Tryz.pinned.checked.prog.funcNamed "loop.example/g00301/laws.FnExactNarrowed" = some f) (hfn : Tryz.pinned.checked.prog.funcs[f]? = some fn) :
    false = Tryz.pinned.checked.prog.looks [] ∧ ∀ (j : Nat) t, fn.params[j]? = some t → Tryz.pinned.checked.prog.wantsStandIn t = false := by
  obtain rfl : f = 5 := Option.some.inj ((show Tryz.prog.funcNamed "loop.example/g00301/laws.FnExactNarrowed" = some 5 by kernel_rfl).symm.trans hf) |>.symm
  obtain rfl : fn = Tryz.f5 := (Option.some.inj (Tryz.func5.symm.trans hfn)).symm
  refine ⟨by kernel_rfl, fun j t ht => ?_⟩
  rw [Tryz.params5] at ht
  have hm : t = 48 ∨ t = 57 := by
    have := Array.mem_of_getElem? ht
    simp at this
    exact this.symm
  rcases hm with rfl | rfl
  · exact (show Tryz.prog.wantsStandIn 48 = false by kernel_rfl)
  · exact (show Tryz.prog.wantsStandIn 57 = false by kernel_rfl)
end FnExactNarrowedP

theorem fnExactNarrowed_card : Rows.FnExactNarrowedCardSaid :=
  Claim7.holds_tied_plain_at .later [] _ _ _ _ FnExactNarrowedP.said (fun _ h => by cases h) (by kernel_rfl) (fun _ h => by cases h) fnExactNarrowed_row_tie rfl ⟨rfl, rfl⟩ (by kernel_rfl) rfl FnExactNarrowedP.plain (by kernel_rfl)
#print axioms fnExactNarrowed_card
end Go.Proofs.YtachodaecpnhbaaGreatDoor
