/-
  For every key, tenant and Clause the law of Minted returns true: the program answers as the specification, writes into no argument, and its answer is new memory; the condition: the library's three listed tables start as the program's text lays them (the card ties them).
-/
import Derived.Test.YtachodaecpnhbaaGreatDoorCards
import Derived.Test.YtachodaecpnhbaaGreatDoorTie
import Derived.Test.YtachodaecpnhbaaGreatDoorW1
import Derived.Test.YtachodaecpnhbaaGreatDoorZ4
import Derived.WalkKit
import Derived.ProofKit
import Derived.OpenShut
import Derived.Below
import Derived.Deep.DeepHandedRow
import Derived.Lib.LaidTab
import Derived.Lib.SmallJoins
namespace Go.Proofs.YtachodaecpnhbaaGreatDoor
namespace FnExactMintedP
open Go.ChangeShapes Go.WideShapes Go.ChangeAt Go.RowKit Go.Joins

theorem own : ownKnob Tryz.prog.godebug = none := by kernel_rfl
theorem laidOut : laidOutB Tryz.prog = true := by kernel_rfl
theorem cellsQ : Tryz.prog.cellsOf 48 = 3 := by kernel_rfl
theorem cellsP : Tryz.prog.cellsOf 57 = 3 := by kernel_rfl

set_option maxRecDepth 100000 in
theorem contract (H : Type) (enc : TypeId × Value → H) (W : World) (base : Nat) (args : Array Value) (ds gs : List (DataW H)) (before : List MemPlace)
    (hval0 : ∀ (j : Nat) t v, Tryz.f4.params[j]? = some t → args[j]? = some v → Value.okWide Tryz.prog W .any base t v)
    (hW : DataW.Whole enc Tryz.prog Tryz.f4.params.toList Rows.fnExactMintedSpec.vars false W args.toList ds gs before) (hL : laidMetH Tryz.prog Rows.fnExactMintedRow.laid W) :
    Calls Tryz.prog 4 args W fun e W' => ∃ v, e = .returned v ∧ Rows.fnExactMintedSpec.post enc Tryz.prog Tryz.f4 false true false false W args v W' := by
  have hval := hval0
  have hT : TB W := table hL
  have hW' := hW
  obtain ⟨p, q, hA0, hV, rfl, _, _⟩ := hW
  have hA : DataW.TrodAll enc Tryz.prog W 0 (fun _ => true) true Tryz.f4.params.toList args.toList ds p := hA0
  rw [Tryz.params4] at hA hval
  obtain ⟨v0, v1, v2, d0, d1, d2, p0, p1, p2, rfl, rfl, rfl, h0, h1, h2⟩ := trodAll_three hA
  obtain ⟨rfl, rfl⟩ := trodVars_none hV
  have k0 := h0
  have lt0 : ∀ x ∈ p0, x.block < W.heap.size := by obtain ⟨m, hm⟩ := k0; exact DataW.trod_lt m _ _ _ hm
  have k1 := h1
  have lt1 : ∀ x ∈ p1, x.block < W.heap.size := by obtain ⟨m, hm⟩ := k1; exact DataW.trod_lt m _ _ _ hm
  have k2 := h2
  have lt2 : ∀ x ∈ p2, x.block < W.heap.size := by obtain ⟨m, hm⟩ := k2; exact DataW.trod_lt m _ _ _ hm
  obtain ⟨n0, rfl, hd0, wa0⟩ := open_int Tryz.underlying2 (hval 0 2 v0 rfl rfl) h0
  obtain ⟨n1, rfl, hd1, wa1⟩ := open_int Tryz.underlying2 (hval 1 2 v1 rfl rfl) h1
  obtain ⟨c20, c21, c22, y0, y1, y2, m2, rfl, hd2, hp2, hy0, hy1, hy2⟩ := open_agg3 Tryz.underlying48 (by kernel_rfl) cellsQ (hval 2 48 v2 rfl rfl) h2
  obtain ⟨s2, L2, e0, l2, sr2, b2⟩ := open_C hy0
  obtain ⟨t2, M2, e1, k2l, tr2, bb2⟩ := open_C hy1
  obtain ⟨u2, e2, _, _⟩ := DataW.trod_int Tryz.underlying2 hy2
  simp at e0 e1 e2
  subst e0 e1 e2
  clear hA0 hval0
  refine (exactMinted n0 n1 ⟨L2, M2, u2⟩ s2 t2 b2 bb2 W ⟨sr2, l2, tr2, k2l⟩ hT).mono fun e W' ⟨he, bel⟩ => ?_
  subst he
  exact ⟨_, rfl, _, _, _, [], _, [], hW', trodAll_mk1 (shut_bool Tryz.underlying4 _), (trodAll_cons_mk (Below.trod laidOut (by kernel_rfl) (of_decide_eq_true (by kernel_rfl)) k0 bel lt0) (trodAll_cons_mk (Below.trod laidOut (by kernel_rfl) (of_decide_eq_true (by kernel_rfl)) k1 bel lt1) (trodAll_cons_mk (Below.trod laidOut (by kernel_rfl) (of_decide_eq_true (by kernel_rfl)) k2 bel lt2) trodAll_mk0))), rfl, bel.frame _, fun h => by cases h⟩

theorem laid_met (os : Os) : laidMet Tryz.prog Rows.fnExactMintedRow.laid (({ World.holding Tryz.prog os ⟨#[], #[], []⟩ with heap := setB 0 (Lib.pow10Tab.map fun z => Value.int .u64 z).toArray (setB 2 (tab32.map fun z => Value.int .u8 z).toArray (setB 3 (tab64.map fun z => Value.int .u8 z).toArray (World.holding Tryz.prog os ⟨#[], #[], []⟩).heap)) } : World).forCall (fun _ _ => 0) ⟨#[], #[.int .i64 0, .int .i64 0, .agg #[.slice none 0 0, .slice none 0 0, .int .i64 0]], []⟩).memory :=
  laidMet_of_run' 8 (by kernel_rfl) (by kernel_rfl)
theorem reads (os : Os) {H : Type} (enc : TypeId × Value → H) : ∃ places, DataW.whole enc Tryz.prog (({ World.holding Tryz.prog os ⟨#[], #[], []⟩ with heap := setB 0 (Lib.pow10Tab.map fun z => Value.int .u64 z).toArray (setB 2 (tab32.map fun z => Value.int .u8 z).toArray (setB 3 (tab64.map fun z => Value.int .u8 z).toArray (World.holding Tryz.prog os ⟨#[], #[], []⟩).heap)) } : World).forCall (fun _ _ => 0) ⟨#[], #[.int .i64 0, .int .i64 0, .agg #[.slice none 0 0, .slice none 0 0, .int .i64 0]], []⟩).memory Tryz.f4.params.toList Rows.fnExactMintedSpec.vars false (#[Value.int .i64 0, .int .i64 0, .agg #[.slice none 0 0, .slice none 0 0, .int .i64 0]]).toList 8 = some ([.lit (.int .i64 0), .lit (.int .i64 0), .agg [.nil, .nil, .lit (.int .i64 0)]], [], places) :=
  ⟨[], by kernel_rfl⟩

set_option maxRecDepth 100000 in
theorem lifted (os : Os) (started : os.Started) (H : Type) (enc : TypeId × Value → H) (F : Stop.Interp) :
    ReturnsInHanded {} Tryz.checked os 4 .any ((OpenSpec.ofChange Rows.fnExactMintedSpec).preRow enc Tryz.prog Tryz.f4 Rows.fnExactMintedRow.domain false Rows.fnExactMintedRow.laid) (((OpenSpec.ofChange Rows.fnExactMintedSpec).at F).post enc Tryz.prog Tryz.f4 false true false false) := by
  obtain ⟨places, hx⟩ := reads os enc
  refine returnsInHanded_of_row (C := Tryz.checked) (s := OpenSpec.ofChange Rows.fnExactMintedSpec) own started (by kernel_rfl) Tryz.func4
    (witness_row_at (enc := enc) (C := Tryz.checked) false ({ World.holding Tryz.prog os ⟨#[], #[], []⟩ with heap := setB 0 (Lib.pow10Tab.map fun z => Value.int .u64 z).toArray (setB 2 (tab32.map fun z => Value.int .u8 z).toArray (setB 3 (tab64.map fun z => Value.int .u8 z).toArray (World.holding Tryz.prog os ⟨#[], #[], []⟩).heap)) } : World) #[.int .i64 0, .int .i64 0, .agg #[.slice none 0 0, .slice none 0 0, .int .i64 0]] rfl (by kernel_rfl) (by kernel_rfl) (by kernel_rfl)
      (OpenSpec.preRow_of_cond 8 hx (by kernel_rfl) (fun k hk => by cases hk) (by kernel_rfl) (laid_met os))) ?_
  intro W base args ds gs before hval hW _ _ _ hL _ _
  exact contract H enc W base args ds gs before hval hW hL

theorem said : Rows.FnExactMintedSaid :=
  OpenClaim.holds_of_cond 4 Tryz.f4 rfl rfl rfl rfl rfl rfl rfl ⟨rfl, rfl, rfl, rfl, rfl⟩ rfl rfl rfl rfl rfl (by kernel_rfl) Tryz.func4 (by kernel_rfl)
    (of_decide_eq_true (by kernel_rfl)) (by unfold Func.isWrapper; first | (rw [if_pos (by decide +kernel)]; kernel_rfl) | (rw [if_neg (by decide +kernel)]; exact ⟨rfl, rfl⟩))
    (fun os started H enc _ F => by rw [OpenClaim.pre_eq_preRow]; exact lifted os started H enc F)

theorem plain (f : FuncId) (fn : Func) (hf : Tryz.pinned.checked.prog.funcNamed "loop.example/g00301/laws.FnExactMinted" = some f) (hfn : Tryz.pinned.checked.prog.funcs[f]? = some fn) :
    false = Tryz.pinned.checked.prog.looks [] ∧ ∀ (j : Nat) t, fn.params[j]? = some t → Tryz.pinned.checked.prog.wantsStandIn t = false := by
  obtain rfl : f = 4 := Option.some.inj ((show Tryz.prog.funcNamed "loop.example/g00301/laws.FnExactMinted" = some 4 by kernel_rfl).symm.trans hf) |>.symm
  obtain rfl : fn = Tryz.f4 := (Option.some.inj (Tryz.func4.symm.trans hfn)).symm
  refine ⟨by kernel_rfl, fun j t ht => ?_⟩
  rw [Tryz.params4] at ht
  have hm : t = 2 ∨ t = 48 := by
    have := Array.mem_of_getElem? ht
    simp at this
    omega
  rcases hm with rfl | rfl
  · exact (show Tryz.prog.wantsStandIn 2 = false by kernel_rfl)
  · exact (show Tryz.prog.wantsStandIn 48 = false by kernel_rfl)
end FnExactMintedP

theorem fnExactMinted_card : Rows.FnExactMintedCardSaid :=
  Claim7.holds_tied_plain_at .later [] _ _ _ _ FnExactMintedP.said (fun _ h => by cases h) (by kernel_rfl) (fun _ h => by cases h) fnExactMinted_row_tie rfl ⟨rfl, rfl⟩ (by kernel_rfl) rfl FnExactMintedP.plain (by kernel_rfl)
#print axioms fnExactMinted_card
end Go.Proofs.YtachodaecpnhbaaGreatDoor
