/-
  For every Entry the law of ShowEntry returns true: the program answers as the specification and writes into no argument; the condition: the library's three listed tables start as the program's text lays them (the card ties them).
-/
import Derived.Test.YtgpfdoiiholncaaDoorCards
import Derived.Test.YtgpfdoiiholncaaDoorTie
import Derived.Test.YtgpfdoiiholncaaDoorKW5
import Derived.Test.YtgpfdoiiholncaaDoorKY4
import Derived.Test.YtgpfdoiiholncaaDoorKIO2
import Derived.WalkKit
import Derived.ProofKit
import Derived.OpenShut
import Derived.Below
import Derived.Deep.DeepHandedRow
import Derived.Lib.LaidTab
import Derived.Lib.SmallJoins
namespace Go.Proofs.YtgpfdoiiholncaaDoor
namespace FnExactShowEntryP
open Go.ChangeShapes Go.WideShapes Go.ChangeAt Go.RowKit Go.Joins

theorem own : ownKnob Tryd.prog.godebug = none := by kernel_rfl
theorem laidOut : laidOutB Tryd.prog = true := by kernel_rfl
theorem cells24 : Tryd.prog.cellsOf 24 = 4 := by kernel_rfl

set_option maxRecDepth 100000 in
theorem contract (H : Type) (enc : TypeId × Value → H) (W : World) (base : Nat) (args : Array Value) (ds gs : List (DataW H)) (before : List MemPlace)
    (hval0 : ∀ (j : Nat) t v, Tryd.f3.params[j]? = some t → args[j]? = some v → Value.okWide Tryd.prog W .any base t v)
    (hW : DataW.Whole enc Tryd.prog Tryd.f3.params.toList Rows.fnExactShowEntrySpec.vars false W args.toList ds gs before) (hL : laidMetH Tryd.prog Rows.fnExactShowEntryRow.laid W) :
    Calls Tryd.prog 3 args W fun e W' => ∃ v, e = .returned v ∧ Rows.fnExactShowEntrySpec.post enc Tryd.prog Tryd.f3 false true false false W args v W' := by
  have hval := hval0
  have hT : K.TB W := K.table hL
  have hW' := hW
  obtain ⟨p, q, hA0, hV, rfl, _, _⟩ := hW
  have hA : DataW.TrodAll enc Tryd.prog W 0 (fun _ => true) true Tryd.f3.params.toList args.toList ds p := hA0
  rw [Tryd.params3] at hA hval
  obtain ⟨v0, d0, rfl, rfl, h0⟩ := trodAll_one hA
  obtain ⟨rfl, rfl⟩ := trodVars_none hV
  have k0 := h0
  have lt0 : ∀ x ∈ p, x.block < W.heap.size := by obtain ⟨m, hm⟩ := k0; exact DataW.trod_lt m _ _ _ hm
  obtain ⟨c00, c01, c02, c03, y00, y01, y02, y03, m0, rfl, hd0, hp0, hy00, hy01, hy02, hy03⟩ := open_agg4 Tryd.underlying24 (by kernel_rfl) cells24 (hval 0 24 v0 rfl rfl) h0
  obtain ⟨t0, e00, _, _⟩ := DataW.trod_int Tryd.underlying2 hy00
  obtain ⟨s0, e01, _, _⟩ := DataW.trod_int Tryd.underlying2 hy01
  obtain ⟨q0, e02, _, _⟩ := DataW.trod_int Tryd.underlying2 hy02
  obtain ⟨u0, L0, e03, hl0, sr0, b0, ms0⟩ := K.I.open_B hy03
  simp at e00 e01 e02
  subst e00 e01 e02 e03
  clear hA0 hval0
  refine (K.I.exactShowEntry t0 s0 q0 u0.p u0.n u0.c L0 hl0 b0 ms0 W sr0 hT).mono fun e W' ⟨he, bel⟩ => ?_
  subst he
  exact ⟨_, rfl, _, _, _, [], _, [], hW', trodAll_mk1 (shut_bool Tryd.underlying4 _), (trodAll_cons_mk (Below.trod laidOut (by kernel_rfl) (of_decide_eq_true (by kernel_rfl)) k0 bel lt0) trodAll_mk0), rfl, bel.frame _, fun h => by cases h⟩

theorem laid_met (os : Os) : laidMet Tryd.prog Rows.fnExactShowEntryRow.laid (({ World.holding Tryd.prog os ⟨#[], #[], []⟩ with heap := K.laySet 1 (Lib.pow10Tab.map fun z => Value.int .u64 z).toArray (K.laySet 2 (K.tab32.map fun z => Value.int .u8 z).toArray (K.laySet 3 (K.tab64.map fun z => Value.int .u8 z).toArray (World.holding Tryd.prog os ⟨#[], #[], []⟩).heap)) } : World).forCall (fun _ _ => 0) ⟨#[], #[.agg #[.int .i64 0, .int .i64 0, .int .i64 0, .slice none 0 0]], []⟩).memory :=
  laidMet_of_run' 8 (by kernel_rfl) (by kernel_rfl)
theorem reads (os : Os) {H : Type} (enc : TypeId × Value → H) : ∃ places, DataW.whole enc Tryd.prog (({ World.holding Tryd.prog os ⟨#[], #[], []⟩ with heap := K.laySet 1 (Lib.pow10Tab.map fun z => Value.int .u64 z).toArray (K.laySet 2 (K.tab32.map fun z => Value.int .u8 z).toArray (K.laySet 3 (K.tab64.map fun z => Value.int .u8 z).toArray (World.holding Tryd.prog os ⟨#[], #[], []⟩).heap)) } : World).forCall (fun _ _ => 0) ⟨#[], #[.agg #[.int .i64 0, .int .i64 0, .int .i64 0, .slice none 0 0]], []⟩).memory Tryd.f3.params.toList Rows.fnExactShowEntrySpec.vars false #[Value.agg #[.int .i64 0, .int .i64 0, .int .i64 0, .slice none 0 0]].toList 8 = some ([.agg [.lit (.int .i64 0), .lit (.int .i64 0), .lit (.int .i64 0), .nil]], [], places) :=
  ⟨[], by kernel_rfl⟩

set_option maxRecDepth 100000 in
theorem lifted (os : Os) (started : os.Started) (H : Type) (enc : TypeId × Value → H) (F : Stop.Interp) :
    ReturnsInHanded {} Tryd.checked os 3 .any ((OpenSpec.ofChange Rows.fnExactShowEntrySpec).preRow enc Tryd.prog Tryd.f3 Rows.fnExactShowEntryRow.domain false Rows.fnExactShowEntryRow.laid) (((OpenSpec.ofChange Rows.fnExactShowEntrySpec).at F).post enc Tryd.prog Tryd.f3 false true false false) := by
  obtain ⟨places, hx⟩ := reads os enc
  refine returnsInHanded_of_row (C := Tryd.checked) (s := OpenSpec.ofChange Rows.fnExactShowEntrySpec) own started (by kernel_rfl) Tryd.func3
    (witness_row_at (enc := enc) (C := Tryd.checked) false ({ World.holding Tryd.prog os ⟨#[], #[], []⟩ with heap := K.laySet 1 (Lib.pow10Tab.map fun z => Value.int .u64 z).toArray (K.laySet 2 (K.tab32.map fun z => Value.int .u8 z).toArray (K.laySet 3 (K.tab64.map fun z => Value.int .u8 z).toArray (World.holding Tryd.prog os ⟨#[], #[], []⟩).heap)) } : World) #[.agg #[.int .i64 0, .int .i64 0, .int .i64 0, .slice none 0 0]] rfl (by kernel_rfl) (by kernel_rfl) (by kernel_rfl)
      (OpenSpec.preRow_of_cond 8 hx (by kernel_rfl) (fun k hk => by cases hk) (by kernel_rfl) (laid_met os))) ?_
  intro W base args ds gs before hval hW _ _ _ hL _ _
  exact contract H enc W base args ds gs before hval hW hL

theorem said : Rows.FnExactShowEntrySaid :=
  OpenClaim.holds_of_cond 3 Tryd.f3 rfl rfl rfl rfl rfl rfl rfl ⟨rfl, rfl, rfl, rfl, rfl⟩ rfl rfl rfl rfl rfl (by kernel_rfl) Tryd.func3 (by kernel_rfl)
    (of_decide_eq_true (by kernel_rfl)) (by unfold Func.isWrapper; first | (rw [if_pos (by decide +kernel)]; kernel_rfl) | (rw [if_neg (by decide +kernel)]; exact ⟨rfl, rfl⟩))
    (fun os started H enc _ F => by rw [OpenClaim.pre_eq_preRow]; exact lifted os started H enc F)

theorem plain (f : FuncId) (fn : Func) (hf : Tryd.pinned.checked.prog.funcNamed "loop.example/g00301/laws.FnExactShowEntry" = some f) (hfn : Tryd.pinned.checked.prog.funcs[f]? = some fn) :
    false = Tryd.pinned.checked.prog.looks [] ∧ ∀ (j : Nat) t, fn.params[j]? = some t → Tryd.pinned.checked.prog.wantsStandIn t = false := by
  obtain rfl : f = 3 := Option.some.inj ((show Tryd.prog.funcNamed "loop.example/g00301/laws.FnExactShowEntry" = some 3 by kernel_rfl).symm.trans hf) |>.symm
  obtain rfl : fn = Tryd.f3 := (Option.some.inj (Tryd.func3.symm.trans hfn)).symm
  refine ⟨by kernel_rfl, fun j t ht => ?_⟩
  rw [Tryd.params3] at ht
  obtain rfl : t = 24 := by simpa using Array.mem_of_getElem? ht
  exact (show Tryd.prog.wantsStandIn 24 = false by kernel_rfl)
end FnExactShowEntryP

theorem fnExactShowEntry_card : Rows.FnExactShowEntryCardSaid :=
  Claim7.holds_tied_plain_at .later [] _ _ _ _ FnExactShowEntryP.said (fun _ h => by cases h) (by kernel_rfl) (fun _ h => by cases h) fnExactShowEntry_row_tie rfl ⟨rfl, rfl⟩ (by kernel_rfl) rfl FnExactShowEntryP.plain (by kernel_rfl)
#print axioms fnExactShowEntry_card
end Go.Proofs.YtgpfdoiiholncaaDoor
