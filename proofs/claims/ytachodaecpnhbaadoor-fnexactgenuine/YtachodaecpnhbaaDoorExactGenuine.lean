/-
  For every key and every Paper the law of Genuine returns true: the program answers as the specification and writes into no argument; the condition: the library's three listed tables start as the program's text lays them (the card ties them).
-/
import Derived.Test.YtachodaecpnhbaaDoorCards
import Derived.Test.YtachodaecpnhbaaDoorTie
import Derived.Test.YtachodaecpnhbaaDoorZ3
import Derived.Test.YtachodaecpnhbaaDoorZ4
import Derived.WalkKit
import Derived.ProofKit
import Derived.OpenShut
import Derived.Below
import Derived.Deep.DeepHandedRow
import Derived.Lib.LaidTab
import Derived.Lib.SmallJoins
namespace Go.Proofs.YtachodaecpnhbaaDoor
namespace FnExactGenuineP
open Go.ChangeShapes Go.WideShapes Go.ChangeAt Go.RowKit Go.Joins

theorem own : ownKnob Tryd.prog.godebug = none := by kernel_rfl
theorem laidOut : laidOutB Tryd.prog = true := by kernel_rfl
theorem cellsQ : Tryd.prog.cellsOf 24 = 3 := by kernel_rfl
theorem cellsP : Tryd.prog.cellsOf 35 = 3 := by kernel_rfl

set_option maxRecDepth 100000 in
theorem contract (H : Type) (enc : TypeId × Value → H) (W : World) (base : Nat) (args : Array Value) (ds gs : List (DataW H)) (before : List MemPlace)
    (hval0 : ∀ (j : Nat) t v, Tryd.f4.params[j]? = some t → args[j]? = some v → Value.okWide Tryd.prog W .any base t v)
    (hW : DataW.Whole enc Tryd.prog Tryd.f4.params.toList Rows.fnExactGenuineSpec.vars false W args.toList ds gs before) (hL : laidMetH Tryd.prog Rows.fnExactGenuineRow.laid W) :
    Calls Tryd.prog 4 args W fun e W' => ∃ v, e = .returned v ∧ Rows.fnExactGenuineSpec.post enc Tryd.prog Tryd.f4 false true false false W args v W' := by
  have hval := hval0
  have hT : TB W := table hL
  have hW' := hW
  obtain ⟨p, q, hA0, hV, rfl, _, _⟩ := hW
  have hA : DataW.TrodAll enc Tryd.prog W 0 (fun _ => true) true Tryd.f4.params.toList args.toList ds p := hA0
  rw [Tryd.params4] at hA hval
  obtain ⟨v0, v1, d0, d1, p0, p1, rfl, rfl, rfl, h0, h1⟩ := trodAll_two hA
  obtain ⟨rfl, rfl⟩ := trodVars_none hV
  have k0 := h0
  have lt0 : ∀ x ∈ p0, x.block < W.heap.size := by obtain ⟨m, hm⟩ := k0; exact DataW.trod_lt m _ _ _ hm
  have k1 := h1
  have lt1 : ∀ x ∈ p1, x.block < W.heap.size := by obtain ⟨m, hm⟩ := k1; exact DataW.trod_lt m _ _ _ hm
  obtain ⟨n0, rfl, hd0, wa0⟩ := open_int Tryd.underlying2 (hval 0 2 v0 rfl rfl) h0
  obtain ⟨c10, c11, c12, y0, y1, y2, m1, rfl, hd1, hp1, hy0, hy1, hy2⟩ := open_agg3 Tryd.underlying35 (by kernel_rfl) cellsP (hval 1 35 v1 rfl rfl) h1
  obtain ⟨tn1, e0, _, _⟩ := DataW.trod_int Tryd.underlying2 hy0
  obtain ⟨s1, QL1, e1, l1, sr1, sb1, b1⟩ := open_Q hy1
  obtain ⟨tag1, e2, _, _⟩ := DataW.trod_int Tryd.underlying2 hy2
  simp at e0 e1 e2
  subst e0 e1 e2
  clear hA0 hval0
  refine (exactGenuine n0 tn1 tag1 s1.p s1.n s1.c QL1 l1 b1 sb1 W sr1 hT).mono fun e W' ⟨he, bel⟩ => ?_
  subst he
  exact ⟨_, rfl, _, _, _, [], _, [], hW', trodAll_mk1 (shut_bool Tryd.underlying4 _), (trodAll_cons_mk (Below.trod laidOut (by kernel_rfl) (of_decide_eq_true (by kernel_rfl)) k0 bel lt0) (trodAll_cons_mk (Below.trod laidOut (by kernel_rfl) (of_decide_eq_true (by kernel_rfl)) k1 bel lt1) trodAll_mk0)), rfl, bel.frame _, fun h => by cases h⟩

theorem laid_met (os : Os) : laidMet Tryd.prog Rows.fnExactGenuineRow.laid (({ World.holding Tryd.prog os ⟨#[], #[], []⟩ with heap := setB 0 (Lib.pow10Tab.map fun z => Value.int .u64 z).toArray (setB 2 (tab32.map fun z => Value.int .u8 z).toArray (setB 3 (tab64.map fun z => Value.int .u8 z).toArray (World.holding Tryd.prog os ⟨#[], #[], []⟩).heap)) } : World).forCall (fun _ _ => 0) ⟨#[], #[.int .i64 0, .agg #[.int .i64 0, .slice none 0 0, .int .i64 0]], []⟩).memory :=
  laidMet_of_run' 8 (by kernel_rfl) (by kernel_rfl)
theorem reads (os : Os) {H : Type} (enc : TypeId × Value → H) : ∃ places, DataW.whole enc Tryd.prog (({ World.holding Tryd.prog os ⟨#[], #[], []⟩ with heap := setB 0 (Lib.pow10Tab.map fun z => Value.int .u64 z).toArray (setB 2 (tab32.map fun z => Value.int .u8 z).toArray (setB 3 (tab64.map fun z => Value.int .u8 z).toArray (World.holding Tryd.prog os ⟨#[], #[], []⟩).heap)) } : World).forCall (fun _ _ => 0) ⟨#[], #[.int .i64 0, .agg #[.int .i64 0, .slice none 0 0, .int .i64 0]], []⟩).memory Tryd.f4.params.toList Rows.fnExactGenuineSpec.vars false (#[Value.int .i64 0, .agg #[.int .i64 0, .slice none 0 0, .int .i64 0]]).toList 8 = some ([.lit (.int .i64 0), .agg [.lit (.int .i64 0), .nil, .lit (.int .i64 0)]], [], places) :=
  ⟨[], by kernel_rfl⟩

set_option maxRecDepth 100000 in
theorem lifted (os : Os) (started : os.Started) (H : Type) (enc : TypeId × Value → H) (F : Stop.Interp) :
    ReturnsInHanded {} Tryd.checked os 4 .any ((OpenSpec.ofChange Rows.fnExactGenuineSpec).preRow enc Tryd.prog Tryd.f4 Rows.fnExactGenuineRow.domain false Rows.fnExactGenuineRow.laid) (((OpenSpec.ofChange Rows.fnExactGenuineSpec).at F).post enc Tryd.prog Tryd.f4 false true false false) := by
  obtain ⟨places, hx⟩ := reads os enc
  refine returnsInHanded_of_row (C := Tryd.checked) (s := OpenSpec.ofChange Rows.fnExactGenuineSpec) own started (by kernel_rfl) Tryd.func4
    (witness_row_at (enc := enc) (C := Tryd.checked) false ({ World.holding Tryd.prog os ⟨#[], #[], []⟩ with heap := setB 0 (Lib.pow10Tab.map fun z => Value.int .u64 z).toArray (setB 2 (tab32.map fun z => Value.int .u8 z).toArray (setB 3 (tab64.map fun z => Value.int .u8 z).toArray (World.holding Tryd.prog os ⟨#[], #[], []⟩).heap)) } : World) #[.int .i64 0, .agg #[.int .i64 0, .slice none 0 0, .int .i64 0]] rfl (by kernel_rfl) (by kernel_rfl) (by kernel_rfl)
      (OpenSpec.preRow_of_cond 8 hx (by kernel_rfl) (fun k hk => by cases hk) (by kernel_rfl) (laid_met os))) ?_
  intro W base args ds gs before hval hW _ _ _ hL _ _
  exact contract H enc W base args ds gs before hval hW hL

theorem said : Rows.FnExactGenuineSaid :=
  OpenClaim.holds_of_cond 4 Tryd.f4 rfl rfl rfl rfl rfl rfl rfl ⟨rfl, rfl, rfl, rfl, rfl⟩ rfl rfl rfl rfl rfl (by kernel_rfl) Tryd.func4 (by kernel_rfl)
    (of_decide_eq_true (by kernel_rfl)) (by unfold Func.isWrapper; first | (rw [if_pos (by decide +kernel)]; kernel_rfl) | (rw [if_neg (by decide +kernel)]; exact ⟨rfl, rfl⟩))
    (fun os started H enc _ F => by rw [OpenClaim.pre_eq_preRow]; exact lifted os started H enc F)

theorem plain (f : FuncId) (fn : Func) (hf : Tryd.pinned.checked.prog.funcNamed "loop.example/g00301/laws.FnExactGenuine" = some f) (hfn : Tryd.pinned.checked.prog.funcs[f]? = some fn) :
    false = Tryd.pinned.checked.prog.looks [] ∧ ∀ (j : Nat) t, fn.params[j]? = some t → Tryd.pinned.checked.prog.wantsStandIn t = false := by
  obtain rfl : f = 4 := Option.some.inj ((show Tryd.prog.funcNamed "loop.example/g00301/laws.FnExactGenuine" = some 4 by kernel_rfl).symm.trans hf) |>.symm
  obtain rfl : fn = Tryd.f4 := (Option.some.inj (Tryd.func4.symm.trans hfn)).symm
  refine ⟨by kernel_rfl, fun j t ht => ?_⟩
  rw [Tryd.params4] at ht
  have hm : t = 2 ∨ t = 35 := by
    have := Array.mem_of_getElem? ht
    simp at this
    omega
  rcases hm with rfl | rfl
  · exact (show Tryd.prog.wantsStandIn 2 = false by kernel_rfl)
  · exact (show Tryd.prog.wantsStandIn 35 = false by kernel_rfl)
end FnExactGenuineP

theorem fnExactGenuine_card : Rows.FnExactGenuineCardSaid :=
  Claim7.holds_tied_plain_at .later [] _ _ _ _ FnExactGenuineP.said (fun _ h => by cases h) (by kernel_rfl) (fun _ h => by cases h) fnExactGenuine_row_tie rfl ⟨rfl, rfl⟩ (by kernel_rfl) rfl FnExactGenuineP.plain (by kernel_rfl)
#print axioms fnExactGenuine_card
end Go.Proofs.YtachodaecpnhbaaDoor
