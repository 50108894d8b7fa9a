/-
  No cell of these rows narrows 'for every input' (looked for: loops, veiled, ifaces, maps, wideKeys, modest, calm, conditions, laid).
  DERIVED. THE GIVEN ROWS OF THIS SEAT. 6 by the template 'for every input the law returns true; each argument reads behind the call as it read before'; 0 by the template 'total and deterministic' (their statements: YtgpgmndjkcpaoaaTotals.lean).
  GIVEN WITH THE SEED: the statements are not yours to turn. If you find one false, say at which input.
  Laid BY PROGRAM, IN A SANDBOX (cutbox-rows.mjs): the forced cells as the released guide's own fill.sh prints them over the translation 83c262f6c71dfbff… (all of the seat's roots in one cut). By AI agents, Wed Nov 11 2026. No macro, syntax, notation, axiom, sorry.
-/
import Derived.Test.YtgpgmndjkcpaoaaChecked
import GoSem.Claim
import GoSem.ClaimJoined
import GoSem.ClaimMapViews
import Derived.JoinedTies
import Derived.KernelRfl
namespace Go.Proofs.Ytgpgmndjkcpaoaa
/- THE CELL 'sum', in the pinned program and in every row, IS THE sha256 OF THE DUMP (.gsa) THAT YtgpgmndjkcpaoaaProg.lean LOADS. Nothing in Lean hashes anything: it is a label: what it is worth is what the hold of that sum in a sandbox is worth. -/
noncomputable def Try.pinned : Pinned := { name := "ytgpgmndjkcpaoaa", sum := "83c262f6c71dfbffff2aec493541a4abb74ca64283b2b8d28d42bcdfdb000a82", checked := Try.checked }
namespace Rows
def none {H : Type} : Left H := { results := [], args := [] }

/-- 'laws.FnLayers': WHATEVER THE INPUT: true; the input reads as it did. -/
def fnLayersSpec : ChangeSpec := { name := "fnLayers", fn := fun _ => fun
  | [d] => { results := [.lit (.bool true)], args := [d] }
  | _ => none }
def fnLayersRow : OpenClaim := { program := "ytgpgmndjkcpaoaa", sum := "83c262f6c71dfbffff2aec493541a4abb74ca64283b2b8d28d42bcdfdb000a82", func := "loop.example/g00301/laws.FnLayers", spec := "fnLayers", unfollowed := true, recurses := true, plainKeys := false, apart := false }
def FnLayersSaid : Prop := fnLayersRow.holds Try.pinned (OpenSpec.ofChange fnLayersSpec)

/-- ITS FALSE NEIGHBOUR: 'it returns false'. Refute it at one input. -/
def fnLayersWrong : ChangeSpec := { name := "fnLayers", fn := fun _ => fun
  | [d] => { results := [.lit (.bool false)], args := [d] }
  | _ => none }
def FnLayersWrongFalsely : Prop := fnLayersRow.holds Try.pinned (OpenSpec.ofChange fnLayersWrong)

/-- 'laws.FnLessMore': WHATEVER THE INPUT: true; the input reads as it did. -/
def fnLessMoreSpec : ChangeSpec := { name := "fnLessMore", fn := fun _ => fun
  | [d] => { results := [.lit (.bool true)], args := [d] }
  | _ => none }
def fnLessMoreRow : OpenClaim := { program := "ytgpgmndjkcpaoaa", sum := "83c262f6c71dfbffff2aec493541a4abb74ca64283b2b8d28d42bcdfdb000a82", func := "loop.example/g00301/laws.FnLessMore", spec := "fnLessMore", unfollowed := true, recurses := true, plainKeys := false, apart := false }
def FnLessMoreSaid : Prop := fnLessMoreRow.holds Try.pinned (OpenSpec.ofChange fnLessMoreSpec)

/-- ITS FALSE NEIGHBOUR: 'it returns false'. Refute it at one input. -/
def fnLessMoreWrong : ChangeSpec := { name := "fnLessMore", fn := fun _ => fun
  | [d] => { results := [.lit (.bool false)], args := [d] }
  | _ => none }
def FnLessMoreWrongFalsely : Prop := fnLessMoreRow.holds Try.pinned (OpenSpec.ofChange fnLessMoreWrong)

/-- 'laws.FnExactTogether': WHATEVER THE INPUT: true; the input reads as it did. -/
def fnExactTogetherSpec : ChangeSpec := { name := "fnExactTogether", fn := fun _ => fun
  | [d] => { results := [.lit (.bool true)], args := [d] }
  | _ => none }
def fnExactTogetherRow : OpenClaim := { program := "ytgpgmndjkcpaoaa", sum := "83c262f6c71dfbffff2aec493541a4abb74ca64283b2b8d28d42bcdfdb000a82", func := "loop.example/g00301/laws.FnExactTogether", spec := "fnExactTogether", unfollowed := true, recurses := true, plainKeys := false, apart := false }
def FnExactTogetherSaid : Prop := fnExactTogetherRow.holds Try.pinned (OpenSpec.ofChange fnExactTogetherSpec)

/-- ITS FALSE NEIGHBOUR: 'it returns false'. Refute it at one input. -/
def fnExactTogetherWrong : ChangeSpec := { name := "fnExactTogether", fn := fun _ => fun
  | [d] => { results := [.lit (.bool false)], args := [d] }
  | _ => none }
def FnExactTogetherWrongFalsely : Prop := fnExactTogetherRow.holds Try.pinned (OpenSpec.ofChange fnExactTogetherWrong)

/-- 'laws.FnExactDeepest': WHATEVER THE INPUT: true; the input reads as it did. -/
def fnExactDeepestSpec : ChangeSpec := { name := "fnExactDeepest", fn := fun _ => fun
  | [d] => { results := [.lit (.bool true)], args := [d] }
  | _ => none }
def fnExactDeepestRow : OpenClaim := { program := "ytgpgmndjkcpaoaa", sum := "83c262f6c71dfbffff2aec493541a4abb74ca64283b2b8d28d42bcdfdb000a82", func := "loop.example/g00301/laws.FnExactDeepest", spec := "fnExactDeepest", unfollowed := true, recurses := true, plainKeys := false, apart := false }
def FnExactDeepestSaid : Prop := fnExactDeepestRow.holds Try.pinned (OpenSpec.ofChange fnExactDeepestSpec)

/-- ITS FALSE NEIGHBOUR: 'it returns false'. Refute it at one input. -/
def fnExactDeepestWrong : ChangeSpec := { name := "fnExactDeepest", fn := fun _ => fun
  | [d] => { results := [.lit (.bool false)], args := [d] }
  | _ => none }
def FnExactDeepestWrongFalsely : Prop := fnExactDeepestRow.holds Try.pinned (OpenSpec.ofChange fnExactDeepestWrong)

/-- 'laws.FnExactTouching': WHATEVER THE INPUT: true; the input reads as it did. -/
def fnExactTouchingSpec : ChangeSpec := { name := "fnExactTouching", fn := fun _ => fun
  | [d] => { results := [.lit (.bool true)], args := [d] }
  | _ => none }
def fnExactTouchingRow : OpenClaim := { program := "ytgpgmndjkcpaoaa", sum := "83c262f6c71dfbffff2aec493541a4abb74ca64283b2b8d28d42bcdfdb000a82", func := "loop.example/g00301/laws.FnExactTouching", spec := "fnExactTouching", unfollowed := true, recurses := true, plainKeys := false, apart := false }
def FnExactTouchingSaid : Prop := fnExactTouchingRow.holds Try.pinned (OpenSpec.ofChange fnExactTouchingSpec)

/-- ITS FALSE NEIGHBOUR: 'it returns false'. Refute it at one input. -/
def fnExactTouchingWrong : ChangeSpec := { name := "fnExactTouching", fn := fun _ => fun
  | [d] => { results := [.lit (.bool false)], args := [d] }
  | _ => none }
def FnExactTouchingWrongFalsely : Prop := fnExactTouchingRow.holds Try.pinned (OpenSpec.ofChange fnExactTouchingWrong)

/-- 'laws.FnExactDepths': WHATEVER THE INPUT: true; the input reads as it did. -/
def fnExactDepthsSpec : ChangeSpec := { name := "fnExactDepths", fn := fun _ => fun
  | [d] => { results := [.lit (.bool true)], args := [d] }
  | _ => none }
def fnExactDepthsRow : OpenClaim := { program := "ytgpgmndjkcpaoaa", sum := "83c262f6c71dfbffff2aec493541a4abb74ca64283b2b8d28d42bcdfdb000a82", func := "loop.example/g00301/laws.FnExactDepths", spec := "fnExactDepths", unfollowed := true, recurses := true, plainKeys := false, apart := false }
def FnExactDepthsSaid : Prop := fnExactDepthsRow.holds Try.pinned (OpenSpec.ofChange fnExactDepthsSpec)

/-- ITS FALSE NEIGHBOUR: 'it returns false'. Refute it at one input. -/
def fnExactDepthsWrong : ChangeSpec := { name := "fnExactDepths", fn := fun _ => fun
  | [d] => { results := [.lit (.bool false)], args := [d] }
  | _ => none }
def FnExactDepthsWrongFalsely : Prop := fnExactDepthsRow.holds Try.pinned (OpenSpec.ofChange fnExactDepthsWrong)

/- THE SECOND FORM. 'bulk': how many values and letters a reading holds, each counted each time it is reached (what is shared counts as often as it is met; a slice's spare places count too). A statement '..UptoSaid' is the law's where the arguments, and the package variables that the reading takes, are together of bulk at most 1048576: NARROWER than '..Said'. Prove '..Said' where nothing that the law and all that it calls make is longer than what came in: it says more and counts as full. Else prove '..UptoSaid'. A law counts once. -/
mutual
def uptoBulk {H : Type} : DataW H → Nat
  | .lit (.string bytes) => bytes.length + 1
  | .lit _ => 1
  | .nil => 1
  | .ptr d => uptoBulk d + 1
  | .slice elems spare => uptoBulkAll elems + uptoBulkAll spare + 1
  | .agg parts => uptoBulkAll parts + 1
  | .iface _ d => uptoBulk d + 1
  | .map entries => uptoBulkEntries entries + 1
  | .held _ => 1
def uptoBulkAll {H : Type} : List (DataW H) → Nat
  | [] => 0
  | d :: r => uptoBulk d + uptoBulkAll r
def uptoBulkEntries {H : Type} : List (Lit × DataW H) → Nat
  | [] => 0
  | x :: r => uptoBulkEntry x + uptoBulkEntries r
def uptoBulkEntry {H : Type} : Lit × DataW H → Nat
  | (.string bytes, d) => bytes.length + uptoBulk d + 1
  | (_, d) => uptoBulk d + 1
 end
def uptoSmall : (H : Type) → List (DataW H) → Bool := fun _ ds => decide (uptoBulkAll ds ≤ 1048576)
def OpenSpec.upto (s : _root_.Go.ChangeSpec) : _root_.Go.OpenSpec := { _root_.Go.OpenSpec.ofChange s with cond := some uptoSmall }

/-- 'laws.FnLayers', WHERE WHAT IT READS IS OF BULK AT MOST 1048576: true; the input reads as it did. -/
def fnLayersUptoRow : OpenClaim := { program := "ytgpgmndjkcpaoaa", sum := "83c262f6c71dfbffff2aec493541a4abb74ca64283b2b8d28d42bcdfdb000a82", func := "loop.example/g00301/laws.FnLayers", spec := "fnLayers", unfollowed := true, recurses := true, plainKeys := false, apart := false, narrowed := true }
def FnLayersUptoSaid : Prop := fnLayersUptoRow.holds Try.pinned (OpenSpec.upto fnLayersSpec)

/-- 'laws.FnLessMore', WHERE WHAT IT READS IS OF BULK AT MOST 1048576: true; the input reads as it did. -/
def fnLessMoreUptoRow : OpenClaim := { program := "ytgpgmndjkcpaoaa", sum := "83c262f6c71dfbffff2aec493541a4abb74ca64283b2b8d28d42bcdfdb000a82", func := "loop.example/g00301/laws.FnLessMore", spec := "fnLessMore", unfollowed := true, recurses := true, plainKeys := false, apart := false, narrowed := true }
def FnLessMoreUptoSaid : Prop := fnLessMoreUptoRow.holds Try.pinned (OpenSpec.upto fnLessMoreSpec)

/-- 'laws.FnExactTogether', WHERE WHAT IT READS IS OF BULK AT MOST 1048576: true; the input reads as it did. -/
def fnExactTogetherUptoRow : OpenClaim := { program := "ytgpgmndjkcpaoaa", sum := "83c262f6c71dfbffff2aec493541a4abb74ca64283b2b8d28d42bcdfdb000a82", func := "loop.example/g00301/laws.FnExactTogether", spec := "fnExactTogether", unfollowed := true, recurses := true, plainKeys := false, apart := false, narrowed := true }
def FnExactTogetherUptoSaid : Prop := fnExactTogetherUptoRow.holds Try.pinned (OpenSpec.upto fnExactTogetherSpec)

/-- 'laws.FnExactDeepest', WHERE WHAT IT READS IS OF BULK AT MOST 1048576: true; the input reads as it did. -/
def fnExactDeepestUptoRow : OpenClaim := { program := "ytgpgmndjkcpaoaa", sum := "83c262f6c71dfbffff2aec493541a4abb74ca64283b2b8d28d42bcdfdb000a82", func := "loop.example/g00301/laws.FnExactDeepest", spec := "fnExactDeepest", unfollowed := true, recurses := true, plainKeys := false, apart := false, narrowed := true }
def FnExactDeepestUptoSaid : Prop := fnExactDeepestUptoRow.holds Try.pinned (OpenSpec.upto fnExactDeepestSpec)

/-- 'laws.FnExactTouching', WHERE WHAT IT READS IS OF BULK AT MOST 1048576: true; the input reads as it did. -/
def fnExactTouchingUptoRow : OpenClaim := { program := "ytgpgmndjkcpaoaa", sum := "83c262f6c71dfbffff2aec493541a4abb74ca64283b2b8d28d42bcdfdb000a82", func := "loop.example/g00301/laws.FnExactTouching", spec := "fnExactTouching", unfollowed := true, recurses := true, plainKeys := false, apart := false, narrowed := true }
def FnExactTouchingUptoSaid : Prop := fnExactTouchingUptoRow.holds Try.pinned (OpenSpec.upto fnExactTouchingSpec)

/-- 'laws.FnExactDepths', WHERE WHAT IT READS IS OF BULK AT MOST 1048576: true; the input reads as it did. -/
def fnExactDepthsUptoRow : OpenClaim := { program := "ytgpgmndjkcpaoaa", sum := "83c262f6c71dfbffff2aec493541a4abb74ca64283b2b8d28d42bcdfdb000a82", func := "loop.example/g00301/laws.FnExactDepths", spec := "fnExactDepths", unfollowed := true, recurses := true, plainKeys := false, apart := false, narrowed := true }
def FnExactDepthsUptoSaid : Prop := fnExactDepthsUptoRow.holds Try.pinned (OpenSpec.upto fnExactDepthsSpec)

end Rows
end Go.Proofs.Ytgpgmndjkcpaoaa
