/-
  No cell of these rows narrows 'for every input' (looked for: loops, veiled, ifaces, maps, wideKeys, modest, calm, conditions, laid).
  DERIVED. THE GIVEN ROWS OF THIS SEAT. 6 by the template 'for every input the law returns true; each argument reads behind the call as it read before'; 0 by the template 'total and deterministic' (their statements: YtipdfajojcpolaaTotals.lean).
  GIVEN WITH THE SEED: the statements are not yours to turn. If you find one false, say at which input.
  Laid BY PROGRAM, IN A SANDBOX (cutbox-rows.mjs): the forced cells as the released guide's own fill.sh prints them over the translation 7b94d32bf24798c9… (all of the seat's roots in one cut). By AI agents, Wed Nov 11 2026. No macro, syntax, notation, axiom, sorry.
-/
import Derived.Test.YtipdfajojcpolaaChecked
import GoSem.Claim
import GoSem.ClaimJoined
import GoSem.ClaimMapViews
import Derived.JoinedTies
import Derived.KernelRfl
namespace Go.Proofs.Ytipdfajojcpolaa
/- THE CELL 'sum', in the pinned program and in every row, IS THE sha256 OF THE DUMP (.gsa) THAT YtipdfajojcpolaaProg.lean LOADS. Nothing in Lean hashes anything: it is a label: what it is worth is what the hold of that sum in a sandbox is worth. -/
noncomputable def Try.pinned : Pinned := { name := "ytipdfajojcpolaa", sum := "7b94d32bf24798c99e32fd974b76a5003ce7437fb761765d5f37aed089fb4009", checked := Try.checked }
namespace Rows
def none {H : Type} : Left H := { results := [], args := [] }

/-- 'laws.FnPick': WHATEVER THE INPUT: true; the input reads as it did. -/
def fnPickSpec : ChangeSpec := { name := "fnPick", fn := fun _ => fun
  | [d] => { results := [.lit (.bool true)], args := [d] }
  | _ => none }
def fnPickRow : OpenClaim := { program := "ytipdfajojcpolaa", sum := "7b94d32bf24798c99e32fd974b76a5003ce7437fb761765d5f37aed089fb4009", func := "loop.example/g00301/laws.FnPick", spec := "fnPick", unfollowed := true, recurses := true, apart := false }
def FnPickSaid : Prop := fnPickRow.holds Try.pinned (OpenSpec.ofChange fnPickSpec)

/-- ITS FALSE NEIGHBOUR: 'it returns false'. Refute it at one input. -/
def fnPickWrong : ChangeSpec := { name := "fnPick", fn := fun _ => fun
  | [d] => { results := [.lit (.bool false)], args := [d] }
  | _ => none }
def FnPickWrongFalsely : Prop := fnPickRow.holds Try.pinned (OpenSpec.ofChange fnPickWrong)

/-- 'laws.FnExactShapeOk': WHATEVER THE INPUT: true; the input reads as it did. -/
def fnExactShapeOkSpec : ChangeSpec := { name := "fnExactShapeOk", fn := fun _ => fun
  | [d] => { results := [.lit (.bool true)], args := [d] }
  | _ => none }
def fnExactShapeOkRow : OpenClaim := { program := "ytipdfajojcpolaa", sum := "7b94d32bf24798c99e32fd974b76a5003ce7437fb761765d5f37aed089fb4009", func := "loop.example/g00301/laws.FnExactShapeOk", spec := "fnExactShapeOk", unfollowed := true, recurses := true, apart := false }
def FnExactShapeOkSaid : Prop := fnExactShapeOkRow.holds Try.pinned (OpenSpec.ofChange fnExactShapeOkSpec)

/-- ITS FALSE NEIGHBOUR: 'it returns false'. Refute it at one input. -/
def fnExactShapeOkWrong : ChangeSpec := { name := "fnExactShapeOk", fn := fun _ => fun
  | [d] => { results := [.lit (.bool false)], args := [d] }
  | _ => none }
def FnExactShapeOkWrongFalsely : Prop := fnExactShapeOkRow.holds Try.pinned (OpenSpec.ofChange fnExactShapeOkWrong)

/-- 'laws.FnExactDouble': WHATEVER THE INPUT: true; the input reads as it did. -/
def fnExactDoubleSpec : ChangeSpec := { name := "fnExactDouble", fn := fun _ => fun
  | [d] => { results := [.lit (.bool true)], args := [d] }
  | _ => none }
def fnExactDoubleRow : OpenClaim := { program := "ytipdfajojcpolaa", sum := "7b94d32bf24798c99e32fd974b76a5003ce7437fb761765d5f37aed089fb4009", func := "loop.example/g00301/laws.FnExactDouble", spec := "fnExactDouble", unfollowed := true, recurses := true, apart := false }
def FnExactDoubleSaid : Prop := fnExactDoubleRow.holds Try.pinned (OpenSpec.ofChange fnExactDoubleSpec)

/-- ITS FALSE NEIGHBOUR: 'it returns false'. Refute it at one input. -/
def fnExactDoubleWrong : ChangeSpec := { name := "fnExactDouble", fn := fun _ => fun
  | [d] => { results := [.lit (.bool false)], args := [d] }
  | _ => none }
def FnExactDoubleWrongFalsely : Prop := fnExactDoubleRow.holds Try.pinned (OpenSpec.ofChange fnExactDoubleWrong)

/-- 'laws.FnExactEdge': WHATEVER THE INPUT: true; the input reads as it did. -/
def fnExactEdgeSpec : ChangeSpec := { name := "fnExactEdge", fn := fun _ => fun
  | [d] => { results := [.lit (.bool true)], args := [d] }
  | _ => none }
def fnExactEdgeRow : OpenClaim := { program := "ytipdfajojcpolaa", sum := "7b94d32bf24798c99e32fd974b76a5003ce7437fb761765d5f37aed089fb4009", func := "loop.example/g00301/laws.FnExactEdge", spec := "fnExactEdge", unfollowed := true, recurses := true, apart := false }
def FnExactEdgeSaid : Prop := fnExactEdgeRow.holds Try.pinned (OpenSpec.ofChange fnExactEdgeSpec)

/-- ITS FALSE NEIGHBOUR: 'it returns false'. Refute it at one input. -/
def fnExactEdgeWrong : ChangeSpec := { name := "fnExactEdge", fn := fun _ => fun
  | [d] => { results := [.lit (.bool false)], args := [d] }
  | _ => none }
def FnExactEdgeWrongFalsely : Prop := fnExactEdgeRow.holds Try.pinned (OpenSpec.ofChange fnExactEdgeWrong)

/-- 'laws.FnExactWithin': WHATEVER THE INPUT: true; the input reads as it did. -/
def fnExactWithinSpec : ChangeSpec := { name := "fnExactWithin", fn := fun _ => fun
  | [d] => { results := [.lit (.bool true)], args := [d] }
  | _ => none }
def fnExactWithinRow : OpenClaim := { program := "ytipdfajojcpolaa", sum := "7b94d32bf24798c99e32fd974b76a5003ce7437fb761765d5f37aed089fb4009", func := "loop.example/g00301/laws.FnExactWithin", spec := "fnExactWithin", unfollowed := true, recurses := true, apart := false }
def FnExactWithinSaid : Prop := fnExactWithinRow.holds Try.pinned (OpenSpec.ofChange fnExactWithinSpec)

/-- ITS FALSE NEIGHBOUR: 'it returns false'. Refute it at one input. -/
def fnExactWithinWrong : ChangeSpec := { name := "fnExactWithin", fn := fun _ => fun
  | [d] => { results := [.lit (.bool false)], args := [d] }
  | _ => none }
def FnExactWithinWrongFalsely : Prop := fnExactWithinRow.holds Try.pinned (OpenSpec.ofChange fnExactWithinWrong)

/-- 'laws.FnExactSide': WHATEVER THE INPUT: true; the input reads as it did. -/
def fnExactSideSpec : ChangeSpec := { name := "fnExactSide", fn := fun _ => fun
  | [d1, d2, d3] => { results := [.lit (.bool true)], args := [d1, d2, d3] }
  | _ => none }
def fnExactSideRow : OpenClaim := { program := "ytipdfajojcpolaa", sum := "7b94d32bf24798c99e32fd974b76a5003ce7437fb761765d5f37aed089fb4009", func := "loop.example/g00301/laws.FnExactSide", spec := "fnExactSide", unfollowed := true, recurses := true, apart := false }
def FnExactSideSaid : Prop := fnExactSideRow.holds Try.pinned (OpenSpec.ofChange fnExactSideSpec)

/-- ITS FALSE NEIGHBOUR: 'it returns false'. Refute it at one input. -/
def fnExactSideWrong : ChangeSpec := { name := "fnExactSide", fn := fun _ => fun
  | [d1, d2, d3] => { results := [.lit (.bool false)], args := [d1, d2, d3] }
  | _ => none }
def FnExactSideWrongFalsely : Prop := fnExactSideRow.holds Try.pinned (OpenSpec.ofChange fnExactSideWrong)

/- THE SECOND FORM. 'bulk': how many values and letters a reading holds, each counted each time it is reached (what is shared counts as often as it is met; a slice's spare places count too). A statement '..UptoSaid' is the law's where the arguments, and the package variables that the reading takes, are together of bulk at most 1048576: NARROWER than '..Said'. Prove '..Said' where nothing that the law and all that it calls make is longer than what came in: it says more and counts as full. Else prove '..UptoSaid'. A law counts once. -/
mutual
def uptoBulk {H : Type} : DataW H → Nat
  | .lit (.string bytes) => bytes.length + 1
  | .lit _ => 1
  | .nil => 1
  | .ptr d => uptoBulk d + 1
  | .slice elems spare => uptoBulkAll elems + uptoBulkAll spare + 1
  | .agg parts => uptoBulkAll parts + 1
  | .iface _ d => uptoBulk d + 1
  | .map entries => uptoBulkEntries entries + 1
  | .held _ => 1
def uptoBulkAll {H : Type} : List (DataW H) → Nat
  | [] => 0
  | d :: r => uptoBulk d + uptoBulkAll r
def uptoBulkEntries {H : Type} : List (Lit × DataW H) → Nat
  | [] => 0
  | x :: r => uptoBulkEntry x + uptoBulkEntries r
def uptoBulkEntry {H : Type} : Lit × DataW H → Nat
  | (.string bytes, d) => bytes.length + uptoBulk d + 1
  | (_, d) => uptoBulk d + 1
 end
def uptoSmall : (H : Type) → List (DataW H) → Bool := fun _ ds => decide (uptoBulkAll ds ≤ 1048576)
def OpenSpec.upto (s : _root_.Go.ChangeSpec) : _root_.Go.OpenSpec := { _root_.Go.OpenSpec.ofChange s with cond := some uptoSmall }

/-- 'laws.FnPick', WHERE WHAT IT READS IS OF BULK AT MOST 1048576: true; the input reads as it did. -/
def fnPickUptoRow : OpenClaim := { program := "ytipdfajojcpolaa", sum := "7b94d32bf24798c99e32fd974b76a5003ce7437fb761765d5f37aed089fb4009", func := "loop.example/g00301/laws.FnPick", spec := "fnPick", unfollowed := true, recurses := true, apart := false, narrowed := true }
def FnPickUptoSaid : Prop := fnPickUptoRow.holds Try.pinned (OpenSpec.upto fnPickSpec)

/-- 'laws.FnExactShapeOk', WHERE WHAT IT READS IS OF BULK AT MOST 1048576: true; the input reads as it did. -/
def fnExactShapeOkUptoRow : OpenClaim := { program := "ytipdfajojcpolaa", sum := "7b94d32bf24798c99e32fd974b76a5003ce7437fb761765d5f37aed089fb4009", func := "loop.example/g00301/laws.FnExactShapeOk", spec := "fnExactShapeOk", unfollowed := true, recurses := true, apart := false, narrowed := true }
def FnExactShapeOkUptoSaid : Prop := fnExactShapeOkUptoRow.holds Try.pinned (OpenSpec.upto fnExactShapeOkSpec)

/-- 'laws.FnExactDouble', WHERE WHAT IT READS IS OF BULK AT MOST 1048576: true; the input reads as it did. -/
def fnExactDoubleUptoRow : OpenClaim := { program := "ytipdfajojcpolaa", sum := "7b94d32bf24798c99e32fd974b76a5003ce7437fb761765d5f37aed089fb4009", func := "loop.example/g00301/laws.FnExactDouble", spec := "fnExactDouble", unfollowed := true, recurses := true, apart := false, narrowed := true }
def FnExactDoubleUptoSaid : Prop := fnExactDoubleUptoRow.holds Try.pinned (OpenSpec.upto fnExactDoubleSpec)

/-- 'laws.FnExactEdge', WHERE WHAT IT READS IS OF BULK AT MOST 1048576: true; the input reads as it did. -/
def fnExactEdgeUptoRow : OpenClaim := { program := "ytipdfajojcpolaa", sum := "7b94d32bf24798c99e32fd974b76a5003ce7437fb761765d5f37aed089fb4009", func := "loop.example/g00301/laws.FnExactEdge", spec := "fnExactEdge", unfollowed := true, recurses := true, apart := false, narrowed := true }
def FnExactEdgeUptoSaid : Prop := fnExactEdgeUptoRow.holds Try.pinned (OpenSpec.upto fnExactEdgeSpec)

/-- 'laws.FnExactWithin', WHERE WHAT IT READS IS OF BULK AT MOST 1048576: true; the input reads as it did. -/
def fnExactWithinUptoRow : OpenClaim := { program := "ytipdfajojcpolaa", sum := "7b94d32bf24798c99e32fd974b76a5003ce7437fb761765d5f37aed089fb4009", func := "loop.example/g00301/laws.FnExactWithin", spec := "fnExactWithin", unfollowed := true, recurses := true, apart := false, narrowed := true }
def FnExactWithinUptoSaid : Prop := fnExactWithinUptoRow.holds Try.pinned (OpenSpec.upto fnExactWithinSpec)

/-- 'laws.FnExactSide', WHERE WHAT IT READS IS OF BULK AT MOST 1048576: true; the input reads as it did. -/
def fnExactSideUptoRow : OpenClaim := { program := "ytipdfajojcpolaa", sum := "7b94d32bf24798c99e32fd974b76a5003ce7437fb761765d5f37aed089fb4009", func := "loop.example/g00301/laws.FnExactSide", spec := "fnExactSide", unfollowed := true, recurses := true, apart := false, narrowed := true }
def FnExactSideUptoSaid : Prop := fnExactSideUptoRow.holds Try.pinned (OpenSpec.upto fnExactSideSpec)

end Rows
end Go.Proofs.Ytipdfajojcpolaa
