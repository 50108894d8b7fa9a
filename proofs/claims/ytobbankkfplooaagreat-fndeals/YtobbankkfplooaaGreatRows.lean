/-
  No cell of these rows narrows 'for every input' (looked for: loops, veiled, ifaces, maps, wideKeys, modest, calm, conditions, laid).
  DERIVED. THE GIVEN ROWS OF THIS SEAT. 4 by the template 'for every input the law returns true; each argument reads behind the call as it read before'; 0 by the template 'total and deterministic' (their statements: YtobbankkfplooaaGreatTotals.lean).
  GIVEN WITH THE SEED: the statements are not yours to turn. If you find one false, say at which input.
  Laid BY PROGRAM, IN A SANDBOX (cutbox-rows.mjs): the forced cells as the released guide's own fill.sh prints them over the translation 12e64c877fe3576d… (all of the seat's roots in one cut). By AI agents, Wed Nov 11 2026. No macro, syntax, notation, axiom, sorry.
-/
import Derived.Test.YtobbankkfplooaaGreatChecked
import GoSem.Claim
import GoSem.ClaimJoined
import GoSem.ClaimMapViews
import Derived.JoinedTies
import Derived.KernelRfl
namespace Go.Proofs.YtobbankkfplooaaGreat
/- THE CELL 'sum', in the pinned program and in every row, IS THE sha256 OF THE DUMP (.gsa) THAT YtobbankkfplooaaGreatProg.lean LOADS. Nothing in Lean hashes anything: it is a label: what it is worth is what the hold of that sum in a sandbox is worth. -/
noncomputable def Tryz.pinned : Pinned := { name := "ytobbankkfplooaagreat", sum := "12e64c877fe3576dfdb267413c2ee80a035afc8c3035502838d102429fda5920", checked := Tryz.checked }
namespace Rows
def none {H : Type} : Left H := { results := [], args := [] }

/-- 'laws.FnDeals': WHATEVER THE INPUT: true; the input reads as it did. -/
def fnDealsSpec : ChangeSpec := { name := "fnDeals", fn := fun _ => fun
  | [d] => { results := [.lit (.bool true)], args := [d] }
  | _ => none }
def fnDealsRow : OpenClaim := { program := "ytobbankkfplooaagreat", sum := "12e64c877fe3576dfdb267413c2ee80a035afc8c3035502838d102429fda5920", func := "loop.example/g00301/laws.FnDeals", spec := "fnDeals", unfollowed := true, recurses := true, apart := false }
def FnDealsSaid : Prop := fnDealsRow.holds Tryz.pinned (OpenSpec.ofChange fnDealsSpec)

/-- ITS FALSE NEIGHBOUR: 'it returns false'. Refute it at one input. -/
def fnDealsWrong : ChangeSpec := { name := "fnDeals", fn := fun _ => fun
  | [d] => { results := [.lit (.bool false)], args := [d] }
  | _ => none }
def FnDealsWrongFalsely : Prop := fnDealsRow.holds Tryz.pinned (OpenSpec.ofChange fnDealsWrong)

/-- 'laws.FnExactVoted': WHATEVER THE INPUT: true; the input reads as it did. -/
def fnExactVotedSpec : ChangeSpec := { name := "fnExactVoted", fn := fun _ => fun
  | [d1, d2, d3] => { results := [.lit (.bool true)], args := [d1, d2, d3] }
  | _ => none }
def fnExactVotedRow : OpenClaim := { program := "ytobbankkfplooaagreat", sum := "12e64c877fe3576dfdb267413c2ee80a035afc8c3035502838d102429fda5920", func := "loop.example/g00301/laws.FnExactVoted", spec := "fnExactVoted", unfollowed := true, recurses := true, apart := false }
def FnExactVotedSaid : Prop := fnExactVotedRow.holds Tryz.pinned (OpenSpec.ofChange fnExactVotedSpec)

/-- ITS FALSE NEIGHBOUR: 'it returns false'. Refute it at one input. -/
def fnExactVotedWrong : ChangeSpec := { name := "fnExactVoted", fn := fun _ => fun
  | [d1, d2, d3] => { results := [.lit (.bool false)], args := [d1, d2, d3] }
  | _ => none }
def FnExactVotedWrongFalsely : Prop := fnExactVotedRow.holds Tryz.pinned (OpenSpec.ofChange fnExactVotedWrong)

/-- 'laws.FnExactDecided': WHATEVER THE INPUT: true; the input reads as it did. -/
def fnExactDecidedSpec : ChangeSpec := { name := "fnExactDecided", fn := fun _ => fun
  | [d1, d2] => { results := [.lit (.bool true)], args := [d1, d2] }
  | _ => none }
def fnExactDecidedRow : OpenClaim := { program := "ytobbankkfplooaagreat", sum := "12e64c877fe3576dfdb267413c2ee80a035afc8c3035502838d102429fda5920", func := "loop.example/g00301/laws.FnExactDecided", spec := "fnExactDecided", unfollowed := true, recurses := true, apart := false }
def FnExactDecidedSaid : Prop := fnExactDecidedRow.holds Tryz.pinned (OpenSpec.ofChange fnExactDecidedSpec)

/-- ITS FALSE NEIGHBOUR: 'it returns false'. Refute it at one input. -/
def fnExactDecidedWrong : ChangeSpec := { name := "fnExactDecided", fn := fun _ => fun
  | [d1, d2] => { results := [.lit (.bool false)], args := [d1, d2] }
  | _ => none }
def FnExactDecidedWrongFalsely : Prop := fnExactDecidedRow.holds Tryz.pinned (OpenSpec.ofChange fnExactDecidedWrong)

/-- 'laws.FnExactForgotten': WHATEVER THE INPUT: true; the input reads as it did. -/
def fnExactForgottenSpec : ChangeSpec := { name := "fnExactForgotten", fn := fun _ => fun
  | [d] => { results := [.lit (.bool true)], args := [d] }
  | _ => none }
def fnExactForgottenRow : OpenClaim := { program := "ytobbankkfplooaagreat", sum := "12e64c877fe3576dfdb267413c2ee80a035afc8c3035502838d102429fda5920", func := "loop.example/g00301/laws.FnExactForgotten", spec := "fnExactForgotten", unfollowed := true, recurses := true, apart := false }
def FnExactForgottenSaid : Prop := fnExactForgottenRow.holds Tryz.pinned (OpenSpec.ofChange fnExactForgottenSpec)

/-- ITS FALSE NEIGHBOUR: 'it returns false'. Refute it at one input. -/
def fnExactForgottenWrong : ChangeSpec := { name := "fnExactForgotten", fn := fun _ => fun
  | [d] => { results := [.lit (.bool false)], args := [d] }
  | _ => none }
def FnExactForgottenWrongFalsely : Prop := fnExactForgottenRow.holds Tryz.pinned (OpenSpec.ofChange fnExactForgottenWrong)

/- THE SECOND FORM. 'bulk': how many values and letters a reading holds, each counted each time it is reached (what is shared counts as often as it is met; a slice's spare places count too). A statement '..UptoSaid' is the law's where the arguments, and the package variables that the reading takes, are together of bulk at most 1048576: NARROWER than '..Said'. Prove '..Said' where nothing that the law and all that it calls make is longer than what came in: it says more and counts as full. Else prove '..UptoSaid'. A law counts once. -/
mutual
def uptoBulk {H : Type} : DataW H → Nat
  | .lit (.string bytes) => bytes.length + 1
  | .lit _ => 1
  | .nil => 1
  | .ptr d => uptoBulk d + 1
  | .slice elems spare => uptoBulkAll elems + uptoBulkAll spare + 1
  | .agg parts => uptoBulkAll parts + 1
  | .iface _ d => uptoBulk d + 1
  | .map entries => uptoBulkEntries entries + 1
  | .held _ => 1
def uptoBulkAll {H : Type} : List (DataW H) → Nat
  | [] => 0
  | d :: r => uptoBulk d + uptoBulkAll r
def uptoBulkEntries {H : Type} : List (Lit × DataW H) → Nat
  | [] => 0
  | x :: r => uptoBulkEntry x + uptoBulkEntries r
def uptoBulkEntry {H : Type} : Lit × DataW H → Nat
  | (.string bytes, d) => bytes.length + uptoBulk d + 1
  | (_, d) => uptoBulk d + 1
 end
def uptoSmall : (H : Type) → List (DataW H) → Bool := fun _ ds => decide (uptoBulkAll ds ≤ 1048576)
def OpenSpec.upto (s : _root_.Go.ChangeSpec) : _root_.Go.OpenSpec := { _root_.Go.OpenSpec.ofChange s with cond := some uptoSmall }

/-- 'laws.FnDeals', WHERE WHAT IT READS IS OF BULK AT MOST 1048576: true; the input reads as it did. -/
def fnDealsUptoRow : OpenClaim := { program := "ytobbankkfplooaagreat", sum := "12e64c877fe3576dfdb267413c2ee80a035afc8c3035502838d102429fda5920", func := "loop.example/g00301/laws.FnDeals", spec := "fnDeals", unfollowed := true, recurses := true, apart := false, narrowed := true }
def FnDealsUptoSaid : Prop := fnDealsUptoRow.holds Tryz.pinned (OpenSpec.upto fnDealsSpec)

/-- 'laws.FnExactVoted', WHERE WHAT IT READS IS OF BULK AT MOST 1048576: true; the input reads as it did. -/
def fnExactVotedUptoRow : OpenClaim := { program := "ytobbankkfplooaagreat", sum := "12e64c877fe3576dfdb267413c2ee80a035afc8c3035502838d102429fda5920", func := "loop.example/g00301/laws.FnExactVoted", spec := "fnExactVoted", unfollowed := true, recurses := true, apart := false, narrowed := true }
def FnExactVotedUptoSaid : Prop := fnExactVotedUptoRow.holds Tryz.pinned (OpenSpec.upto fnExactVotedSpec)

/-- 'laws.FnExactDecided', WHERE WHAT IT READS IS OF BULK AT MOST 1048576: true; the input reads as it did. -/
def fnExactDecidedUptoRow : OpenClaim := { program := "ytobbankkfplooaagreat", sum := "12e64c877fe3576dfdb267413c2ee80a035afc8c3035502838d102429fda5920", func := "loop.example/g00301/laws.FnExactDecided", spec := "fnExactDecided", unfollowed := true, recurses := true, apart := false, narrowed := true }
def FnExactDecidedUptoSaid : Prop := fnExactDecidedUptoRow.holds Tryz.pinned (OpenSpec.upto fnExactDecidedSpec)

/-- 'laws.FnExactForgotten', WHERE WHAT IT READS IS OF BULK AT MOST 1048576: true; the input reads as it did. -/
def fnExactForgottenUptoRow : OpenClaim := { program := "ytobbankkfplooaagreat", sum := "12e64c877fe3576dfdb267413c2ee80a035afc8c3035502838d102429fda5920", func := "loop.example/g00301/laws.FnExactForgotten", spec := "fnExactForgotten", unfollowed := true, recurses := true, apart := false, narrowed := true }
def FnExactForgottenUptoSaid : Prop := fnExactForgottenUptoRow.holds Tryz.pinned (OpenSpec.upto fnExactForgottenSpec)

end Rows
end Go.Proofs.YtobbankkfplooaaGreat
