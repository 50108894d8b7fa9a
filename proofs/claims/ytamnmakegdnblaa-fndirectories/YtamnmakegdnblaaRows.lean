/-
  No cell of these rows narrows 'for every input' (looked for: loops, veiled, ifaces, maps, wideKeys, modest, calm, conditions, laid).
  DERIVED. THE GIVEN ROWS OF THIS SEAT. 6 by the template 'for every input the law returns true; each argument reads behind the call as it read before'; 0 by the template 'total and deterministic' (their statements: YtamnmakegdnblaaTotals.lean).
  GIVEN WITH THE SEED: the statements are not yours to turn. If you find one false, say at which input.
  Laid BY PROGRAM, IN A SANDBOX (cutbox-rows.mjs): the forced cells as the released guide's own fill.sh prints them over the translation 749ee922aa529faf… (all of the seat's roots in one cut). By AI agents, Wed Nov 11 2026. No macro, syntax, notation, axiom, sorry.
-/
import Derived.Test.YtamnmakegdnblaaChecked
import GoSem.Claim
import GoSem.ClaimJoined
import GoSem.ClaimMapViews
import Derived.JoinedTies
import Derived.KernelRfl
namespace Go.Proofs.Ytamnmakegdnblaa
/- THE CELL 'sum', in the pinned program and in every row, IS THE sha256 OF THE DUMP (.gsa) THAT YtamnmakegdnblaaProg.lean LOADS. Nothing in Lean hashes anything: it is a label: what it is worth is what the hold of that sum in a sandbox is worth. -/
noncomputable def Try.pinned : Pinned := { name := "ytamnmakegdnblaa", sum := "749ee922aa529faf0a4645ae2f41e75f50a02459e2c77e9de4eedf61663226f5", checked := Try.checked }
namespace Rows
def none {H : Type} : Left H := { results := [], args := [] }

/-- 'laws.FnDirectories': WHATEVER THE INPUT: true; the input reads as it did. -/
def fnDirectoriesSpec : ChangeSpec := { name := "fnDirectories", fn := fun _ => fun
  | [d] => { results := [.lit (.bool true)], args := [d] }
  | _ => none }
def fnDirectoriesRow : OpenClaim := { program := "ytamnmakegdnblaa", sum := "749ee922aa529faf0a4645ae2f41e75f50a02459e2c77e9de4eedf61663226f5", func := "loop.example/g00301/laws.FnDirectories", spec := "fnDirectories", unfollowed := true, recurses := true, apart := false }
def FnDirectoriesSaid : Prop := fnDirectoriesRow.holds Try.pinned (OpenSpec.ofChange fnDirectoriesSpec)

/-- ITS FALSE NEIGHBOUR: 'it returns false'. Refute it at one input. -/
def fnDirectoriesWrong : ChangeSpec := { name := "fnDirectories", fn := fun _ => fun
  | [d] => { results := [.lit (.bool false)], args := [d] }
  | _ => none }
def FnDirectoriesWrongFalsely : Prop := fnDirectoriesRow.holds Try.pinned (OpenSpec.ofChange fnDirectoriesWrong)

/-- 'laws.FnExactDirectoryOk': WHATEVER THE INPUT: true; the input reads as it did. -/
def fnExactDirectoryOkSpec : ChangeSpec := { name := "fnExactDirectoryOk", fn := fun _ => fun
  | [d] => { results := [.lit (.bool true)], args := [d] }
  | _ => none }
def fnExactDirectoryOkRow : OpenClaim := { program := "ytamnmakegdnblaa", sum := "749ee922aa529faf0a4645ae2f41e75f50a02459e2c77e9de4eedf61663226f5", func := "loop.example/g00301/laws.FnExactDirectoryOk", spec := "fnExactDirectoryOk", unfollowed := true, recurses := true, apart := false }
def FnExactDirectoryOkSaid : Prop := fnExactDirectoryOkRow.holds Try.pinned (OpenSpec.ofChange fnExactDirectoryOkSpec)

/-- ITS FALSE NEIGHBOUR: 'it returns false'. Refute it at one input. -/
def fnExactDirectoryOkWrong : ChangeSpec := { name := "fnExactDirectoryOk", fn := fun _ => fun
  | [d] => { results := [.lit (.bool false)], args := [d] }
  | _ => none }
def FnExactDirectoryOkWrongFalsely : Prop := fnExactDirectoryOkRow.holds Try.pinned (OpenSpec.ofChange fnExactDirectoryOkWrong)

/-- 'laws.FnExactNewDirectory': WHATEVER THE INPUT: true; the input reads as it did. -/
def fnExactNewDirectorySpec : ChangeSpec := { name := "fnExactNewDirectory", fn := fun _ => fun
  | [] => { results := [.lit (.bool true)], args := [] }
  | _ => none }
def fnExactNewDirectoryRow : OpenClaim := { program := "ytamnmakegdnblaa", sum := "749ee922aa529faf0a4645ae2f41e75f50a02459e2c77e9de4eedf61663226f5", func := "loop.example/g00301/laws.FnExactNewDirectory", spec := "fnExactNewDirectory", apart := false }
def FnExactNewDirectorySaid : Prop := fnExactNewDirectoryRow.holds Try.pinned (OpenSpec.ofChange fnExactNewDirectorySpec)

/-- ITS FALSE NEIGHBOUR: 'it returns false'. Refute it at one input. -/
def fnExactNewDirectoryWrong : ChangeSpec := { name := "fnExactNewDirectory", fn := fun _ => fun
  | [] => { results := [.lit (.bool false)], args := [] }
  | _ => none }
def FnExactNewDirectoryWrongFalsely : Prop := fnExactNewDirectoryRow.holds Try.pinned (OpenSpec.ofChange fnExactNewDirectoryWrong)

/-- 'laws.FnExactShardOf': WHATEVER THE INPUT: true; the input reads as it did. -/
def fnExactShardOfSpec : ChangeSpec := { name := "fnExactShardOf", fn := fun _ => fun
  | [d1, d2] => { results := [.lit (.bool true)], args := [d1, d2] }
  | _ => none }
def fnExactShardOfRow : OpenClaim := { program := "ytamnmakegdnblaa", sum := "749ee922aa529faf0a4645ae2f41e75f50a02459e2c77e9de4eedf61663226f5", func := "loop.example/g00301/laws.FnExactShardOf", spec := "fnExactShardOf", unfollowed := true, recurses := true, apart := false }
def FnExactShardOfSaid : Prop := fnExactShardOfRow.holds Try.pinned (OpenSpec.ofChange fnExactShardOfSpec)

/-- ITS FALSE NEIGHBOUR: 'it returns false'. Refute it at one input. -/
def fnExactShardOfWrong : ChangeSpec := { name := "fnExactShardOf", fn := fun _ => fun
  | [d1, d2] => { results := [.lit (.bool false)], args := [d1, d2] }
  | _ => none }
def FnExactShardOfWrongFalsely : Prop := fnExactShardOfRow.holds Try.pinned (OpenSpec.ofChange fnExactShardOfWrong)

/-- 'laws.FnExactSplit': WHATEVER THE INPUT: true; the input reads as it did. -/
def fnExactSplitSpec : ChangeSpec := { name := "fnExactSplit", fn := fun _ => fun
  | [d1, d2] => { results := [.lit (.bool true)], args := [d1, d2] }
  | _ => none }
def fnExactSplitRow : OpenClaim := { program := "ytamnmakegdnblaa", sum := "749ee922aa529faf0a4645ae2f41e75f50a02459e2c77e9de4eedf61663226f5", func := "loop.example/g00301/laws.FnExactSplit", spec := "fnExactSplit", unfollowed := true, recurses := true, apart := false }
def FnExactSplitSaid : Prop := fnExactSplitRow.holds Try.pinned (OpenSpec.ofChange fnExactSplitSpec)

/-- ITS FALSE NEIGHBOUR: 'it returns false'. Refute it at one input. -/
def fnExactSplitWrong : ChangeSpec := { name := "fnExactSplit", fn := fun _ => fun
  | [d1, d2] => { results := [.lit (.bool false)], args := [d1, d2] }
  | _ => none }
def FnExactSplitWrongFalsely : Prop := fnExactSplitRow.holds Try.pinned (OpenSpec.ofChange fnExactSplitWrong)

/-- 'laws.FnExactGiven': WHATEVER THE INPUT: true; the input reads as it did. -/
def fnExactGivenSpec : ChangeSpec := { name := "fnExactGiven", fn := fun _ => fun
  | [d1, d2, d3] => { results := [.lit (.bool true)], args := [d1, d2, d3] }
  | _ => none }
def fnExactGivenRow : OpenClaim := { program := "ytamnmakegdnblaa", sum := "749ee922aa529faf0a4645ae2f41e75f50a02459e2c77e9de4eedf61663226f5", func := "loop.example/g00301/laws.FnExactGiven", spec := "fnExactGiven", unfollowed := true, recurses := true, apart := false }
def FnExactGivenSaid : Prop := fnExactGivenRow.holds Try.pinned (OpenSpec.ofChange fnExactGivenSpec)

/-- ITS FALSE NEIGHBOUR: 'it returns false'. Refute it at one input. -/
def fnExactGivenWrong : ChangeSpec := { name := "fnExactGiven", fn := fun _ => fun
  | [d1, d2, d3] => { results := [.lit (.bool false)], args := [d1, d2, d3] }
  | _ => none }
def FnExactGivenWrongFalsely : Prop := fnExactGivenRow.holds Try.pinned (OpenSpec.ofChange fnExactGivenWrong)

/- THE SECOND FORM. 'bulk': how many values and letters a reading holds, each counted each time it is reached (what is shared counts as often as it is met; a slice's spare places count too). A statement '..UptoSaid' is the law's where the arguments, and the package variables that the reading takes, are together of bulk at most 1048576: NARROWER than '..Said'. Prove '..Said' where nothing that the law and all that it calls make is longer than what came in: it says more and counts as full. Else prove '..UptoSaid'. A law counts once. -/
mutual
def uptoBulk {H : Type} : DataW H → Nat
  | .lit (.string bytes) => bytes.length + 1
  | .lit _ => 1
  | .nil => 1
  | .ptr d => uptoBulk d + 1
  | .slice elems spare => uptoBulkAll elems + uptoBulkAll spare + 1
  | .agg parts => uptoBulkAll parts + 1
  | .iface _ d => uptoBulk d + 1
  | .map entries => uptoBulkEntries entries + 1
  | .held _ => 1
def uptoBulkAll {H : Type} : List (DataW H) → Nat
  | [] => 0
  | d :: r => uptoBulk d + uptoBulkAll r
def uptoBulkEntries {H : Type} : List (Lit × DataW H) → Nat
  | [] => 0
  | x :: r => uptoBulkEntry x + uptoBulkEntries r
def uptoBulkEntry {H : Type} : Lit × DataW H → Nat
  | (.string bytes, d) => bytes.length + uptoBulk d + 1
  | (_, d) => uptoBulk d + 1
 end
def uptoSmall : (H : Type) → List (DataW H) → Bool := fun _ ds => decide (uptoBulkAll ds ≤ 1048576)
def OpenSpec.upto (s : _root_.Go.ChangeSpec) : _root_.Go.OpenSpec := { _root_.Go.OpenSpec.ofChange s with cond := some uptoSmall }

/-- 'laws.FnDirectories', WHERE WHAT IT READS IS OF BULK AT MOST 1048576: true; the input reads as it did. -/
def fnDirectoriesUptoRow : OpenClaim := { program := "ytamnmakegdnblaa", sum := "749ee922aa529faf0a4645ae2f41e75f50a02459e2c77e9de4eedf61663226f5", func := "loop.example/g00301/laws.FnDirectories", spec := "fnDirectories", unfollowed := true, recurses := true, apart := false, narrowed := true }
def FnDirectoriesUptoSaid : Prop := fnDirectoriesUptoRow.holds Try.pinned (OpenSpec.upto fnDirectoriesSpec)

/-- 'laws.FnExactDirectoryOk', WHERE WHAT IT READS IS OF BULK AT MOST 1048576: true; the input reads as it did. -/
def fnExactDirectoryOkUptoRow : OpenClaim := { program := "ytamnmakegdnblaa", sum := "749ee922aa529faf0a4645ae2f41e75f50a02459e2c77e9de4eedf61663226f5", func := "loop.example/g00301/laws.FnExactDirectoryOk", spec := "fnExactDirectoryOk", unfollowed := true, recurses := true, apart := false, narrowed := true }
def FnExactDirectoryOkUptoSaid : Prop := fnExactDirectoryOkUptoRow.holds Try.pinned (OpenSpec.upto fnExactDirectoryOkSpec)

/-- 'laws.FnExactNewDirectory', WHERE WHAT IT READS IS OF BULK AT MOST 1048576: true; the input reads as it did. -/
def fnExactNewDirectoryUptoRow : OpenClaim := { program := "ytamnmakegdnblaa", sum := "749ee922aa529faf0a4645ae2f41e75f50a02459e2c77e9de4eedf61663226f5", func := "loop.example/g00301/laws.FnExactNewDirectory", spec := "fnExactNewDirectory", apart := false, narrowed := true }
def FnExactNewDirectoryUptoSaid : Prop := fnExactNewDirectoryUptoRow.holds Try.pinned (OpenSpec.upto fnExactNewDirectorySpec)

/-- 'laws.FnExactShardOf', WHERE WHAT IT READS IS OF BULK AT MOST 1048576: true; the input reads as it did. -/
def fnExactShardOfUptoRow : OpenClaim := { program := "ytamnmakegdnblaa", sum := "749ee922aa529faf0a4645ae2f41e75f50a02459e2c77e9de4eedf61663226f5", func := "loop.example/g00301/laws.FnExactShardOf", spec := "fnExactShardOf", unfollowed := true, recurses := true, apart := false, narrowed := true }
def FnExactShardOfUptoSaid : Prop := fnExactShardOfUptoRow.holds Try.pinned (OpenSpec.upto fnExactShardOfSpec)

/-- 'laws.FnExactSplit', WHERE WHAT IT READS IS OF BULK AT MOST 1048576: true; the input reads as it did. -/
def fnExactSplitUptoRow : OpenClaim := { program := "ytamnmakegdnblaa", sum := "749ee922aa529faf0a4645ae2f41e75f50a02459e2c77e9de4eedf61663226f5", func := "loop.example/g00301/laws.FnExactSplit", spec := "fnExactSplit", unfollowed := true, recurses := true, apart := false, narrowed := true }
def FnExactSplitUptoSaid : Prop := fnExactSplitUptoRow.holds Try.pinned (OpenSpec.upto fnExactSplitSpec)

/-- 'laws.FnExactGiven', WHERE WHAT IT READS IS OF BULK AT MOST 1048576: true; the input reads as it did. -/
def fnExactGivenUptoRow : OpenClaim := { program := "ytamnmakegdnblaa", sum := "749ee922aa529faf0a4645ae2f41e75f50a02459e2c77e9de4eedf61663226f5", func := "loop.example/g00301/laws.FnExactGiven", spec := "fnExactGiven", unfollowed := true, recurses := true, apart := false, narrowed := true }
def FnExactGivenUptoSaid : Prop := fnExactGivenUptoRow.holds Try.pinned (OpenSpec.upto fnExactGivenSpec)

end Rows
end Go.Proofs.Ytamnmakegdnblaa
