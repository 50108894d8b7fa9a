/-
  No cell of these rows narrows 'for every input' (looked for: loops, veiled, ifaces, maps, wideKeys, modest, calm, conditions, laid).
  DERIVED. THE GIVEN ROWS OF THIS SEAT. 7 by the template 'for every input the law returns true; each argument reads behind the call as it read before'; 0 by the template 'total and deterministic' (their statements: YtjjnmeahcjpinaaTotals.lean).
  GIVEN WITH THE SEED: the statements are not yours to turn. If you find one false, say at which input.
  Laid BY PROGRAM, IN A SANDBOX (cutbox-rows.mjs): the forced cells as the released guide's own fill.sh prints them over the translation 746762289e83ae92… (all of the seat's roots in one cut). By AI agents, Wed Nov 11 2026. No macro, syntax, notation, axiom, sorry.
-/
import Derived.Test.YtjjnmeahcjpinaaChecked
import GoSem.Claim
import GoSem.ClaimJoined
import GoSem.ClaimMapViews
import Derived.JoinedTies
import Derived.KernelRfl
namespace Go.Proofs.Ytjjnmeahcjpinaa
/- THE CELL 'sum', in the pinned program and in every row, IS THE sha256 OF THE DUMP (.gsa) THAT YtjjnmeahcjpinaaProg.lean LOADS. Nothing in Lean hashes anything: it is a label: what it is worth is what the hold of that sum in a sandbox is worth. -/
noncomputable def Try.pinned : Pinned := { name := "ytjjnmeahcjpinaa", sum := "746762289e83ae921c8c903d58553cbe968b3eadf3b5ec773acdc0c87458e786", checked := Try.checked }
namespace Rows
def none {H : Type} : Left H := { results := [], args := [] }

/-- 'laws.FnRecords': WHATEVER THE INPUT: true; the input reads as it did. -/
def fnRecordsSpec : ChangeSpec := { name := "fnRecords", fn := fun _ => fun
  | [d] => { results := [.lit (.bool true)], args := [d] }
  | _ => none }
def fnRecordsRow : OpenClaim := { program := "ytjjnmeahcjpinaa", sum := "746762289e83ae921c8c903d58553cbe968b3eadf3b5ec773acdc0c87458e786", func := "loop.example/g00301/laws.FnRecords", spec := "fnRecords", unfollowed := true, recurses := true, apart := false }
def FnRecordsSaid : Prop := fnRecordsRow.holds Try.pinned (OpenSpec.ofChange fnRecordsSpec)

/-- ITS FALSE NEIGHBOUR: 'it returns false'. Refute it at one input. -/
def fnRecordsWrong : ChangeSpec := { name := "fnRecords", fn := fun _ => fun
  | [d] => { results := [.lit (.bool false)], args := [d] }
  | _ => none }
def FnRecordsWrongFalsely : Prop := fnRecordsRow.holds Try.pinned (OpenSpec.ofChange fnRecordsWrong)

/-- 'laws.FnExactRecordsOk': WHATEVER THE INPUT: true; the input reads as it did. -/
def fnExactRecordsOkSpec : ChangeSpec := { name := "fnExactRecordsOk", fn := fun _ => fun
  | [d] => { results := [.lit (.bool true)], args := [d] }
  | _ => none }
def fnExactRecordsOkRow : OpenClaim := { program := "ytjjnmeahcjpinaa", sum := "746762289e83ae921c8c903d58553cbe968b3eadf3b5ec773acdc0c87458e786", func := "loop.example/g00301/laws.FnExactRecordsOk", spec := "fnExactRecordsOk", unfollowed := true, recurses := true, apart := false }
def FnExactRecordsOkSaid : Prop := fnExactRecordsOkRow.holds Try.pinned (OpenSpec.ofChange fnExactRecordsOkSpec)

/-- ITS FALSE NEIGHBOUR: 'it returns false'. Refute it at one input. -/
def fnExactRecordsOkWrong : ChangeSpec := { name := "fnExactRecordsOk", fn := fun _ => fun
  | [d] => { results := [.lit (.bool false)], args := [d] }
  | _ => none }
def FnExactRecordsOkWrongFalsely : Prop := fnExactRecordsOkRow.holds Try.pinned (OpenSpec.ofChange fnExactRecordsOkWrong)

/-- 'laws.FnExactSet': WHATEVER THE INPUT: true; the input reads as it did. -/
def fnExactSetSpec : ChangeSpec := { name := "fnExactSet", fn := fun _ => fun
  | [d1, d2] => { results := [.lit (.bool true)], args := [d1, d2] }
  | _ => none }
def fnExactSetRow : OpenClaim := { program := "ytjjnmeahcjpinaa", sum := "746762289e83ae921c8c903d58553cbe968b3eadf3b5ec773acdc0c87458e786", func := "loop.example/g00301/laws.FnExactSet", spec := "fnExactSet", unfollowed := true, recurses := true, apart := false }
def FnExactSetSaid : Prop := fnExactSetRow.holds Try.pinned (OpenSpec.ofChange fnExactSetSpec)

/-- ITS FALSE NEIGHBOUR: 'it returns false'. Refute it at one input. -/
def fnExactSetWrong : ChangeSpec := { name := "fnExactSet", fn := fun _ => fun
  | [d1, d2] => { results := [.lit (.bool false)], args := [d1, d2] }
  | _ => none }
def FnExactSetWrongFalsely : Prop := fnExactSetRow.holds Try.pinned (OpenSpec.ofChange fnExactSetWrong)

/-- 'laws.FnExactCut': WHATEVER THE INPUT: true; the input reads as it did. -/
def fnExactCutSpec : ChangeSpec := { name := "fnExactCut", fn := fun _ => fun
  | [d1, d2, d3] => { results := [.lit (.bool true)], args := [d1, d2, d3] }
  | _ => none }
def fnExactCutRow : OpenClaim := { program := "ytjjnmeahcjpinaa", sum := "746762289e83ae921c8c903d58553cbe968b3eadf3b5ec773acdc0c87458e786", func := "loop.example/g00301/laws.FnExactCut", spec := "fnExactCut", unfollowed := true, recurses := true, apart := false }
def FnExactCutSaid : Prop := fnExactCutRow.holds Try.pinned (OpenSpec.ofChange fnExactCutSpec)

/-- ITS FALSE NEIGHBOUR: 'it returns false'. Refute it at one input. -/
def fnExactCutWrong : ChangeSpec := { name := "fnExactCut", fn := fun _ => fun
  | [d1, d2, d3] => { results := [.lit (.bool false)], args := [d1, d2, d3] }
  | _ => none }
def FnExactCutWrongFalsely : Prop := fnExactCutRow.holds Try.pinned (OpenSpec.ofChange fnExactCutWrong)

/-- 'laws.FnExactOf': WHATEVER THE INPUT: true; the input reads as it did. -/
def fnExactOfSpec : ChangeSpec := { name := "fnExactOf", fn := fun _ => fun
  | [d1, d2] => { results := [.lit (.bool true)], args := [d1, d2] }
  | _ => none }
def fnExactOfRow : OpenClaim := { program := "ytjjnmeahcjpinaa", sum := "746762289e83ae921c8c903d58553cbe968b3eadf3b5ec773acdc0c87458e786", func := "loop.example/g00301/laws.FnExactOf", spec := "fnExactOf", unfollowed := true, recurses := true, apart := false }
def FnExactOfSaid : Prop := fnExactOfRow.holds Try.pinned (OpenSpec.ofChange fnExactOfSpec)

/-- ITS FALSE NEIGHBOUR: 'it returns false'. Refute it at one input. -/
def fnExactOfWrong : ChangeSpec := { name := "fnExactOf", fn := fun _ => fun
  | [d1, d2] => { results := [.lit (.bool false)], args := [d1, d2] }
  | _ => none }
def FnExactOfWrongFalsely : Prop := fnExactOfRow.holds Try.pinned (OpenSpec.ofChange fnExactOfWrong)

/-- 'laws.FnExactInCells': WHATEVER THE INPUT: true; the input reads as it did. -/
def fnExactInCellsSpec : ChangeSpec := { name := "fnExactInCells", fn := fun _ => fun
  | [d1, d2, d3] => { results := [.lit (.bool true)], args := [d1, d2, d3] }
  | _ => none }
def fnExactInCellsRow : OpenClaim := { program := "ytjjnmeahcjpinaa", sum := "746762289e83ae921c8c903d58553cbe968b3eadf3b5ec773acdc0c87458e786", func := "loop.example/g00301/laws.FnExactInCells", spec := "fnExactInCells", unfollowed := true, recurses := true, apart := false }
def FnExactInCellsSaid : Prop := fnExactInCellsRow.holds Try.pinned (OpenSpec.ofChange fnExactInCellsSpec)

/-- ITS FALSE NEIGHBOUR: 'it returns false'. Refute it at one input. -/
def fnExactInCellsWrong : ChangeSpec := { name := "fnExactInCells", fn := fun _ => fun
  | [d1, d2, d3] => { results := [.lit (.bool false)], args := [d1, d2, d3] }
  | _ => none }
def FnExactInCellsWrongFalsely : Prop := fnExactInCellsRow.holds Try.pinned (OpenSpec.ofChange fnExactInCellsWrong)

/-- 'laws.FnExactSame': WHATEVER THE INPUT: true; the input reads as it did. -/
def fnExactSameSpec : ChangeSpec := { name := "fnExactSame", fn := fun _ => fun
  | [d1, d2] => { results := [.lit (.bool true)], args := [d1, d2] }
  | _ => none }
def fnExactSameRow : OpenClaim := { program := "ytjjnmeahcjpinaa", sum := "746762289e83ae921c8c903d58553cbe968b3eadf3b5ec773acdc0c87458e786", func := "loop.example/g00301/laws.FnExactSame", spec := "fnExactSame", unfollowed := true, recurses := true, apart := false }
def FnExactSameSaid : Prop := fnExactSameRow.holds Try.pinned (OpenSpec.ofChange fnExactSameSpec)

/-- ITS FALSE NEIGHBOUR: 'it returns false'. Refute it at one input. -/
def fnExactSameWrong : ChangeSpec := { name := "fnExactSame", fn := fun _ => fun
  | [d1, d2] => { results := [.lit (.bool false)], args := [d1, d2] }
  | _ => none }
def FnExactSameWrongFalsely : Prop := fnExactSameRow.holds Try.pinned (OpenSpec.ofChange fnExactSameWrong)

/- THE SECOND FORM. 'bulk': how many values and letters a reading holds, each counted each time it is reached (what is shared counts as often as it is met; a slice's spare places count too). A statement '..UptoSaid' is the law's where the arguments, and the package variables that the reading takes, are together of bulk at most 1048576: NARROWER than '..Said'. Prove '..Said' where nothing that the law and all that it calls make is longer than what came in: it says more and counts as full. Else prove '..UptoSaid'. A law counts once. -/
mutual
def uptoBulk {H : Type} : DataW H → Nat
  | .lit (.string bytes) => bytes.length + 1
  | .lit _ => 1
  | .nil => 1
  | .ptr d => uptoBulk d + 1
  | .slice elems spare => uptoBulkAll elems + uptoBulkAll spare + 1
  | .agg parts => uptoBulkAll parts + 1
  | .iface _ d => uptoBulk d + 1
  | .map entries => uptoBulkEntries entries + 1
  | .held _ => 1
def uptoBulkAll {H : Type} : List (DataW H) → Nat
  | [] => 0
  | d :: r => uptoBulk d + uptoBulkAll r
def uptoBulkEntries {H : Type} : List (Lit × DataW H) → Nat
  | [] => 0
  | x :: r => uptoBulkEntry x + uptoBulkEntries r
def uptoBulkEntry {H : Type} : Lit × DataW H → Nat
  | (.string bytes, d) => bytes.length + uptoBulk d + 1
  | (_, d) => uptoBulk d + 1
 end
def uptoSmall : (H : Type) → List (DataW H) → Bool := fun _ ds => decide (uptoBulkAll ds ≤ 1048576)
def OpenSpec.upto (s : _root_.Go.ChangeSpec) : _root_.Go.OpenSpec := { _root_.Go.OpenSpec.ofChange s with cond := some uptoSmall }

/-- 'laws.FnRecords', WHERE WHAT IT READS IS OF BULK AT MOST 1048576: true; the input reads as it did. -/
def fnRecordsUptoRow : OpenClaim := { program := "ytjjnmeahcjpinaa", sum := "746762289e83ae921c8c903d58553cbe968b3eadf3b5ec773acdc0c87458e786", func := "loop.example/g00301/laws.FnRecords", spec := "fnRecords", unfollowed := true, recurses := true, apart := false, narrowed := true }
def FnRecordsUptoSaid : Prop := fnRecordsUptoRow.holds Try.pinned (OpenSpec.upto fnRecordsSpec)

/-- 'laws.FnExactRecordsOk', WHERE WHAT IT READS IS OF BULK AT MOST 1048576: true; the input reads as it did. -/
def fnExactRecordsOkUptoRow : OpenClaim := { program := "ytjjnmeahcjpinaa", sum := "746762289e83ae921c8c903d58553cbe968b3eadf3b5ec773acdc0c87458e786", func := "loop.example/g00301/laws.FnExactRecordsOk", spec := "fnExactRecordsOk", unfollowed := true, recurses := true, apart := false, narrowed := true }
def FnExactRecordsOkUptoSaid : Prop := fnExactRecordsOkUptoRow.holds Try.pinned (OpenSpec.upto fnExactRecordsOkSpec)

/-- 'laws.FnExactSet', WHERE WHAT IT READS IS OF BULK AT MOST 1048576: true; the input reads as it did. -/
def fnExactSetUptoRow : OpenClaim := { program := "ytjjnmeahcjpinaa", sum := "746762289e83ae921c8c903d58553cbe968b3eadf3b5ec773acdc0c87458e786", func := "loop.example/g00301/laws.FnExactSet", spec := "fnExactSet", unfollowed := true, recurses := true, apart := false, narrowed := true }
def FnExactSetUptoSaid : Prop := fnExactSetUptoRow.holds Try.pinned (OpenSpec.upto fnExactSetSpec)

/-- 'laws.FnExactCut', WHERE WHAT IT READS IS OF BULK AT MOST 1048576: true; the input reads as it did. -/
def fnExactCutUptoRow : OpenClaim := { program := "ytjjnmeahcjpinaa", sum := "746762289e83ae921c8c903d58553cbe968b3eadf3b5ec773acdc0c87458e786", func := "loop.example/g00301/laws.FnExactCut", spec := "fnExactCut", unfollowed := true, recurses := true, apart := false, narrowed := true }
def FnExactCutUptoSaid : Prop := fnExactCutUptoRow.holds Try.pinned (OpenSpec.upto fnExactCutSpec)

/-- 'laws.FnExactOf', WHERE WHAT IT READS IS OF BULK AT MOST 1048576: true; the input reads as it did. -/
def fnExactOfUptoRow : OpenClaim := { program := "ytjjnmeahcjpinaa", sum := "746762289e83ae921c8c903d58553cbe968b3eadf3b5ec773acdc0c87458e786", func := "loop.example/g00301/laws.FnExactOf", spec := "fnExactOf", unfollowed := true, recurses := true, apart := false, narrowed := true }
def FnExactOfUptoSaid : Prop := fnExactOfUptoRow.holds Try.pinned (OpenSpec.upto fnExactOfSpec)

/-- 'laws.FnExactInCells', WHERE WHAT IT READS IS OF BULK AT MOST 1048576: true; the input reads as it did. -/
def fnExactInCellsUptoRow : OpenClaim := { program := "ytjjnmeahcjpinaa", sum := "746762289e83ae921c8c903d58553cbe968b3eadf3b5ec773acdc0c87458e786", func := "loop.example/g00301/laws.FnExactInCells", spec := "fnExactInCells", unfollowed := true, recurses := true, apart := false, narrowed := true }
def FnExactInCellsUptoSaid : Prop := fnExactInCellsUptoRow.holds Try.pinned (OpenSpec.upto fnExactInCellsSpec)

/-- 'laws.FnExactSame', WHERE WHAT IT READS IS OF BULK AT MOST 1048576: true; the input reads as it did. -/
def fnExactSameUptoRow : OpenClaim := { program := "ytjjnmeahcjpinaa", sum := "746762289e83ae921c8c903d58553cbe968b3eadf3b5ec773acdc0c87458e786", func := "loop.example/g00301/laws.FnExactSame", spec := "fnExactSame", unfollowed := true, recurses := true, apart := false, narrowed := true }
def FnExactSameUptoSaid : Prop := fnExactSameUptoRow.holds Try.pinned (OpenSpec.upto fnExactSameSpec)

end Rows
end Go.Proofs.Ytjjnmeahcjpinaa
