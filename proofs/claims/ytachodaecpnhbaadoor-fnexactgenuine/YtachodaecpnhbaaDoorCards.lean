/-
  DERIVED. GIVEN WITH THE SEED: THE CARDS: each row of YtachodaecpnhbaaDoorRows.lean that lists a variable, with what it lists TIED to the program's text (the seventh form; the later family's looks); each row that meets fmt, with fmt's text TOLD by the authors' own Lean function (tested against real Go, not proved from fmt's source: count such statements apart). THE CARD IS WHAT COUNTS. Prove the row's statement (the work); the ties are given (YtachodaecpnhbaaDoorTie.lean); close each card by the builder's one call (the guide's Derived/Test/ToyasCard.lean, 'card_holds'). Laid BY PROGRAM, IN A SANDBOX (cutbox-door.mjs). By AI agents, Wed Nov 11 2026. No macro, syntax, notation, axiom, sorry.
-/
import Derived.Test.YtachodaecpnhbaaDoorRows
import GoSem.ClaimSeven
namespace Go.Proofs.YtachodaecpnhbaaDoor
namespace Rows

/-- THE TIED CARD OF 'laws.FnExactClauseText'. -/
def fnExactClauseTextCard : Claim7 := { stood := { row := fnExactClauseTextRow, standIns := [], harness := (true, "429c9019a144dcd4c5e061722546c4cc90e4590a849d9e58c966f2e051ef1bd8"), looks := false }, kinds := [], alts := [], laidByText := true, laidKinds := [.data, .data, .data], laidTests := true, laidLooks := .later }
def FnExactClauseTextCardSaid : Prop := Claim7.holds Tryd.pinned (.plain (OpenSpec.ofChange fnExactClauseTextSpec)) fnExactClauseTextCard

/-- THE TIED CARD OF 'laws.FnExactGenuine'. -/
def fnExactGenuineCard : Claim7 := { stood := { row := fnExactGenuineRow, standIns := [], harness := (true, "429c9019a144dcd4c5e061722546c4cc90e4590a849d9e58c966f2e051ef1bd8"), looks := false }, kinds := [], alts := [], laidByText := true, laidKinds := [.data, .data, .data], laidTests := true, laidLooks := .later }
def FnExactGenuineCardSaid : Prop := Claim7.holds Tryd.pinned (.plain (OpenSpec.ofChange fnExactGenuineSpec)) fnExactGenuineCard

/-- THE SECOND FORM's CARD OF 'laws.FnExactClauseText'. -/
def fnExactClauseTextUptoCard : Claim7 := { stood := { row := fnExactClauseTextUptoRow, standIns := [], harness := (true, "429c9019a144dcd4c5e061722546c4cc90e4590a849d9e58c966f2e051ef1bd8"), looks := false }, kinds := [], alts := [], laidByText := true, laidKinds := [.data, .data, .data], laidTests := true, laidLooks := .later }
def FnExactClauseTextUptoCardSaid : Prop := Claim7.holds Tryd.pinned (.plain (OpenSpec.upto fnExactClauseTextSpec)) fnExactClauseTextUptoCard

/-- THE SECOND FORM's CARD OF 'laws.FnExactGenuine'. -/
def fnExactGenuineUptoCard : Claim7 := { stood := { row := fnExactGenuineUptoRow, standIns := [], harness := (true, "429c9019a144dcd4c5e061722546c4cc90e4590a849d9e58c966f2e051ef1bd8"), looks := false }, kinds := [], alts := [], laidByText := true, laidKinds := [.data, .data, .data], laidTests := true, laidLooks := .later }
def FnExactGenuineUptoCardSaid : Prop := Claim7.holds Tryd.pinned (.plain (OpenSpec.upto fnExactGenuineSpec)) fnExactGenuineUptoCard
end Rows
end Go.Proofs.YtachodaecpnhbaaDoor
