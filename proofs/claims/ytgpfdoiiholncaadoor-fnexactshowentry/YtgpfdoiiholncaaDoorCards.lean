/-
  DERIVED. GIVEN WITH THE SEED: THE CARDS: each row of YtgpfdoiiholncaaDoorRows.lean that lists a variable, with what it lists TIED to the program's text (the seventh form; the later family's looks); each row that meets fmt, with fmt's text TOLD by the authors' own Lean function (tested against real Go, not proved from fmt's source: count such statements apart). THE CARD IS WHAT COUNTS. Prove the row's statement (the work); the ties are given (YtgpfdoiiholncaaDoorTie.lean); close each card by the builder's one call (the guide's Derived/Test/ToyasCard.lean, 'card_holds'). Laid BY PROGRAM, IN A SANDBOX (cutbox-door.mjs). By AI agents, Wed Nov 11 2026. No macro, syntax, notation, axiom, sorry.
-/
import Derived.Test.YtgpfdoiiholncaaDoorRows
import GoSem.ClaimSeven
namespace Go.Proofs.YtgpfdoiiholncaaDoor
namespace Rows

/-- THE TIED CARD OF 'laws.FnExactShowEntry'. -/
def fnExactShowEntryCard : Claim7 := { stood := { row := fnExactShowEntryRow, standIns := [], harness := (true, "a9c82f7415ac6c2ddcfe51328412b3275c5c0543521f2c37934e1cd2d3a9b80f"), looks := false }, kinds := [], alts := [], laidByText := true, laidKinds := [.data, .data, .data], laidTests := true, laidLooks := .later }
def FnExactShowEntryCardSaid : Prop := Claim7.holds Tryd.pinned (.plain (OpenSpec.ofChange fnExactShowEntrySpec)) fnExactShowEntryCard

/-- THE SECOND FORM's CARD OF 'laws.FnExactShowEntry'. -/
def fnExactShowEntryUptoCard : Claim7 := { stood := { row := fnExactShowEntryUptoRow, standIns := [], harness := (true, "a9c82f7415ac6c2ddcfe51328412b3275c5c0543521f2c37934e1cd2d3a9b80f"), looks := false }, kinds := [], alts := [], laidByText := true, laidKinds := [.data, .data, .data], laidTests := true, laidLooks := .later }
def FnExactShowEntryUptoCardSaid : Prop := Claim7.holds Tryd.pinned (.plain (OpenSpec.upto fnExactShowEntrySpec)) fnExactShowEntryUptoCard
end Rows
end Go.Proofs.YtgpfdoiiholncaaDoor
