/-
  DERIVED. GIVEN WITH THE SEED: THE CARDS: each row of YtachodaecpnhbaaGreatDoorRows.lean that lists a variable, with what it lists TIED to the program's text (the seventh form; the later family's looks); each row that meets fmt, with fmt's text TOLD by the authors' own Lean function (tested against real Go, not proved from fmt's source: count such statements apart). THE CARD IS WHAT COUNTS. Prove the row's statement (the work); the ties are given (YtachodaecpnhbaaGreatDoorTie.lean); close each card by the builder's one call (the guide's Derived/Test/ToyasCard.lean, 'card_holds'). Laid BY PROGRAM, IN A SANDBOX (cutbox-door.mjs). By AI agents, Wed Nov 11 2026. No macro, syntax, notation, axiom, sorry.
-/
import Derived.Test.YtachodaecpnhbaaGreatDoorRows
import GoSem.ClaimSeven
namespace Go.Proofs.YtachodaecpnhbaaGreatDoor
namespace Rows

/-- THE TIED CARD OF 'laws.FnPapers'. -/
def fnPapersCard : Claim7 := { stood := { row := fnPapersRow, standIns := [], harness := (true, "31c56459b3c999862d9e9acbadbaf83fa6a98118df7964eb4c7343b09024faf9"), looks := false }, kinds := [], alts := [], laidByText := true, laidKinds := [.data, .data, .data], laidTests := true, laidLooks := .later }
def FnPapersCardSaid : Prop := Claim7.holds Tryz.pinned (.plain (OpenSpec.ofChange fnPapersSpec)) fnPapersCard

/-- THE TIED CARD OF 'laws.FnExactMinted'. -/
def fnExactMintedCard : Claim7 := { stood := { row := fnExactMintedRow, standIns := [], harness := (true, "31c56459b3c999862d9e9acbadbaf83fa6a98118df7964eb4c7343b09024faf9"), looks := false }, kinds := [], alts := [], laidByText := true, laidKinds := [.data, .data, .data], laidTests := true, laidLooks := .later }
def FnExactMintedCardSaid : Prop := Claim7.holds Tryz.pinned (.plain (OpenSpec.ofChange fnExactMintedSpec)) fnExactMintedCard

/-- THE TIED CARD OF 'laws.FnExactNarrowed'. -/
def fnExactNarrowedCard : Claim7 := { stood := { row := fnExactNarrowedRow, standIns := [], harness := (true, "31c56459b3c999862d9e9acbadbaf83fa6a98118df7964eb4c7343b09024faf9"), looks := false }, kinds := [], alts := [], laidByText := true, laidKinds := [.data, .data, .data], laidTests := true, laidLooks := .later }
def FnExactNarrowedCardSaid : Prop := Claim7.holds Tryz.pinned (.plain (OpenSpec.ofChange fnExactNarrowedSpec)) fnExactNarrowedCard

/-- THE SECOND FORM's CARD OF 'laws.FnPapers'. -/
def fnPapersUptoCard : Claim7 := { stood := { row := fnPapersUptoRow, standIns := [], harness := (true, "31c56459b3c999862d9e9acbadbaf83fa6a98118df7964eb4c7343b09024faf9"), looks := false }, kinds := [], alts := [], laidByText := true, laidKinds := [.data, .data, .data], laidTests := true, laidLooks := .later }
def FnPapersUptoCardSaid : Prop := Claim7.holds Tryz.pinned (.plain (OpenSpec.upto fnPapersSpec)) fnPapersUptoCard

/-- THE SECOND FORM's CARD OF 'laws.FnExactMinted'. -/
def fnExactMintedUptoCard : Claim7 := { stood := { row := fnExactMintedUptoRow, standIns := [], harness := (true, "31c56459b3c999862d9e9acbadbaf83fa6a98118df7964eb4c7343b09024faf9"), looks := false }, kinds := [], alts := [], laidByText := true, laidKinds := [.data, .data, .data], laidTests := true, laidLooks := .later }
def FnExactMintedUptoCardSaid : Prop := Claim7.holds Tryz.pinned (.plain (OpenSpec.upto fnExactMintedSpec)) fnExactMintedUptoCard

/-- THE SECOND FORM's CARD OF 'laws.FnExactNarrowed'. -/
def fnExactNarrowedUptoCard : Claim7 := { stood := { row := fnExactNarrowedUptoRow, standIns := [], harness := (true, "31c56459b3c999862d9e9acbadbaf83fa6a98118df7964eb4c7343b09024faf9"), looks := false }, kinds := [], alts := [], laidByText := true, laidKinds := [.data, .data, .data], laidTests := true, laidLooks := .later }
def FnExactNarrowedUptoCardSaid : Prop := Claim7.holds Tryz.pinned (.plain (OpenSpec.upto fnExactNarrowedSpec)) fnExactNarrowedUptoCard
end Rows
end Go.Proofs.YtachodaecpnhbaaGreatDoor
