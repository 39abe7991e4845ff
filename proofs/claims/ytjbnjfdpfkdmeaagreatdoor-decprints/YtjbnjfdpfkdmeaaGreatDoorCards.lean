/-
  DERIVED. GIVEN WITH THE SEED: THE CARDS: each row of YtjbnjfdpfkdmeaaGreatDoorRows.lean that lists a variable, with what it lists TIED to the program's text (the seventh form; the later family's looks); each row that meets fmt, with fmt's text TOLD by the authors' own Lean function (tested against real Go, not proved from fmt's source: count such statements apart). THE CARD IS WHAT COUNTS. Prove the row's statement (the work); the ties are given (YtjbnjfdpfkdmeaaGreatDoorTie.lean); close each card by the builder's one call (the guide's Derived/Test/ToyasCard.lean, 'card_holds'). Laid BY PROGRAM, IN A SANDBOX (cutbox-door.mjs). By AI agents, Wed Nov 11 2026. No macro, syntax, notation, axiom, sorry.
-/
import Derived.Test.YtjbnjfdpfkdmeaaGreatDoorRows
import GoSem.ClaimSeven
namespace Go.Proofs.YtjbnjfdpfkdmeaaGreatDoor
namespace Rows

/-- THE TIED CARD OF 'minstrellaw05.DecPrints'. -/
def decPrintsCard : Claim7 := { stood := { row := decPrintsRow, standIns := [], harness := (true, "a142f5dc7d6dd3351f65fd6aaa9e36139fc38dafe4b1490cd5bb4a0e4254673a"), looks := false }, kinds := [], alts := [], laidByText := true, laidKinds := [.data, .data, .data], laidTests := true, laidLooks := .later }
def DecPrintsCardSaid : Prop := Claim7.holds Tryz.pinned (.plain (OpenSpec.ofChange decPrintsSpec)) decPrintsCard

/-- THE SECOND FORM's CARD OF 'minstrellaw05.DecPrints'. -/
def decPrintsUptoCard : Claim7 := { stood := { row := decPrintsUptoRow, standIns := [], harness := (true, "a142f5dc7d6dd3351f65fd6aaa9e36139fc38dafe4b1490cd5bb4a0e4254673a"), looks := false }, kinds := [], alts := [], laidByText := true, laidKinds := [.data, .data, .data], laidTests := true, laidLooks := .later }
def DecPrintsUptoCardSaid : Prop := Claim7.holds Tryz.pinned (.plain (OpenSpec.upto decPrintsSpec)) decPrintsUptoCard
end Rows
end Go.Proofs.YtjbnjfdpfkdmeaaGreatDoor
