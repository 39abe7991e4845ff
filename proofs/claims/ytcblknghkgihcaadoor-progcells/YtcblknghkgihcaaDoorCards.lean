/-
  DERIVED. GIVEN WITH THE SEED: THE CARDS: each row of YtcblknghkgihcaaDoorRows.lean that lists a variable, with what it lists TIED to the program's text (the seventh form; the later family's looks); each row that meets fmt, with fmt's text TOLD by the authors' own Lean function (tested against real Go, not proved from fmt's source: count such statements apart). THE CARD IS WHAT COUNTS. Prove the row's statement (the work); the ties are given (YtcblknghkgihcaaDoorTie.lean); close each card by the builder's one call (the guide's Derived/Test/ToyasCard.lean, 'card_holds'). Laid BY PROGRAM, IN A SANDBOX (cutbox-door.mjs). By AI agents, Wed Nov 11 2026. No macro, syntax, notation, axiom, sorry.
-/
import Derived.Test.YtcblknghkgihcaaDoorRows
import GoSem.ClaimSeven
namespace Go.Proofs.YtcblknghkgihcaaDoor
namespace Rows

/-- THE TIED CARD OF 'minstrellaw13.ProgCells'. -/
def progCellsCard : Claim7 := { stood := { row := progCellsRow, standIns := [], harness := (true, "673bdd8779db818797a9921bfb8322d497ae2b01c981bf49dbe20eaffbf9c024"), looks := false }, kinds := [], alts := [], laidByText := true, laidKinds := [.data, .data, .data, .data], laidTests := true, laidLooks := .later }
def ProgCellsCardSaid : Prop := Claim7.holds Tryd.pinned (.plain (OpenSpec.ofChange progCellsSpec)) progCellsCard

/-- THE TIED CARD OF 'minstrellaw13.ProgReads'. -/
def progReadsCard : Claim7 := { stood := { row := progReadsRow, standIns := [], harness := (true, "673bdd8779db818797a9921bfb8322d497ae2b01c981bf49dbe20eaffbf9c024"), looks := false }, kinds := [], alts := [], laidByText := true, laidKinds := [.data, .data, .data, .data], laidTests := true, laidLooks := .later }
def ProgReadsCardSaid : Prop := Claim7.holds Tryd.pinned (.plain (OpenSpec.ofChange progReadsSpec)) progReadsCard

/-- THE SECOND FORM's CARD OF 'minstrellaw13.ProgCells'. -/
def progCellsUptoCard : Claim7 := { stood := { row := progCellsUptoRow, standIns := [], harness := (true, "673bdd8779db818797a9921bfb8322d497ae2b01c981bf49dbe20eaffbf9c024"), looks := false }, kinds := [], alts := [], laidByText := true, laidKinds := [.data, .data, .data, .data], laidTests := true, laidLooks := .later }
def ProgCellsUptoCardSaid : Prop := Claim7.holds Tryd.pinned (.plain (OpenSpec.upto progCellsSpec)) progCellsUptoCard

/-- THE SECOND FORM's CARD OF 'minstrellaw13.ProgReads'. -/
def progReadsUptoCard : Claim7 := { stood := { row := progReadsUptoRow, standIns := [], harness := (true, "673bdd8779db818797a9921bfb8322d497ae2b01c981bf49dbe20eaffbf9c024"), looks := false }, kinds := [], alts := [], laidByText := true, laidKinds := [.data, .data, .data, .data], laidTests := true, laidLooks := .later }
def ProgReadsUptoCardSaid : Prop := Claim7.holds Tryd.pinned (.plain (OpenSpec.upto progReadsSpec)) progReadsUptoCard
end Rows
end Go.Proofs.YtcblknghkgihcaaDoor
