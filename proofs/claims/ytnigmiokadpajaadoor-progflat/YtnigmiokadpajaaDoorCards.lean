/-
  DERIVED. GIVEN WITH THE SEED: THE CARDS: each row of YtnigmiokadpajaaDoorRows.lean that lists a variable, with what it lists TIED to the program's text (the seventh form; the later family's looks); each row that meets fmt, with fmt's text TOLD by the authors' own Lean function (tested against real Go, not proved from fmt's source: count such statements apart). THE CARD IS WHAT COUNTS. Prove the row's statement (the work); the ties are given (YtnigmiokadpajaaDoorTie.lean); close each card by the builder's one call (the guide's Derived/Test/ToyasCard.lean, 'card_holds'). Laid BY PROGRAM, IN A SANDBOX (cutbox-door.mjs). By AI agents, Wed Nov 11 2026. No macro, syntax, notation, axiom, sorry.
-/
import Derived.Test.YtnigmiokadpajaaDoorRows
import GoSem.ClaimSeven
namespace Go.Proofs.YtnigmiokadpajaaDoor
namespace Rows

/-- THE TIED CARD OF 'minstrellaw13.ProgOrders'. -/
def progOrdersCard : Claim7 := { stood := { row := progOrdersRow, standIns := [], harness := (true, "ec059d036fd065206356c67395b8a612781b726a7536955da8ab3fd055caec52"), looks := false }, kinds := [], alts := [], laidByText := true, laidKinds := [.data, .data, .data, .data], laidTests := true, laidLooks := .later }
def ProgOrdersCardSaid : Prop := Claim7.holds Tryd.pinned (.plain (OpenSpec.ofChange progOrdersSpec)) progOrdersCard

/-- THE TIED CARD OF 'minstrellaw13.ProgChecks'. -/
def progChecksCard : Claim7 := { stood := { row := progChecksRow, standIns := [], harness := (true, "ec059d036fd065206356c67395b8a612781b726a7536955da8ab3fd055caec52"), looks := false }, kinds := [], alts := [], laidByText := true, laidKinds := [.data, .data, .data, .data], laidTests := true, laidLooks := .later }
def ProgChecksCardSaid : Prop := Claim7.holds Tryd.pinned (.plain (OpenSpec.ofChange progChecksSpec)) progChecksCard

/-- THE TIED CARD OF 'minstrellaw13.ProgFlat'. -/
def progFlatCard : Claim7 := { stood := { row := progFlatRow, standIns := [], harness := (true, "ec059d036fd065206356c67395b8a612781b726a7536955da8ab3fd055caec52"), looks := false }, kinds := [], alts := [], laidByText := true, laidKinds := [.data, .data, .data, .data], laidTests := true, laidLooks := .later }
def ProgFlatCardSaid : Prop := Claim7.holds Tryd.pinned (.plain (OpenSpec.ofChange progFlatSpec)) progFlatCard

/-- THE TIED CARD OF 'minstrellaw13.ProgCells'. -/
def progCellsCard : Claim7 := { stood := { row := progCellsRow, standIns := [], harness := (true, "ec059d036fd065206356c67395b8a612781b726a7536955da8ab3fd055caec52"), looks := false }, kinds := [], alts := [], laidByText := true, laidKinds := [.data, .data, .data, .data], laidTests := true, laidLooks := .later }
def ProgCellsCardSaid : Prop := Claim7.holds Tryd.pinned (.plain (OpenSpec.ofChange progCellsSpec)) progCellsCard

/-- THE TIED CARD OF 'minstrellaw13.ProgReads'. -/
def progReadsCard : Claim7 := { stood := { row := progReadsRow, standIns := [], harness := (true, "ec059d036fd065206356c67395b8a612781b726a7536955da8ab3fd055caec52"), looks := false }, kinds := [], alts := [], laidByText := true, laidKinds := [.data, .data, .data, .data], laidTests := true, laidLooks := .later }
def ProgReadsCardSaid : Prop := Claim7.holds Tryd.pinned (.plain (OpenSpec.ofChange progReadsSpec)) progReadsCard

/-- THE TIED CARD OF 'minstrellaw13.ProgStays'. -/
def progStaysCard : Claim7 := { stood := { row := progStaysRow, standIns := [], harness := (true, "ec059d036fd065206356c67395b8a612781b726a7536955da8ab3fd055caec52"), looks := false }, kinds := [], alts := [], laidByText := true, laidKinds := [.data, .data, .data, .data], laidTests := true, laidLooks := .later }
def ProgStaysCardSaid : Prop := Claim7.holds Tryd.pinned (.plain (OpenSpec.ofChange progStaysSpec)) progStaysCard

/-- THE SECOND FORM's CARD OF 'minstrellaw13.ProgOrders'. -/
def progOrdersUptoCard : Claim7 := { stood := { row := progOrdersUptoRow, standIns := [], harness := (true, "ec059d036fd065206356c67395b8a612781b726a7536955da8ab3fd055caec52"), looks := false }, kinds := [], alts := [], laidByText := true, laidKinds := [.data, .data, .data, .data], laidTests := true, laidLooks := .later }
def ProgOrdersUptoCardSaid : Prop := Claim7.holds Tryd.pinned (.plain (OpenSpec.upto progOrdersSpec)) progOrdersUptoCard

/-- THE SECOND FORM's CARD OF 'minstrellaw13.ProgChecks'. -/
def progChecksUptoCard : Claim7 := { stood := { row := progChecksUptoRow, standIns := [], harness := (true, "ec059d036fd065206356c67395b8a612781b726a7536955da8ab3fd055caec52"), looks := false }, kinds := [], alts := [], laidByText := true, laidKinds := [.data, .data, .data, .data], laidTests := true, laidLooks := .later }
def ProgChecksUptoCardSaid : Prop := Claim7.holds Tryd.pinned (.plain (OpenSpec.upto progChecksSpec)) progChecksUptoCard

/-- THE SECOND FORM's CARD OF 'minstrellaw13.ProgFlat'. -/
def progFlatUptoCard : Claim7 := { stood := { row := progFlatUptoRow, standIns := [], harness := (true, "ec059d036fd065206356c67395b8a612781b726a7536955da8ab3fd055caec52"), looks := false }, kinds := [], alts := [], laidByText := true, laidKinds := [.data, .data, .data, .data], laidTests := true, laidLooks := .later }
def ProgFlatUptoCardSaid : Prop := Claim7.holds Tryd.pinned (.plain (OpenSpec.upto progFlatSpec)) progFlatUptoCard

/-- THE SECOND FORM's CARD OF 'minstrellaw13.ProgCells'. -/
def progCellsUptoCard : Claim7 := { stood := { row := progCellsUptoRow, standIns := [], harness := (true, "ec059d036fd065206356c67395b8a612781b726a7536955da8ab3fd055caec52"), looks := false }, kinds := [], alts := [], laidByText := true, laidKinds := [.data, .data, .data, .data], laidTests := true, laidLooks := .later }
def ProgCellsUptoCardSaid : Prop := Claim7.holds Tryd.pinned (.plain (OpenSpec.upto progCellsSpec)) progCellsUptoCard

/-- THE SECOND FORM's CARD OF 'minstrellaw13.ProgReads'. -/
def progReadsUptoCard : Claim7 := { stood := { row := progReadsUptoRow, standIns := [], harness := (true, "ec059d036fd065206356c67395b8a612781b726a7536955da8ab3fd055caec52"), looks := false }, kinds := [], alts := [], laidByText := true, laidKinds := [.data, .data, .data, .data], laidTests := true, laidLooks := .later }
def ProgReadsUptoCardSaid : Prop := Claim7.holds Tryd.pinned (.plain (OpenSpec.upto progReadsSpec)) progReadsUptoCard

/-- THE SECOND FORM's CARD OF 'minstrellaw13.ProgStays'. -/
def progStaysUptoCard : Claim7 := { stood := { row := progStaysUptoRow, standIns := [], harness := (true, "ec059d036fd065206356c67395b8a612781b726a7536955da8ab3fd055caec52"), looks := false }, kinds := [], alts := [], laidByText := true, laidKinds := [.data, .data, .data, .data], laidTests := true, laidLooks := .later }
def ProgStaysUptoCardSaid : Prop := Claim7.holds Tryd.pinned (.plain (OpenSpec.upto progStaysSpec)) progStaysUptoCard
end Rows
end Go.Proofs.YtnigmiokadpajaaDoor
