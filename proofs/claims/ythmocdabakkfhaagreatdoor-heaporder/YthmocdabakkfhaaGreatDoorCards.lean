/-
  DERIVED. GIVEN WITH THE SEED: THE CARDS: each row of YthmocdabakkfhaaGreatDoorRows.lean that lists a variable, with what it lists TIED to the program's text (the seventh form; the later family's looks); each row that meets fmt, with fmt's text TOLD by the authors' own Lean function (tested against real Go, not proved from fmt's source: count such statements apart). THE CARD IS WHAT COUNTS. Prove the row's statement (the work); the ties are given (YthmocdabakkfhaaGreatDoorTie.lean); close each card by the builder's one call (the guide's Derived/Test/ToyasCard.lean, 'card_holds'). Laid BY PROGRAM, IN A SANDBOX (cutbox-door.mjs). By AI agents, Wed Nov 11 2026. No macro, syntax, notation, axiom, sorry.
-/
import Derived.Test.YthmocdabakkfhaaGreatDoorRows
import GoSem.ClaimSeven
namespace Go.Proofs.YthmocdabakkfhaaGreatDoor
namespace Rows

/-- THE TIED CARD OF 'minstrellaw09.HeapActs'. -/
def heapActsCard : Claim7 := { stood := { row := heapActsRow, standIns := [], harness := (true, "a7c0feb4536664840a6c6ed9e04a5ad2ae9ea7284242b1bc8bc931ab8bf7f69d"), looks := false }, kinds := [], alts := [], laidByText := true, laidKinds := [.data], laidTests := true, laidLooks := .later }
def HeapActsCardSaid : Prop := Claim7.holds Tryz.pinned (.plain (OpenSpec.ofChange heapActsSpec)) heapActsCard

/-- THE TIED CARD OF 'minstrellaw09.HeapOrder'. -/
def heapOrderCard : Claim7 := { stood := { row := heapOrderRow, standIns := [], harness := (true, "a7c0feb4536664840a6c6ed9e04a5ad2ae9ea7284242b1bc8bc931ab8bf7f69d"), looks := false }, kinds := [], alts := [], laidByText := true, laidKinds := [.data], laidTests := true, laidLooks := .later }
def HeapOrderCardSaid : Prop := Claim7.holds Tryz.pinned (.plain (OpenSpec.ofChange heapOrderSpec)) heapOrderCard

/-- THE SECOND FORM's CARD OF 'minstrellaw09.HeapActs'. -/
def heapActsUptoCard : Claim7 := { stood := { row := heapActsUptoRow, standIns := [], harness := (true, "a7c0feb4536664840a6c6ed9e04a5ad2ae9ea7284242b1bc8bc931ab8bf7f69d"), looks := false }, kinds := [], alts := [], laidByText := true, laidKinds := [.data], laidTests := true, laidLooks := .later }
def HeapActsUptoCardSaid : Prop := Claim7.holds Tryz.pinned (.plain (OpenSpec.upto heapActsSpec)) heapActsUptoCard

/-- THE SECOND FORM's CARD OF 'minstrellaw09.HeapOrder'. -/
def heapOrderUptoCard : Claim7 := { stood := { row := heapOrderUptoRow, standIns := [], harness := (true, "a7c0feb4536664840a6c6ed9e04a5ad2ae9ea7284242b1bc8bc931ab8bf7f69d"), looks := false }, kinds := [], alts := [], laidByText := true, laidKinds := [.data], laidTests := true, laidLooks := .later }
def HeapOrderUptoCardSaid : Prop := Claim7.holds Tryz.pinned (.plain (OpenSpec.upto heapOrderSpec)) heapOrderUptoCard
end Rows
end Go.Proofs.YthmocdabakkfhaaGreatDoor
