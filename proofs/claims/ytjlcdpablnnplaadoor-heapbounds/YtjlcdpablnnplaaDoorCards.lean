/-
  DERIVED. GIVEN WITH THE SEED: THE CARDS: each row of YtjlcdpablnnplaaDoorRows.lean that lists a variable, with what it lists TIED to the program's text (the seventh form; the later family's looks); each row that meets fmt, with fmt's text TOLD by the authors' own Lean function (tested against real Go, not proved from fmt's source: count such statements apart). THE CARD IS WHAT COUNTS. Prove the row's statement (the work); the ties are given (YtjlcdpablnnplaaDoorTie.lean); close each card by the builder's one call (the guide's Derived/Test/ToyasCard.lean, 'card_holds'). Laid BY PROGRAM, IN A SANDBOX (cutbox-door.mjs). By AI agents, Wed Nov 11 2026. No macro, syntax, notation, axiom, sorry.
-/
import Derived.Test.YtjlcdpablnnplaaDoorRows
import GoSem.ClaimSeven
namespace Go.Proofs.YtjlcdpablnnplaaDoor
namespace Rows

/-- THE TIED CARD OF 'minstrellaw09.HeapBounds'. -/
def heapBoundsCard : Claim7 := { stood := { row := heapBoundsRow, standIns := [], harness := (true, "9a3d7e88ffb93f5726d19300cd3cc6255d6b67aa3c94f461a556ac832a9e50d7"), looks := false }, kinds := [], alts := [], laidByText := true, laidKinds := [.data], laidTests := true, laidLooks := .later }
def HeapBoundsCardSaid : Prop := Claim7.holds Tryd.pinned (.plain (OpenSpec.ofChange heapBoundsSpec)) heapBoundsCard

/-- THE TIED CARD OF 'minstrellaw09.HeapSizes'. -/
def heapSizesCard : Claim7 := { stood := { row := heapSizesRow, standIns := [], harness := (true, "9a3d7e88ffb93f5726d19300cd3cc6255d6b67aa3c94f461a556ac832a9e50d7"), looks := false }, kinds := [], alts := [], laidByText := true, laidKinds := [.data], laidTests := true, laidLooks := .later }
def HeapSizesCardSaid : Prop := Claim7.holds Tryd.pinned (.plain (OpenSpec.ofChange heapSizesSpec)) heapSizesCard

/-- THE TIED CARD OF 'minstrellaw09.HeapApart'. -/
def heapApartCard : Claim7 := { stood := { row := heapApartRow, standIns := [], harness := (true, "9a3d7e88ffb93f5726d19300cd3cc6255d6b67aa3c94f461a556ac832a9e50d7"), looks := false }, kinds := [], alts := [], laidByText := true, laidKinds := [.data], laidTests := true, laidLooks := .later }
def HeapApartCardSaid : Prop := Claim7.holds Tryd.pinned (.plain (OpenSpec.ofChange heapApartSpec)) heapApartCard

/-- THE SECOND FORM's CARD OF 'minstrellaw09.HeapBounds'. -/
def heapBoundsUptoCard : Claim7 := { stood := { row := heapBoundsUptoRow, standIns := [], harness := (true, "9a3d7e88ffb93f5726d19300cd3cc6255d6b67aa3c94f461a556ac832a9e50d7"), looks := false }, kinds := [], alts := [], laidByText := true, laidKinds := [.data], laidTests := true, laidLooks := .later }
def HeapBoundsUptoCardSaid : Prop := Claim7.holds Tryd.pinned (.plain (OpenSpec.upto heapBoundsSpec)) heapBoundsUptoCard

/-- THE SECOND FORM's CARD OF 'minstrellaw09.HeapSizes'. -/
def heapSizesUptoCard : Claim7 := { stood := { row := heapSizesUptoRow, standIns := [], harness := (true, "9a3d7e88ffb93f5726d19300cd3cc6255d6b67aa3c94f461a556ac832a9e50d7"), looks := false }, kinds := [], alts := [], laidByText := true, laidKinds := [.data], laidTests := true, laidLooks := .later }
def HeapSizesUptoCardSaid : Prop := Claim7.holds Tryd.pinned (.plain (OpenSpec.upto heapSizesSpec)) heapSizesUptoCard

/-- THE SECOND FORM's CARD OF 'minstrellaw09.HeapApart'. -/
def heapApartUptoCard : Claim7 := { stood := { row := heapApartUptoRow, standIns := [], harness := (true, "9a3d7e88ffb93f5726d19300cd3cc6255d6b67aa3c94f461a556ac832a9e50d7"), looks := false }, kinds := [], alts := [], laidByText := true, laidKinds := [.data], laidTests := true, laidLooks := .later }
def HeapApartUptoCardSaid : Prop := Claim7.holds Tryd.pinned (.plain (OpenSpec.upto heapApartSpec)) heapApartUptoCard
end Rows
end Go.Proofs.YtjlcdpablnnplaaDoor
