/-
  DERIVED. GIVEN WITH THE SEED: THE CARDS: each row of YtngpdpmhjhgafaaDoorRows.lean that lists a variable, with what it lists TIED to the program's text (the seventh form; the later family's looks); each row that meets fmt, with fmt's text TOLD by the authors' own Lean function (tested against real Go, not proved from fmt's source: count such statements apart). THE CARD IS WHAT COUNTS. Prove the row's statement (the work); the ties are given (YtngpdpmhjhgafaaDoorTie.lean); close each card by the builder's one call (the guide's Derived/Test/ToyasCard.lean, 'card_holds'). Laid BY PROGRAM, IN A SANDBOX (cutbox-door.mjs). By AI agents, Wed Nov 11 2026. No macro, syntax, notation, axiom, sorry.
-/
import Derived.Test.YtngpdpmhjhgafaaDoorRows
import GoSem.ClaimSeven
namespace Go.Proofs.YtngpdpmhjhgafaaDoor
namespace Rows

/-- THE TIED CARD OF 'minstrellaw05.DecParses'. -/
def decParsesCard : Claim7 := { stood := { row := decParsesRow, standIns := [], harness := (true, "85b63a6539c5700ab3b5de86439ebd6c2332a68800e90a3d97746b8b65e7e46e"), looks := false }, kinds := [], alts := [], laidByText := true, laidKinds := [.data, .data, .data], laidTests := true, laidLooks := .later }
def DecParsesCardSaid : Prop := Claim7.holds Tryd.pinned (.plain (OpenSpec.ofChange decParsesSpec)) decParsesCard

/-- THE TIED CARD OF 'minstrellaw05.DecBack'. -/
def decBackCard : Claim7 := { stood := { row := decBackRow, standIns := [], harness := (true, "85b63a6539c5700ab3b5de86439ebd6c2332a68800e90a3d97746b8b65e7e46e"), looks := false }, kinds := [], alts := [], laidByText := true, laidKinds := [.data, .data, .data], laidTests := true, laidLooks := .later }
def DecBackCardSaid : Prop := Claim7.holds Tryd.pinned (.plain (OpenSpec.ofChange decBackSpec)) decBackCard

/-- THE TIED CARD OF 'minstrellaw05.DecNoughts'. -/
def decNoughtsCard : Claim7 := { stood := { row := decNoughtsRow, standIns := [], harness := (true, "85b63a6539c5700ab3b5de86439ebd6c2332a68800e90a3d97746b8b65e7e46e"), looks := false }, kinds := [], alts := [], laidByText := true, laidKinds := [.data, .data, .data], laidTests := true, laidLooks := .later }
def DecNoughtsCardSaid : Prop := Claim7.holds Tryd.pinned (.plain (OpenSpec.ofChange decNoughtsSpec)) decNoughtsCard

/-- THE TIED CARD OF 'minstrellaw05.DecRises'. -/
def decRisesCard : Claim7 := { stood := { row := decRisesRow, standIns := [], harness := (true, "85b63a6539c5700ab3b5de86439ebd6c2332a68800e90a3d97746b8b65e7e46e"), looks := false }, kinds := [], alts := [], laidByText := true, laidKinds := [.data, .data, .data], laidTests := true, laidLooks := .later }
def DecRisesCardSaid : Prop := Claim7.holds Tryd.pinned (.plain (OpenSpec.ofChange decRisesSpec)) decRisesCard

/-- THE SECOND FORM's CARD OF 'minstrellaw05.DecParses'. -/
def decParsesUptoCard : Claim7 := { stood := { row := decParsesUptoRow, standIns := [], harness := (true, "85b63a6539c5700ab3b5de86439ebd6c2332a68800e90a3d97746b8b65e7e46e"), looks := false }, kinds := [], alts := [], laidByText := true, laidKinds := [.data, .data, .data], laidTests := true, laidLooks := .later }
def DecParsesUptoCardSaid : Prop := Claim7.holds Tryd.pinned (.plain (OpenSpec.upto decParsesSpec)) decParsesUptoCard

/-- THE SECOND FORM's CARD OF 'minstrellaw05.DecBack'. -/
def decBackUptoCard : Claim7 := { stood := { row := decBackUptoRow, standIns := [], harness := (true, "85b63a6539c5700ab3b5de86439ebd6c2332a68800e90a3d97746b8b65e7e46e"), looks := false }, kinds := [], alts := [], laidByText := true, laidKinds := [.data, .data, .data], laidTests := true, laidLooks := .later }
def DecBackUptoCardSaid : Prop := Claim7.holds Tryd.pinned (.plain (OpenSpec.upto decBackSpec)) decBackUptoCard

/-- THE SECOND FORM's CARD OF 'minstrellaw05.DecNoughts'. -/
def decNoughtsUptoCard : Claim7 := { stood := { row := decNoughtsUptoRow, standIns := [], harness := (true, "85b63a6539c5700ab3b5de86439ebd6c2332a68800e90a3d97746b8b65e7e46e"), looks := false }, kinds := [], alts := [], laidByText := true, laidKinds := [.data, .data, .data], laidTests := true, laidLooks := .later }
def DecNoughtsUptoCardSaid : Prop := Claim7.holds Tryd.pinned (.plain (OpenSpec.upto decNoughtsSpec)) decNoughtsUptoCard

/-- THE SECOND FORM's CARD OF 'minstrellaw05.DecRises'. -/
def decRisesUptoCard : Claim7 := { stood := { row := decRisesUptoRow, standIns := [], harness := (true, "85b63a6539c5700ab3b5de86439ebd6c2332a68800e90a3d97746b8b65e7e46e"), looks := false }, kinds := [], alts := [], laidByText := true, laidKinds := [.data, .data, .data], laidTests := true, laidLooks := .later }
def DecRisesUptoCardSaid : Prop := Claim7.holds Tryd.pinned (.plain (OpenSpec.upto decRisesSpec)) decRisesUptoCard
end Rows
end Go.Proofs.YtngpdpmhjhgafaaDoor
