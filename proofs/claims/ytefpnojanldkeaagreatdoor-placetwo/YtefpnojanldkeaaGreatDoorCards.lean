/-
  DERIVED. GIVEN WITH THE SEED: THE CARDS: each row of YtefpnojanldkeaaGreatDoorRows.lean that lists a variable, with what it lists TIED to the program's text (the seventh form; the later family's looks); each row that meets fmt, with fmt's text TOLD by the authors' own Lean function (tested against real Go, not proved from fmt's source: count such statements apart). THE CARD IS WHAT COUNTS. Prove the row's statement (the work); the ties are given (YtefpnojanldkeaaGreatDoorTie.lean); close each card by the builder's one call (the guide's Derived/Test/ToyasCard.lean, 'card_holds'). Laid BY PROGRAM, IN A SANDBOX (cutbox-door.mjs). By AI agents, Wed Nov 11 2026. No macro, syntax, notation, axiom, sorry.
-/
import Derived.Test.YtefpnojanldkeaaGreatDoorRows
import GoSem.ClaimSeven
namespace Go.Proofs.YtefpnojanldkeaaGreatDoor
namespace Rows

/-- THE TIED CARD OF 'causewaylaw2.PlaceWhole'. -/
def placeWholeCard : Claim7 := { stood := { row := placeWholeRow, standIns := [], harness := (true, "9a890a2d8250d2467bb165fa3d3f4d2ca3b7bd6ca85e839a50f94a77f17a5cbc"), looks := true }, kinds := [], alts := [], laidByText := true, laidKinds := [.handle, .sentinel, .sentinel, .sentinel, .sentinel, .sentinel, .sentinel, .sentinel, .sentinel], laidTests := true, laidLooks := .later }
def PlaceWholeCardSaid : Prop := Claim7.holds Tryz.pinned (.plain (OpenSpec.ofChange placeWholeSpec)) placeWholeCard

/-- THE TIED CARD OF 'causewaylaw2.PlaceCause'. -/
def placeCauseCard : Claim7 := { stood := { row := placeCauseRow, standIns := [], harness := (true, "9a890a2d8250d2467bb165fa3d3f4d2ca3b7bd6ca85e839a50f94a77f17a5cbc"), looks := true }, kinds := [], alts := [], laidByText := true, laidKinds := [.handle, .sentinel, .sentinel, .sentinel, .sentinel, .sentinel, .sentinel, .sentinel, .sentinel], laidTests := true, laidLooks := .later }
def PlaceCauseCardSaid : Prop := Claim7.holds Tryz.pinned (.plain (OpenSpec.ofChange placeCauseSpec)) placeCauseCard

/-- THE TIED CARD OF 'causewaylaw2.PlaceTwo'. -/
def placeTwoCard : Claim7 := { stood := { row := placeTwoRow, standIns := [], harness := (true, "9a890a2d8250d2467bb165fa3d3f4d2ca3b7bd6ca85e839a50f94a77f17a5cbc"), looks := true }, kinds := [], alts := [], laidByText := true, laidKinds := [.handle, .sentinel, .sentinel, .sentinel, .sentinel, .sentinel, .sentinel, .sentinel, .sentinel, .sentinel, .sentinel, .sentinel, .sentinel], laidTests := true, laidLooks := .later }
def PlaceTwoCardSaid : Prop := Claim7.holds Tryz.pinned (.plain (OpenSpec.ofChange placeTwoSpec)) placeTwoCard

/-- THE SECOND FORM's CARD OF 'causewaylaw2.PlaceWhole'. -/
def placeWholeUptoCard : Claim7 := { stood := { row := placeWholeUptoRow, standIns := [], harness := (true, "9a890a2d8250d2467bb165fa3d3f4d2ca3b7bd6ca85e839a50f94a77f17a5cbc"), looks := true }, kinds := [], alts := [], laidByText := true, laidKinds := [.handle, .sentinel, .sentinel, .sentinel, .sentinel, .sentinel, .sentinel, .sentinel, .sentinel], laidTests := true, laidLooks := .later }
def PlaceWholeUptoCardSaid : Prop := Claim7.holds Tryz.pinned (.plain (OpenSpec.upto placeWholeSpec)) placeWholeUptoCard

/-- THE SECOND FORM's CARD OF 'causewaylaw2.PlaceCause'. -/
def placeCauseUptoCard : Claim7 := { stood := { row := placeCauseUptoRow, standIns := [], harness := (true, "9a890a2d8250d2467bb165fa3d3f4d2ca3b7bd6ca85e839a50f94a77f17a5cbc"), looks := true }, kinds := [], alts := [], laidByText := true, laidKinds := [.handle, .sentinel, .sentinel, .sentinel, .sentinel, .sentinel, .sentinel, .sentinel, .sentinel], laidTests := true, laidLooks := .later }
def PlaceCauseUptoCardSaid : Prop := Claim7.holds Tryz.pinned (.plain (OpenSpec.upto placeCauseSpec)) placeCauseUptoCard

/-- THE SECOND FORM's CARD OF 'causewaylaw2.PlaceTwo'. -/
def placeTwoUptoCard : Claim7 := { stood := { row := placeTwoUptoRow, standIns := [], harness := (true, "9a890a2d8250d2467bb165fa3d3f4d2ca3b7bd6ca85e839a50f94a77f17a5cbc"), looks := true }, kinds := [], alts := [], laidByText := true, laidKinds := [.handle, .sentinel, .sentinel, .sentinel, .sentinel, .sentinel, .sentinel, .sentinel, .sentinel, .sentinel, .sentinel, .sentinel, .sentinel], laidTests := true, laidLooks := .later }
def PlaceTwoUptoCardSaid : Prop := Claim7.holds Tryz.pinned (.plain (OpenSpec.upto placeTwoSpec)) placeTwoUptoCard
end Rows
end Go.Proofs.YtefpnojanldkeaaGreatDoor
