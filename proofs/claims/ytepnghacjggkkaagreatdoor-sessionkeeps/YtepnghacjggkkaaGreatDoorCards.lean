/-
  DERIVED. GIVEN WITH THE SEED: THE CARDS: each row of YtepnghacjggkkaaGreatDoorRows.lean that lists a variable, with what it lists TIED to the program's text (the seventh form; the later family's looks); each row that meets fmt, with fmt's text TOLD by the authors' own Lean function (tested against real Go, not proved from fmt's source: count such statements apart). THE CARD IS WHAT COUNTS. Prove the row's statement (the work); the ties are given (YtepnghacjggkkaaGreatDoorTie.lean); close each card by the builder's one call (the guide's Derived/Test/ToyasCard.lean, 'card_holds'). Laid BY PROGRAM, IN A SANDBOX (cutbox-door.mjs). By AI agents, Wed Nov 11 2026. No macro, syntax, notation, axiom, sorry.
-/
import Derived.Test.YtepnghacjggkkaaGreatDoorRows
import GoSem.ClaimSeven
namespace Go.Proofs.YtepnghacjggkkaaGreatDoor
namespace Rows

/-- THE TIED CARD OF 'causewaylaw2.SessionSees'. -/
def sessionSeesCard : Claim7 := { stood := { row := sessionSeesRow, standIns := [], harness := (true, "797b1b42f87c1f674b1e9317cc971c5eb5f290939083b02fdf564a2f17903bb6"), looks := true }, kinds := [], alts := [], laidByText := true, laidKinds := [.handle, .sentinel, .sentinel, .sentinel, .sentinel, .sentinel, .sentinel, .sentinel, .sentinel, .sentinel, .sentinel, .sentinel, .sentinel], laidTests := true, laidLooks := .later }
def SessionSeesCardSaid : Prop := Claim7.holds Tryz.pinned (.plain (OpenSpec.ofChange sessionSeesSpec)) sessionSeesCard

/-- THE TIED CARD OF 'causewaylaw2.SessionKeeps'. -/
def sessionKeepsCard : Claim7 := { stood := { row := sessionKeepsRow, standIns := [], harness := (true, "797b1b42f87c1f674b1e9317cc971c5eb5f290939083b02fdf564a2f17903bb6"), looks := true }, kinds := [], alts := [], laidByText := true, laidKinds := [.handle, .sentinel, .sentinel, .sentinel, .sentinel, .sentinel, .sentinel, .sentinel, .sentinel, .sentinel, .sentinel, .sentinel, .sentinel], laidTests := true, laidLooks := .later }
def SessionKeepsCardSaid : Prop := Claim7.holds Tryz.pinned (.plain (OpenSpec.ofChange sessionKeepsSpec)) sessionKeepsCard

/-- THE SECOND FORM's CARD OF 'causewaylaw2.SessionSees'. -/
def sessionSeesUptoCard : Claim7 := { stood := { row := sessionSeesUptoRow, standIns := [], harness := (true, "797b1b42f87c1f674b1e9317cc971c5eb5f290939083b02fdf564a2f17903bb6"), looks := true }, kinds := [], alts := [], laidByText := true, laidKinds := [.handle, .sentinel, .sentinel, .sentinel, .sentinel, .sentinel, .sentinel, .sentinel, .sentinel, .sentinel, .sentinel, .sentinel, .sentinel], laidTests := true, laidLooks := .later }
def SessionSeesUptoCardSaid : Prop := Claim7.holds Tryz.pinned (.plain (OpenSpec.upto sessionSeesSpec)) sessionSeesUptoCard

/-- THE SECOND FORM's CARD OF 'causewaylaw2.SessionKeeps'. -/
def sessionKeepsUptoCard : Claim7 := { stood := { row := sessionKeepsUptoRow, standIns := [], harness := (true, "797b1b42f87c1f674b1e9317cc971c5eb5f290939083b02fdf564a2f17903bb6"), looks := true }, kinds := [], alts := [], laidByText := true, laidKinds := [.handle, .sentinel, .sentinel, .sentinel, .sentinel, .sentinel, .sentinel, .sentinel, .sentinel, .sentinel, .sentinel, .sentinel, .sentinel], laidTests := true, laidLooks := .later }
def SessionKeepsUptoCardSaid : Prop := Claim7.holds Tryz.pinned (.plain (OpenSpec.upto sessionKeepsSpec)) sessionKeepsUptoCard
end Rows
end Go.Proofs.YtepnghacjggkkaaGreatDoor
