/-
  DERIVED. GIVEN WITH THE SEED: THE CARDS: each row of YtdnebclemngdcaaGreatDoorRows.lean that lists a variable, with what it lists TIED to the program's text (the seventh form; the later family's looks); each row that meets fmt, with fmt's text TOLD by the authors' own Lean function (tested against real Go, not proved from fmt's source: count such statements apart). THE CARD IS WHAT COUNTS. Prove the row's statement (the work); the ties are given (YtdnebclemngdcaaGreatDoorTie.lean); close each card by the builder's one call (the guide's Derived/Test/ToyasCard.lean, 'card_holds'). Laid BY PROGRAM, IN A SANDBOX (cutbox-door.mjs). By AI agents, Wed Nov 11 2026. No macro, syntax, notation, axiom, sorry.
-/
import Derived.Test.YtdnebclemngdcaaGreatDoorRows
import GoSem.ClaimSeven
namespace Go.Proofs.YtdnebclemngdcaaGreatDoor
namespace Rows

/-- THE TIED CARD OF 'causewaylaw1.VersionsPrunes'. -/
def versionsPrunesCard : Claim7 := { stood := { row := versionsPrunesRow, standIns := [], harness := (true, "6d4fbc6f0edfcd318ce662bd662b194d39e44ce76f34b5ea3e269438cb1bc323"), looks := true }, kinds := [], alts := [], laidByText := true, laidKinds := [.handle, .sentinel, .sentinel, .sentinel, .sentinel, .sentinel, .sentinel, .sentinel, .sentinel, .sentinel, .sentinel, .sentinel, .sentinel], laidTests := true, laidLooks := .later }
def VersionsPrunesCardSaid : Prop := Claim7.holds Tryz.pinned (.plain (OpenSpec.ofChange versionsPrunesSpec)) versionsPrunesCard

/-- THE TIED CARD OF 'causewaylaw1.VersionsParts'. -/
def versionsPartsCard : Claim7 := { stood := { row := versionsPartsRow, standIns := [], harness := (true, "6d4fbc6f0edfcd318ce662bd662b194d39e44ce76f34b5ea3e269438cb1bc323"), looks := true }, kinds := [], alts := [], laidByText := true, laidKinds := [.handle, .sentinel, .sentinel, .sentinel, .sentinel, .sentinel, .sentinel], laidTests := true, laidLooks := .later }
def VersionsPartsCardSaid : Prop := Claim7.holds Tryz.pinned (.plain (OpenSpec.ofChange versionsPartsSpec)) versionsPartsCard

/-- THE TIED CARD OF 'causewaylaw1.VersionsActs'. -/
def versionsActsCard : Claim7 := { stood := { row := versionsActsRow, standIns := [], harness := (true, "6d4fbc6f0edfcd318ce662bd662b194d39e44ce76f34b5ea3e269438cb1bc323"), looks := true }, kinds := [], alts := [], laidByText := true, laidKinds := [.handle, .sentinel, .sentinel, .sentinel, .sentinel, .sentinel, .sentinel, .sentinel, .sentinel, .sentinel, .sentinel, .sentinel, .sentinel], laidTests := true, laidLooks := .later }
def VersionsActsCardSaid : Prop := Claim7.holds Tryz.pinned (.plain (OpenSpec.ofChange versionsActsSpec)) versionsActsCard

/-- THE SECOND FORM's CARD OF 'causewaylaw1.VersionsPrunes'. -/
def versionsPrunesUptoCard : Claim7 := { stood := { row := versionsPrunesUptoRow, standIns := [], harness := (true, "6d4fbc6f0edfcd318ce662bd662b194d39e44ce76f34b5ea3e269438cb1bc323"), looks := true }, kinds := [], alts := [], laidByText := true, laidKinds := [.handle, .sentinel, .sentinel, .sentinel, .sentinel, .sentinel, .sentinel, .sentinel, .sentinel, .sentinel, .sentinel, .sentinel, .sentinel], laidTests := true, laidLooks := .later }
def VersionsPrunesUptoCardSaid : Prop := Claim7.holds Tryz.pinned (.plain (OpenSpec.upto versionsPrunesSpec)) versionsPrunesUptoCard

/-- THE SECOND FORM's CARD OF 'causewaylaw1.VersionsParts'. -/
def versionsPartsUptoCard : Claim7 := { stood := { row := versionsPartsUptoRow, standIns := [], harness := (true, "6d4fbc6f0edfcd318ce662bd662b194d39e44ce76f34b5ea3e269438cb1bc323"), looks := true }, kinds := [], alts := [], laidByText := true, laidKinds := [.handle, .sentinel, .sentinel, .sentinel, .sentinel, .sentinel, .sentinel], laidTests := true, laidLooks := .later }
def VersionsPartsUptoCardSaid : Prop := Claim7.holds Tryz.pinned (.plain (OpenSpec.upto versionsPartsSpec)) versionsPartsUptoCard

/-- THE SECOND FORM's CARD OF 'causewaylaw1.VersionsActs'. -/
def versionsActsUptoCard : Claim7 := { stood := { row := versionsActsUptoRow, standIns := [], harness := (true, "6d4fbc6f0edfcd318ce662bd662b194d39e44ce76f34b5ea3e269438cb1bc323"), looks := true }, kinds := [], alts := [], laidByText := true, laidKinds := [.handle, .sentinel, .sentinel, .sentinel, .sentinel, .sentinel, .sentinel, .sentinel, .sentinel, .sentinel, .sentinel, .sentinel, .sentinel], laidTests := true, laidLooks := .later }
def VersionsActsUptoCardSaid : Prop := Claim7.holds Tryz.pinned (.plain (OpenSpec.upto versionsActsSpec)) versionsActsUptoCard
end Rows
end Go.Proofs.YtdnebclemngdcaaGreatDoor
