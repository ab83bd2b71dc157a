/-
  DERIVED. GIVEN WITH THE SEED: THE CARDS: each row of YtejbgcloblpbfaaGreatDoorRows.lean that lists a variable, with what it lists TIED to the program's text (the seventh form; the later family's looks); each row that meets fmt, with fmt's text TOLD by the authors' own Lean function (tested against real Go, not proved from fmt's source: count such statements apart). THE CARD IS WHAT COUNTS. Prove the row's statement (the work); the ties are given (YtejbgcloblpbfaaGreatDoorTie.lean); close each card by the builder's one call (the guide's Derived/Test/ToyasCard.lean, 'card_holds'). Laid BY PROGRAM, IN A SANDBOX (cutbox-door.mjs). By AI agents, Wed Nov 11 2026. No macro, syntax, notation, axiom, sorry.
-/
import Derived.Test.YtejbgcloblpbfaaGreatDoorRows
import GoSem.ClaimSeven
namespace Go.Proofs.YtejbgcloblpbfaaGreatDoor
namespace Rows

/-- THE TIED CARD OF 'mutelaw.Checks'. -/
def checksCard : Claim7 := { stood := { row := checksRow, standIns := [], harness := (true, "41a27f43cf6de131a01b32d9ed4f6bb6f56d77d4f132114b2188e34c4fdbf86f"), looks := true }, kinds := [], alts := [], laidByText := true, laidKinds := [.data, .data, .data, .sentinel, .sentinel], laidTests := true, laidLooks := .later }
def ChecksCardSaid : Prop := Claim7.holds Tryz.pinned (.plain (OpenSpec.ofChange checksSpec)) checksCard

/-- THE TIED CARD OF 'mutelaw.Shapes'. -/
def shapesCard : Claim7 := { stood := { row := shapesRow, standIns := [], harness := (true, "41a27f43cf6de131a01b32d9ed4f6bb6f56d77d4f132114b2188e34c4fdbf86f"), looks := true }, kinds := [], alts := [], laidByText := true, laidKinds := [.data, .data, .data, .sentinel, .sentinel], laidTests := true, laidLooks := .later }
def ShapesCardSaid : Prop := Claim7.holds Tryz.pinned (.plain (OpenSpec.ofChange shapesSpec)) shapesCard

/-- THE TIED CARD OF 'mutelaw.Runs'. -/
def runsCard : Claim7 := { stood := { row := runsRow, standIns := [], harness := (true, "41a27f43cf6de131a01b32d9ed4f6bb6f56d77d4f132114b2188e34c4fdbf86f"), looks := true }, kinds := [], alts := [], laidByText := true, laidKinds := [.data, .data, .data, .sentinel, .sentinel], laidTests := true, laidLooks := .later }
def RunsCardSaid : Prop := Claim7.holds Tryz.pinned (.plain (OpenSpec.ofChange runsSpec)) runsCard

/-- THE TIED CARD OF 'mutelaw.Codes'. -/
def codesCard : Claim7 := { stood := { row := codesRow, standIns := [], harness := (true, "41a27f43cf6de131a01b32d9ed4f6bb6f56d77d4f132114b2188e34c4fdbf86f"), looks := true }, kinds := [], alts := [], laidByText := true, laidKinds := [.data, .data, .data, .sentinel, .sentinel], laidTests := true, laidLooks := .later }
def CodesCardSaid : Prop := Claim7.holds Tryz.pinned (.plain (OpenSpec.ofChange codesSpec)) codesCard

/-- THE TIED CARD OF 'mutekeep.Done'. -/
def doneCard : Claim7 := { stood := { row := doneRow, standIns := [], harness := (true, "41a27f43cf6de131a01b32d9ed4f6bb6f56d77d4f132114b2188e34c4fdbf86f"), looks := true }, kinds := [], alts := [], laidByText := true, laidKinds := [.data, .data, .data, .sentinel, .sentinel], laidTests := true, laidLooks := .later }
def DoneCardSaid : Prop := Claim7.holds Tryz.pinned (.plain (OpenSpec.ofChange doneSpec)) doneCard

/-- THE TIED CARD OF 'mutekeep.Mute'. -/
def muteCard : Claim7 := { stood := { row := muteRow, standIns := [], harness := (true, "41a27f43cf6de131a01b32d9ed4f6bb6f56d77d4f132114b2188e34c4fdbf86f"), looks := true }, kinds := [], alts := [], laidByText := true, laidKinds := [.data, .data, .data, .sentinel, .sentinel], laidTests := true, laidLooks := .later }
def MuteCardSaid : Prop := Claim7.holds Tryz.pinned (.plain (OpenSpec.ofChange muteSpec)) muteCard

/-- THE TIED CARD OF 'mutekeep.Kept'. -/
def keptCard : Claim7 := { stood := { row := keptRow, standIns := [], harness := (true, "41a27f43cf6de131a01b32d9ed4f6bb6f56d77d4f132114b2188e34c4fdbf86f"), looks := true }, kinds := [], alts := [], laidByText := true, laidKinds := [.data, .data, .data, .sentinel, .sentinel], laidTests := true, laidLooks := .later }
def KeptCardSaid : Prop := Claim7.holds Tryz.pinned (.plain (OpenSpec.ofChange keptSpec)) keptCard

/-- THE TIED CARD OF 'mutekeep.Chosen'. -/
def chosenCard : Claim7 := { stood := { row := chosenRow, standIns := [], harness := (true, "41a27f43cf6de131a01b32d9ed4f6bb6f56d77d4f132114b2188e34c4fdbf86f"), looks := true }, kinds := [], alts := [], laidByText := true, laidKinds := [.data, .data, .data, .sentinel, .sentinel], laidTests := true, laidLooks := .later }
def ChosenCardSaid : Prop := Claim7.holds Tryz.pinned (.plain (OpenSpec.ofChange chosenSpec)) chosenCard

/-- THE TIED CARD OF 'mutekeep.Sorted'. -/
def sortedCard : Claim7 := { stood := { row := sortedRow, standIns := [], harness := (true, "41a27f43cf6de131a01b32d9ed4f6bb6f56d77d4f132114b2188e34c4fdbf86f"), looks := true }, kinds := [], alts := [], laidByText := true, laidKinds := [.data, .data, .data, .sentinel, .sentinel], laidTests := true, laidLooks := .later }
def SortedCardSaid : Prop := Claim7.holds Tryz.pinned (.plain (OpenSpec.ofChange sortedSpec)) sortedCard

/-- THE TIED CARD OF 'mutekeep.Counted'. -/
def countedCard : Claim7 := { stood := { row := countedRow, standIns := [], harness := (true, "41a27f43cf6de131a01b32d9ed4f6bb6f56d77d4f132114b2188e34c4fdbf86f"), looks := true }, kinds := [], alts := [], laidByText := true, laidKinds := [.data, .data, .data, .sentinel, .sentinel], laidTests := true, laidLooks := .later }
def CountedCardSaid : Prop := Claim7.holds Tryz.pinned (.plain (OpenSpec.ofChange countedSpec)) countedCard

/-- THE SECOND FORM's CARD OF 'mutelaw.Checks'. -/
def checksUptoCard : Claim7 := { stood := { row := checksUptoRow, standIns := [], harness := (true, "41a27f43cf6de131a01b32d9ed4f6bb6f56d77d4f132114b2188e34c4fdbf86f"), looks := true }, kinds := [], alts := [], laidByText := true, laidKinds := [.data, .data, .data, .sentinel, .sentinel], laidTests := true, laidLooks := .later }
def ChecksUptoCardSaid : Prop := Claim7.holds Tryz.pinned (.plain (OpenSpec.upto checksSpec)) checksUptoCard

/-- THE SECOND FORM's CARD OF 'mutelaw.Shapes'. -/
def shapesUptoCard : Claim7 := { stood := { row := shapesUptoRow, standIns := [], harness := (true, "41a27f43cf6de131a01b32d9ed4f6bb6f56d77d4f132114b2188e34c4fdbf86f"), looks := true }, kinds := [], alts := [], laidByText := true, laidKinds := [.data, .data, .data, .sentinel, .sentinel], laidTests := true, laidLooks := .later }
def ShapesUptoCardSaid : Prop := Claim7.holds Tryz.pinned (.plain (OpenSpec.upto shapesSpec)) shapesUptoCard

/-- THE SECOND FORM's CARD OF 'mutelaw.Runs'. -/
def runsUptoCard : Claim7 := { stood := { row := runsUptoRow, standIns := [], harness := (true, "41a27f43cf6de131a01b32d9ed4f6bb6f56d77d4f132114b2188e34c4fdbf86f"), looks := true }, kinds := [], alts := [], laidByText := true, laidKinds := [.data, .data, .data, .sentinel, .sentinel], laidTests := true, laidLooks := .later }
def RunsUptoCardSaid : Prop := Claim7.holds Tryz.pinned (.plain (OpenSpec.upto runsSpec)) runsUptoCard

/-- THE SECOND FORM's CARD OF 'mutelaw.Codes'. -/
def codesUptoCard : Claim7 := { stood := { row := codesUptoRow, standIns := [], harness := (true, "41a27f43cf6de131a01b32d9ed4f6bb6f56d77d4f132114b2188e34c4fdbf86f"), looks := true }, kinds := [], alts := [], laidByText := true, laidKinds := [.data, .data, .data, .sentinel, .sentinel], laidTests := true, laidLooks := .later }
def CodesUptoCardSaid : Prop := Claim7.holds Tryz.pinned (.plain (OpenSpec.upto codesSpec)) codesUptoCard

/-- THE SECOND FORM's CARD OF 'mutekeep.Done'. -/
def doneUptoCard : Claim7 := { stood := { row := doneUptoRow, standIns := [], harness := (true, "41a27f43cf6de131a01b32d9ed4f6bb6f56d77d4f132114b2188e34c4fdbf86f"), looks := true }, kinds := [], alts := [], laidByText := true, laidKinds := [.data, .data, .data, .sentinel, .sentinel], laidTests := true, laidLooks := .later }
def DoneUptoCardSaid : Prop := Claim7.holds Tryz.pinned (.plain (OpenSpec.upto doneSpec)) doneUptoCard

/-- THE SECOND FORM's CARD OF 'mutekeep.Mute'. -/
def muteUptoCard : Claim7 := { stood := { row := muteUptoRow, standIns := [], harness := (true, "41a27f43cf6de131a01b32d9ed4f6bb6f56d77d4f132114b2188e34c4fdbf86f"), looks := true }, kinds := [], alts := [], laidByText := true, laidKinds := [.data, .data, .data, .sentinel, .sentinel], laidTests := true, laidLooks := .later }
def MuteUptoCardSaid : Prop := Claim7.holds Tryz.pinned (.plain (OpenSpec.upto muteSpec)) muteUptoCard

/-- THE SECOND FORM's CARD OF 'mutekeep.Kept'. -/
def keptUptoCard : Claim7 := { stood := { row := keptUptoRow, standIns := [], harness := (true, "41a27f43cf6de131a01b32d9ed4f6bb6f56d77d4f132114b2188e34c4fdbf86f"), looks := true }, kinds := [], alts := [], laidByText := true, laidKinds := [.data, .data, .data, .sentinel, .sentinel], laidTests := true, laidLooks := .later }
def KeptUptoCardSaid : Prop := Claim7.holds Tryz.pinned (.plain (OpenSpec.upto keptSpec)) keptUptoCard

/-- THE SECOND FORM's CARD OF 'mutekeep.Chosen'. -/
def chosenUptoCard : Claim7 := { stood := { row := chosenUptoRow, standIns := [], harness := (true, "41a27f43cf6de131a01b32d9ed4f6bb6f56d77d4f132114b2188e34c4fdbf86f"), looks := true }, kinds := [], alts := [], laidByText := true, laidKinds := [.data, .data, .data, .sentinel, .sentinel], laidTests := true, laidLooks := .later }
def ChosenUptoCardSaid : Prop := Claim7.holds Tryz.pinned (.plain (OpenSpec.upto chosenSpec)) chosenUptoCard

/-- THE SECOND FORM's CARD OF 'mutekeep.Sorted'. -/
def sortedUptoCard : Claim7 := { stood := { row := sortedUptoRow, standIns := [], harness := (true, "41a27f43cf6de131a01b32d9ed4f6bb6f56d77d4f132114b2188e34c4fdbf86f"), looks := true }, kinds := [], alts := [], laidByText := true, laidKinds := [.data, .data, .data, .sentinel, .sentinel], laidTests := true, laidLooks := .later }
def SortedUptoCardSaid : Prop := Claim7.holds Tryz.pinned (.plain (OpenSpec.upto sortedSpec)) sortedUptoCard

/-- THE SECOND FORM's CARD OF 'mutekeep.Counted'. -/
def countedUptoCard : Claim7 := { stood := { row := countedUptoRow, standIns := [], harness := (true, "41a27f43cf6de131a01b32d9ed4f6bb6f56d77d4f132114b2188e34c4fdbf86f"), looks := true }, kinds := [], alts := [], laidByText := true, laidKinds := [.data, .data, .data, .sentinel, .sentinel], laidTests := true, laidLooks := .later }
def CountedUptoCardSaid : Prop := Claim7.holds Tryz.pinned (.plain (OpenSpec.upto countedSpec)) countedUptoCard
end Rows
end Go.Proofs.YtejbgcloblpbfaaGreatDoor
