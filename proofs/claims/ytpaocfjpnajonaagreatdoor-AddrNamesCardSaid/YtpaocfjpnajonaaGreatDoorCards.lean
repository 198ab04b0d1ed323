/-
  DERIVED. GIVEN WITH THE SEED: THE CARDS: each row of YtpaocfjpnajonaaGreatDoorRows.lean that lists a variable, with what it lists TIED to the program's text (the seventh form; the later family's looks); each row that meets fmt, with fmt's text TOLD by the authors' own Lean function (tested against real Go, not proved from fmt's source: count such statements apart). THE CARD IS WHAT COUNTS. Prove the row's statement (the work); the ties are given (YtpaocfjpnajonaaGreatDoorTie.lean); close each card by the builder's one call (the guide's Derived/Test/ToyasCard.lean, 'card_holds'). Laid BY PROGRAM, IN A SANDBOX (cutbox-door.mjs). By AI agents, Wed Nov 11 2026. No macro, syntax, notation, axiom, sorry.
-/
import Derived.Test.YtpaocfjpnajonaaGreatDoorRows
import GoSem.ClaimSeven
namespace Go.Proofs.YtpaocfjpnajonaaGreatDoor
namespace Rows

/-- THE TIED CARD OF 'nameplatelaw04.AddrNames'. -/
def addrNamesCard : Claim7 := { stood := { row := addrNamesRow, standIns := [], harness := (true, "acd60a094ca027c037671891732e66285459b05b621de81fee46b78f4d22ed1f"), looks := true }, kinds := [], alts := [], laidByText := true, laidKinds := [.data, .data, .data, .data, .sentinel, .sentinel, .pinned], laidTests := true, laidLooks := .later }
def AddrNamesCardSaid : Prop := Claim7.holds Tryz.pinned (.plain (OpenSpec.ofChange addrNamesSpec)) addrNamesCard

/-- THE TIED CARD OF 'nameplatelaw04.AddrCalls'. -/
def addrCallsCard : Claim7 := { stood := { row := addrCallsRow, standIns := [], harness := (true, "acd60a094ca027c037671891732e66285459b05b621de81fee46b78f4d22ed1f"), looks := true }, kinds := [], alts := [], laidByText := true, laidKinds := [.data, .data, .data, .data, .sentinel, .sentinel, .pinned], laidTests := true, laidLooks := .later }
def AddrCallsCardSaid : Prop := Claim7.holds Tryz.pinned (.plain (OpenSpec.ofChange addrCallsSpec)) addrCallsCard

/-- THE TIED CARD OF 'nameplatelaw04.AddrBack'. -/
def addrBackCard : Claim7 := { stood := { row := addrBackRow, standIns := [], harness := (true, "acd60a094ca027c037671891732e66285459b05b621de81fee46b78f4d22ed1f"), looks := true }, kinds := [], alts := [], laidByText := true, laidKinds := [.data, .data, .data, .data, .sentinel, .sentinel, .pinned], laidTests := true, laidLooks := .later }
def AddrBackCardSaid : Prop := Claim7.holds Tryz.pinned (.plain (OpenSpec.ofChange addrBackSpec)) addrBackCard

/-- THE TIED CARD OF 'nameplatelaw04.AddrOrder'. -/
def addrOrderCard : Claim7 := { stood := { row := addrOrderRow, standIns := [], harness := (true, "acd60a094ca027c037671891732e66285459b05b621de81fee46b78f4d22ed1f"), looks := true }, kinds := [], alts := [], laidByText := true, laidKinds := [.data, .data, .data, .data, .sentinel, .sentinel, .pinned], laidTests := true, laidLooks := .later }
def AddrOrderCardSaid : Prop := Claim7.holds Tryz.pinned (.plain (OpenSpec.ofChange addrOrderSpec)) addrOrderCard

/-- THE TIED CARD OF 'nameplatelaw04.AddrGroups'. -/
def addrGroupsCard : Claim7 := { stood := { row := addrGroupsRow, standIns := [], harness := (true, "acd60a094ca027c037671891732e66285459b05b621de81fee46b78f4d22ed1f"), looks := true }, kinds := [], alts := [], laidByText := true, laidKinds := [.data, .data, .data, .data, .sentinel, .sentinel, .pinned], laidTests := true, laidLooks := .later }
def AddrGroupsCardSaid : Prop := Claim7.holds Tryz.pinned (.plain (OpenSpec.ofChange addrGroupsSpec)) addrGroupsCard

/-- THE TIED CARD OF 'nameplatelaw04.AddrReverses'. -/
def addrReversesCard : Claim7 := { stood := { row := addrReversesRow, standIns := [], harness := (true, "acd60a094ca027c037671891732e66285459b05b621de81fee46b78f4d22ed1f"), looks := true }, kinds := [], alts := [], laidByText := true, laidKinds := [.data, .data, .data, .data, .sentinel, .sentinel, .pinned], laidTests := true, laidLooks := .later }
def AddrReversesCardSaid : Prop := Claim7.holds Tryz.pinned (.plain (OpenSpec.ofChange addrReversesSpec)) addrReversesCard

/-- THE TIED CARD OF 'nameplatelaw05.RangesNames'. -/
def rangesNamesCard : Claim7 := { stood := { row := rangesNamesRow, standIns := [], harness := (true, "acd60a094ca027c037671891732e66285459b05b621de81fee46b78f4d22ed1f"), looks := true }, kinds := [], alts := [], laidByText := true, laidKinds := [.data, .data, .data, .data, .sentinel, .sentinel, .pinned], laidTests := true, laidLooks := .later }
def RangesNamesCardSaid : Prop := Claim7.holds Tryz.pinned (.plain (OpenSpec.ofChange rangesNamesSpec)) rangesNamesCard

/-- THE TIED CARD OF 'nameplatelaw05.RangesCalls'. -/
def rangesCallsCard : Claim7 := { stood := { row := rangesCallsRow, standIns := [], harness := (true, "acd60a094ca027c037671891732e66285459b05b621de81fee46b78f4d22ed1f"), looks := true }, kinds := [], alts := [], laidByText := true, laidKinds := [.data, .data, .data, .data, .sentinel, .sentinel, .pinned], laidTests := true, laidLooks := .later }
def RangesCallsCardSaid : Prop := Claim7.holds Tryz.pinned (.plain (OpenSpec.ofChange rangesCallsSpec)) rangesCallsCard

/-- THE TIED CARD OF 'nameplatelaw05.RangesBack'. -/
def rangesBackCard : Claim7 := { stood := { row := rangesBackRow, standIns := [], harness := (true, "acd60a094ca027c037671891732e66285459b05b621de81fee46b78f4d22ed1f"), looks := true }, kinds := [], alts := [], laidByText := true, laidKinds := [.data, .data, .data, .data, .sentinel, .sentinel, .pinned], laidTests := true, laidLooks := .later }
def RangesBackCardSaid : Prop := Claim7.holds Tryz.pinned (.plain (OpenSpec.ofChange rangesBackSpec)) rangesBackCard

/-- THE TIED CARD OF 'nameplatelaw05.RangesMeet'. -/
def rangesMeetCard : Claim7 := { stood := { row := rangesMeetRow, standIns := [], harness := (true, "acd60a094ca027c037671891732e66285459b05b621de81fee46b78f4d22ed1f"), looks := true }, kinds := [], alts := [], laidByText := true, laidKinds := [.data, .data, .data, .data, .sentinel, .sentinel, .pinned], laidTests := true, laidLooks := .later }
def RangesMeetCardSaid : Prop := Claim7.holds Tryz.pinned (.plain (OpenSpec.ofChange rangesMeetSpec)) rangesMeetCard

/-- THE TIED CARD OF 'nameplatelaw05.RangesFree'. -/
def rangesFreeCard : Claim7 := { stood := { row := rangesFreeRow, standIns := [], harness := (true, "acd60a094ca027c037671891732e66285459b05b621de81fee46b78f4d22ed1f"), looks := true }, kinds := [], alts := [], laidByText := true, laidKinds := [.data, .data, .data, .data, .sentinel, .sentinel, .pinned], laidTests := true, laidLooks := .later }
def RangesFreeCardSaid : Prop := Claim7.holds Tryz.pinned (.plain (OpenSpec.ofChange rangesFreeSpec)) rangesFreeCard

/-- THE SECOND FORM's CARD OF 'nameplatelaw04.AddrNames'. -/
def addrNamesUptoCard : Claim7 := { stood := { row := addrNamesUptoRow, standIns := [], harness := (true, "acd60a094ca027c037671891732e66285459b05b621de81fee46b78f4d22ed1f"), looks := true }, kinds := [], alts := [], laidByText := true, laidKinds := [.data, .data, .data, .data, .sentinel, .sentinel, .pinned], laidTests := true, laidLooks := .later }
def AddrNamesUptoCardSaid : Prop := Claim7.holds Tryz.pinned (.plain (OpenSpec.upto addrNamesSpec)) addrNamesUptoCard

/-- THE SECOND FORM's CARD OF 'nameplatelaw04.AddrCalls'. -/
def addrCallsUptoCard : Claim7 := { stood := { row := addrCallsUptoRow, standIns := [], harness := (true, "acd60a094ca027c037671891732e66285459b05b621de81fee46b78f4d22ed1f"), looks := true }, kinds := [], alts := [], laidByText := true, laidKinds := [.data, .data, .data, .data, .sentinel, .sentinel, .pinned], laidTests := true, laidLooks := .later }
def AddrCallsUptoCardSaid : Prop := Claim7.holds Tryz.pinned (.plain (OpenSpec.upto addrCallsSpec)) addrCallsUptoCard

/-- THE SECOND FORM's CARD OF 'nameplatelaw04.AddrBack'. -/
def addrBackUptoCard : Claim7 := { stood := { row := addrBackUptoRow, standIns := [], harness := (true, "acd60a094ca027c037671891732e66285459b05b621de81fee46b78f4d22ed1f"), looks := true }, kinds := [], alts := [], laidByText := true, laidKinds := [.data, .data, .data, .data, .sentinel, .sentinel, .pinned], laidTests := true, laidLooks := .later }
def AddrBackUptoCardSaid : Prop := Claim7.holds Tryz.pinned (.plain (OpenSpec.upto addrBackSpec)) addrBackUptoCard

/-- THE SECOND FORM's CARD OF 'nameplatelaw04.AddrOrder'. -/
def addrOrderUptoCard : Claim7 := { stood := { row := addrOrderUptoRow, standIns := [], harness := (true, "acd60a094ca027c037671891732e66285459b05b621de81fee46b78f4d22ed1f"), looks := true }, kinds := [], alts := [], laidByText := true, laidKinds := [.data, .data, .data, .data, .sentinel, .sentinel, .pinned], laidTests := true, laidLooks := .later }
def AddrOrderUptoCardSaid : Prop := Claim7.holds Tryz.pinned (.plain (OpenSpec.upto addrOrderSpec)) addrOrderUptoCard

/-- THE SECOND FORM's CARD OF 'nameplatelaw04.AddrGroups'. -/
def addrGroupsUptoCard : Claim7 := { stood := { row := addrGroupsUptoRow, standIns := [], harness := (true, "acd60a094ca027c037671891732e66285459b05b621de81fee46b78f4d22ed1f"), looks := true }, kinds := [], alts := [], laidByText := true, laidKinds := [.data, .data, .data, .data, .sentinel, .sentinel, .pinned], laidTests := true, laidLooks := .later }
def AddrGroupsUptoCardSaid : Prop := Claim7.holds Tryz.pinned (.plain (OpenSpec.upto addrGroupsSpec)) addrGroupsUptoCard

/-- THE SECOND FORM's CARD OF 'nameplatelaw04.AddrReverses'. -/
def addrReversesUptoCard : Claim7 := { stood := { row := addrReversesUptoRow, standIns := [], harness := (true, "acd60a094ca027c037671891732e66285459b05b621de81fee46b78f4d22ed1f"), looks := true }, kinds := [], alts := [], laidByText := true, laidKinds := [.data, .data, .data, .data, .sentinel, .sentinel, .pinned], laidTests := true, laidLooks := .later }
def AddrReversesUptoCardSaid : Prop := Claim7.holds Tryz.pinned (.plain (OpenSpec.upto addrReversesSpec)) addrReversesUptoCard

/-- THE SECOND FORM's CARD OF 'nameplatelaw05.RangesNames'. -/
def rangesNamesUptoCard : Claim7 := { stood := { row := rangesNamesUptoRow, standIns := [], harness := (true, "acd60a094ca027c037671891732e66285459b05b621de81fee46b78f4d22ed1f"), looks := true }, kinds := [], alts := [], laidByText := true, laidKinds := [.data, .data, .data, .data, .sentinel, .sentinel, .pinned], laidTests := true, laidLooks := .later }
def RangesNamesUptoCardSaid : Prop := Claim7.holds Tryz.pinned (.plain (OpenSpec.upto rangesNamesSpec)) rangesNamesUptoCard

/-- THE SECOND FORM's CARD OF 'nameplatelaw05.RangesCalls'. -/
def rangesCallsUptoCard : Claim7 := { stood := { row := rangesCallsUptoRow, standIns := [], harness := (true, "acd60a094ca027c037671891732e66285459b05b621de81fee46b78f4d22ed1f"), looks := true }, kinds := [], alts := [], laidByText := true, laidKinds := [.data, .data, .data, .data, .sentinel, .sentinel, .pinned], laidTests := true, laidLooks := .later }
def RangesCallsUptoCardSaid : Prop := Claim7.holds Tryz.pinned (.plain (OpenSpec.upto rangesCallsSpec)) rangesCallsUptoCard

/-- THE SECOND FORM's CARD OF 'nameplatelaw05.RangesBack'. -/
def rangesBackUptoCard : Claim7 := { stood := { row := rangesBackUptoRow, standIns := [], harness := (true, "acd60a094ca027c037671891732e66285459b05b621de81fee46b78f4d22ed1f"), looks := true }, kinds := [], alts := [], laidByText := true, laidKinds := [.data, .data, .data, .data, .sentinel, .sentinel, .pinned], laidTests := true, laidLooks := .later }
def RangesBackUptoCardSaid : Prop := Claim7.holds Tryz.pinned (.plain (OpenSpec.upto rangesBackSpec)) rangesBackUptoCard

/-- THE SECOND FORM's CARD OF 'nameplatelaw05.RangesMeet'. -/
def rangesMeetUptoCard : Claim7 := { stood := { row := rangesMeetUptoRow, standIns := [], harness := (true, "acd60a094ca027c037671891732e66285459b05b621de81fee46b78f4d22ed1f"), looks := true }, kinds := [], alts := [], laidByText := true, laidKinds := [.data, .data, .data, .data, .sentinel, .sentinel, .pinned], laidTests := true, laidLooks := .later }
def RangesMeetUptoCardSaid : Prop := Claim7.holds Tryz.pinned (.plain (OpenSpec.upto rangesMeetSpec)) rangesMeetUptoCard

/-- THE SECOND FORM's CARD OF 'nameplatelaw05.RangesFree'. -/
def rangesFreeUptoCard : Claim7 := { stood := { row := rangesFreeUptoRow, standIns := [], harness := (true, "acd60a094ca027c037671891732e66285459b05b621de81fee46b78f4d22ed1f"), looks := true }, kinds := [], alts := [], laidByText := true, laidKinds := [.data, .data, .data, .data, .sentinel, .sentinel, .pinned], laidTests := true, laidLooks := .later }
def RangesFreeUptoCardSaid : Prop := Claim7.holds Tryz.pinned (.plain (OpenSpec.upto rangesFreeSpec)) rangesFreeUptoCard
end Rows
end Go.Proofs.YtpaocfjpnajonaaGreatDoor
