/-
  DERIVED. GIVEN WITH THE SEED: THE CARDS: each row of YtjadghmanpkgoaaGreatDoorRows.lean that lists a variable, with what it lists TIED to the program's text (the seventh form; the later family's looks); each row that meets fmt, with fmt's text TOLD by the authors' own Lean function (tested against real Go, not proved from fmt's source: count such statements apart). THE CARD IS WHAT COUNTS. Prove the row's statement (the work); the ties are given (YtjadghmanpkgoaaGreatDoorTie.lean); close each card by the builder's one call (the guide's Derived/Test/ToyasCard.lean, 'card_holds'). Laid BY PROGRAM, IN A SANDBOX (cutbox-door.mjs). By AI agents, Wed Nov 11 2026. No macro, syntax, notation, axiom, sorry.
-/
import Derived.Test.YtjadghmanpkgoaaGreatDoorRows
import GoSem.ClaimSeven
namespace Go.Proofs.YtjadghmanpkgoaaGreatDoor
namespace Rows

/-- THE TIED CARD OF 'nameplatelaw04.AddrCalls'. -/
def addrCallsCard : Claim7 := { stood := { row := addrCallsRow, standIns := [], harness := (true, "20484d6bb32616c1173e53324a3233dc699d3b83123bee5162d2adeec34bcc80"), looks := true }, kinds := [], alts := [], laidByText := true, laidKinds := [.data, .data, .data, .data, .sentinel, .sentinel, .pinned], laidTests := true, laidLooks := .later }
def AddrCallsCardSaid : Prop := Claim7.holds Tryz.pinned (.plain (OpenSpec.ofChange addrCallsSpec)) addrCallsCard

/-- THE TIED CARD OF 'nameplatelaw04.AddrGroups'. -/
def addrGroupsCard : Claim7 := { stood := { row := addrGroupsRow, standIns := [], harness := (true, "20484d6bb32616c1173e53324a3233dc699d3b83123bee5162d2adeec34bcc80"), looks := true }, kinds := [], alts := [], laidByText := true, laidKinds := [.data, .data, .data, .data, .sentinel, .sentinel, .pinned], laidTests := true, laidLooks := .later }
def AddrGroupsCardSaid : Prop := Claim7.holds Tryz.pinned (.plain (OpenSpec.ofChange addrGroupsSpec)) addrGroupsCard

/-- THE TIED CARD OF 'nameplatelaw04.AddrReverses'. -/
def addrReversesCard : Claim7 := { stood := { row := addrReversesRow, standIns := [], harness := (true, "20484d6bb32616c1173e53324a3233dc699d3b83123bee5162d2adeec34bcc80"), looks := true }, kinds := [], alts := [], laidByText := true, laidKinds := [.data, .data, .data, .data, .sentinel, .sentinel, .pinned], laidTests := true, laidLooks := .later }
def AddrReversesCardSaid : Prop := Claim7.holds Tryz.pinned (.plain (OpenSpec.ofChange addrReversesSpec)) addrReversesCard

/-- THE TIED CARD OF 'nameplatelaw05.RangesNames'. -/
def rangesNamesCard : Claim7 := { stood := { row := rangesNamesRow, standIns := [], harness := (true, "20484d6bb32616c1173e53324a3233dc699d3b83123bee5162d2adeec34bcc80"), looks := true }, kinds := [], alts := [], laidByText := true, laidKinds := [.data, .data, .data, .data, .sentinel, .sentinel, .pinned], laidTests := true, laidLooks := .later }
def RangesNamesCardSaid : Prop := Claim7.holds Tryz.pinned (.plain (OpenSpec.ofChange rangesNamesSpec)) rangesNamesCard

/-- THE TIED CARD OF 'nameplatelaw05.RangesCalls'. -/
def rangesCallsCard : Claim7 := { stood := { row := rangesCallsRow, standIns := [], harness := (true, "20484d6bb32616c1173e53324a3233dc699d3b83123bee5162d2adeec34bcc80"), looks := true }, kinds := [], alts := [], laidByText := true, laidKinds := [.data, .data, .data, .data, .sentinel, .sentinel, .pinned], laidTests := true, laidLooks := .later }
def RangesCallsCardSaid : Prop := Claim7.holds Tryz.pinned (.plain (OpenSpec.ofChange rangesCallsSpec)) rangesCallsCard

/-- THE TIED CARD OF 'nameplatelaw05.RangesBack'. -/
def rangesBackCard : Claim7 := { stood := { row := rangesBackRow, standIns := [], harness := (true, "20484d6bb32616c1173e53324a3233dc699d3b83123bee5162d2adeec34bcc80"), looks := true }, kinds := [], alts := [], laidByText := true, laidKinds := [.data, .data, .data, .data, .sentinel, .sentinel, .pinned], laidTests := true, laidLooks := .later }
def RangesBackCardSaid : Prop := Claim7.holds Tryz.pinned (.plain (OpenSpec.ofChange rangesBackSpec)) rangesBackCard

/-- THE TIED CARD OF 'nameplatelaw05.RangesMeet'. -/
def rangesMeetCard : Claim7 := { stood := { row := rangesMeetRow, standIns := [], harness := (true, "20484d6bb32616c1173e53324a3233dc699d3b83123bee5162d2adeec34bcc80"), looks := true }, kinds := [], alts := [], laidByText := true, laidKinds := [.data, .data, .data, .data, .sentinel, .sentinel, .pinned], laidTests := true, laidLooks := .later }
def RangesMeetCardSaid : Prop := Claim7.holds Tryz.pinned (.plain (OpenSpec.ofChange rangesMeetSpec)) rangesMeetCard

/-- THE TIED CARD OF 'nameplatelaw05.RangesFree'. -/
def rangesFreeCard : Claim7 := { stood := { row := rangesFreeRow, standIns := [], harness := (true, "20484d6bb32616c1173e53324a3233dc699d3b83123bee5162d2adeec34bcc80"), looks := true }, kinds := [], alts := [], laidByText := true, laidKinds := [.data, .data, .data, .data, .sentinel, .sentinel, .pinned], laidTests := true, laidLooks := .later }
def RangesFreeCardSaid : Prop := Claim7.holds Tryz.pinned (.plain (OpenSpec.ofChange rangesFreeSpec)) rangesFreeCard

/-- THE TIED CARD OF 'nameplatelaw05.RangesNest'. -/
def rangesNestCard : Claim7 := { stood := { row := rangesNestRow, standIns := [], harness := (true, "20484d6bb32616c1173e53324a3233dc699d3b83123bee5162d2adeec34bcc80"), looks := true }, kinds := [], alts := [], laidByText := true, laidKinds := [.data, .data, .data, .data, .sentinel, .sentinel, .pinned], laidTests := true, laidLooks := .later }
def RangesNestCardSaid : Prop := Claim7.holds Tryz.pinned (.plain (OpenSpec.ofChange rangesNestSpec)) rangesNestCard

/-- THE SECOND FORM's CARD OF 'nameplatelaw04.AddrCalls'. -/
def addrCallsUptoCard : Claim7 := { stood := { row := addrCallsUptoRow, standIns := [], harness := (true, "20484d6bb32616c1173e53324a3233dc699d3b83123bee5162d2adeec34bcc80"), looks := true }, kinds := [], alts := [], laidByText := true, laidKinds := [.data, .data, .data, .data, .sentinel, .sentinel, .pinned], laidTests := true, laidLooks := .later }
def AddrCallsUptoCardSaid : Prop := Claim7.holds Tryz.pinned (.plain (OpenSpec.upto addrCallsSpec)) addrCallsUptoCard

/-- THE SECOND FORM's CARD OF 'nameplatelaw04.AddrGroups'. -/
def addrGroupsUptoCard : Claim7 := { stood := { row := addrGroupsUptoRow, standIns := [], harness := (true, "20484d6bb32616c1173e53324a3233dc699d3b83123bee5162d2adeec34bcc80"), looks := true }, kinds := [], alts := [], laidByText := true, laidKinds := [.data, .data, .data, .data, .sentinel, .sentinel, .pinned], laidTests := true, laidLooks := .later }
def AddrGroupsUptoCardSaid : Prop := Claim7.holds Tryz.pinned (.plain (OpenSpec.upto addrGroupsSpec)) addrGroupsUptoCard

/-- THE SECOND FORM's CARD OF 'nameplatelaw04.AddrReverses'. -/
def addrReversesUptoCard : Claim7 := { stood := { row := addrReversesUptoRow, standIns := [], harness := (true, "20484d6bb32616c1173e53324a3233dc699d3b83123bee5162d2adeec34bcc80"), looks := true }, kinds := [], alts := [], laidByText := true, laidKinds := [.data, .data, .data, .data, .sentinel, .sentinel, .pinned], laidTests := true, laidLooks := .later }
def AddrReversesUptoCardSaid : Prop := Claim7.holds Tryz.pinned (.plain (OpenSpec.upto addrReversesSpec)) addrReversesUptoCard

/-- THE SECOND FORM's CARD OF 'nameplatelaw05.RangesNames'. -/
def rangesNamesUptoCard : Claim7 := { stood := { row := rangesNamesUptoRow, standIns := [], harness := (true, "20484d6bb32616c1173e53324a3233dc699d3b83123bee5162d2adeec34bcc80"), looks := true }, kinds := [], alts := [], laidByText := true, laidKinds := [.data, .data, .data, .data, .sentinel, .sentinel, .pinned], laidTests := true, laidLooks := .later }
def RangesNamesUptoCardSaid : Prop := Claim7.holds Tryz.pinned (.plain (OpenSpec.upto rangesNamesSpec)) rangesNamesUptoCard

/-- THE SECOND FORM's CARD OF 'nameplatelaw05.RangesCalls'. -/
def rangesCallsUptoCard : Claim7 := { stood := { row := rangesCallsUptoRow, standIns := [], harness := (true, "20484d6bb32616c1173e53324a3233dc699d3b83123bee5162d2adeec34bcc80"), looks := true }, kinds := [], alts := [], laidByText := true, laidKinds := [.data, .data, .data, .data, .sentinel, .sentinel, .pinned], laidTests := true, laidLooks := .later }
def RangesCallsUptoCardSaid : Prop := Claim7.holds Tryz.pinned (.plain (OpenSpec.upto rangesCallsSpec)) rangesCallsUptoCard

/-- THE SECOND FORM's CARD OF 'nameplatelaw05.RangesBack'. -/
def rangesBackUptoCard : Claim7 := { stood := { row := rangesBackUptoRow, standIns := [], harness := (true, "20484d6bb32616c1173e53324a3233dc699d3b83123bee5162d2adeec34bcc80"), looks := true }, kinds := [], alts := [], laidByText := true, laidKinds := [.data, .data, .data, .data, .sentinel, .sentinel, .pinned], laidTests := true, laidLooks := .later }
def RangesBackUptoCardSaid : Prop := Claim7.holds Tryz.pinned (.plain (OpenSpec.upto rangesBackSpec)) rangesBackUptoCard

/-- THE SECOND FORM's CARD OF 'nameplatelaw05.RangesMeet'. -/
def rangesMeetUptoCard : Claim7 := { stood := { row := rangesMeetUptoRow, standIns := [], harness := (true, "20484d6bb32616c1173e53324a3233dc699d3b83123bee5162d2adeec34bcc80"), looks := true }, kinds := [], alts := [], laidByText := true, laidKinds := [.data, .data, .data, .data, .sentinel, .sentinel, .pinned], laidTests := true, laidLooks := .later }
def RangesMeetUptoCardSaid : Prop := Claim7.holds Tryz.pinned (.plain (OpenSpec.upto rangesMeetSpec)) rangesMeetUptoCard

/-- THE SECOND FORM's CARD OF 'nameplatelaw05.RangesFree'. -/
def rangesFreeUptoCard : Claim7 := { stood := { row := rangesFreeUptoRow, standIns := [], harness := (true, "20484d6bb32616c1173e53324a3233dc699d3b83123bee5162d2adeec34bcc80"), looks := true }, kinds := [], alts := [], laidByText := true, laidKinds := [.data, .data, .data, .data, .sentinel, .sentinel, .pinned], laidTests := true, laidLooks := .later }
def RangesFreeUptoCardSaid : Prop := Claim7.holds Tryz.pinned (.plain (OpenSpec.upto rangesFreeSpec)) rangesFreeUptoCard

/-- THE SECOND FORM's CARD OF 'nameplatelaw05.RangesNest'. -/
def rangesNestUptoCard : Claim7 := { stood := { row := rangesNestUptoRow, standIns := [], harness := (true, "20484d6bb32616c1173e53324a3233dc699d3b83123bee5162d2adeec34bcc80"), looks := true }, kinds := [], alts := [], laidByText := true, laidKinds := [.data, .data, .data, .data, .sentinel, .sentinel, .pinned], laidTests := true, laidLooks := .later }
def RangesNestUptoCardSaid : Prop := Claim7.holds Tryz.pinned (.plain (OpenSpec.upto rangesNestSpec)) rangesNestUptoCard
end Rows
end Go.Proofs.YtjadghmanpkgoaaGreatDoor
