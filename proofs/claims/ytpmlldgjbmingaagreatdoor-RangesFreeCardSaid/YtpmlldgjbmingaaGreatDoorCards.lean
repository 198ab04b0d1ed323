/-
  DERIVED. GIVEN WITH THE SEED: THE CARDS: each row of YtpmlldgjbmingaaGreatDoorRows.lean that lists a variable, with what it lists TIED to the program's text (the seventh form; the later family's looks); each row that meets fmt, with fmt's text TOLD by the authors' own Lean function (tested against real Go, not proved from fmt's source: count such statements apart). THE CARD IS WHAT COUNTS. Prove the row's statement (the work); the ties are given (YtpmlldgjbmingaaGreatDoorTie.lean); close each card by the builder's one call (the guide's Derived/Test/ToyasCard.lean, 'card_holds'). Laid BY PROGRAM, IN A SANDBOX (cutbox-door.mjs). By AI agents, Wed Nov 11 2026. No macro, syntax, notation, axiom, sorry.
-/
import Derived.Test.YtpmlldgjbmingaaGreatDoorRows
import GoSem.ClaimSeven
namespace Go.Proofs.YtpmlldgjbmingaaGreatDoor
namespace Rows

/-- THE TIED CARD OF 'nameplatelaw04.AddrCalls'. -/
def addrCallsCard : Claim7 := { stood := { row := addrCallsRow, standIns := [], harness := (true, "41788d8f41474169379585e2b0691794d36786ee25454162aeacd36cee8f10f1"), looks := true }, kinds := [], alts := [], laidByText := true, laidKinds := [.data, .data, .data, .data, .sentinel, .sentinel, .pinned], laidTests := true, laidLooks := .later }
def AddrCallsCardSaid : Prop := Claim7.holds Tryz.pinned (.plain (OpenSpec.ofChange addrCallsSpec)) addrCallsCard

/-- THE TIED CARD OF 'nameplatelaw05.RangesNames'. -/
def rangesNamesCard : Claim7 := { stood := { row := rangesNamesRow, standIns := [], harness := (true, "41788d8f41474169379585e2b0691794d36786ee25454162aeacd36cee8f10f1"), looks := true }, kinds := [], alts := [], laidByText := true, laidKinds := [.data, .data, .data, .data, .sentinel, .sentinel, .pinned], laidTests := true, laidLooks := .later }
def RangesNamesCardSaid : Prop := Claim7.holds Tryz.pinned (.plain (OpenSpec.ofChange rangesNamesSpec)) rangesNamesCard

/-- THE TIED CARD OF 'nameplatelaw05.RangesCalls'. -/
def rangesCallsCard : Claim7 := { stood := { row := rangesCallsRow, standIns := [], harness := (true, "41788d8f41474169379585e2b0691794d36786ee25454162aeacd36cee8f10f1"), looks := true }, kinds := [], alts := [], laidByText := true, laidKinds := [.data, .data, .data, .data, .sentinel, .sentinel, .pinned], laidTests := true, laidLooks := .later }
def RangesCallsCardSaid : Prop := Claim7.holds Tryz.pinned (.plain (OpenSpec.ofChange rangesCallsSpec)) rangesCallsCard

/-- THE TIED CARD OF 'nameplatelaw05.RangesFree'. -/
def rangesFreeCard : Claim7 := { stood := { row := rangesFreeRow, standIns := [], harness := (true, "41788d8f41474169379585e2b0691794d36786ee25454162aeacd36cee8f10f1"), looks := true }, kinds := [], alts := [], laidByText := true, laidKinds := [.data, .data, .data, .data, .sentinel, .sentinel, .pinned], laidTests := true, laidLooks := .later }
def RangesFreeCardSaid : Prop := Claim7.holds Tryz.pinned (.plain (OpenSpec.ofChange rangesFreeSpec)) rangesFreeCard

/-- THE SECOND FORM's CARD OF 'nameplatelaw04.AddrCalls'. -/
def addrCallsUptoCard : Claim7 := { stood := { row := addrCallsUptoRow, standIns := [], harness := (true, "41788d8f41474169379585e2b0691794d36786ee25454162aeacd36cee8f10f1"), looks := true }, kinds := [], alts := [], laidByText := true, laidKinds := [.data, .data, .data, .data, .sentinel, .sentinel, .pinned], laidTests := true, laidLooks := .later }
def AddrCallsUptoCardSaid : Prop := Claim7.holds Tryz.pinned (.plain (OpenSpec.upto addrCallsSpec)) addrCallsUptoCard

/-- THE SECOND FORM's CARD OF 'nameplatelaw05.RangesNames'. -/
def rangesNamesUptoCard : Claim7 := { stood := { row := rangesNamesUptoRow, standIns := [], harness := (true, "41788d8f41474169379585e2b0691794d36786ee25454162aeacd36cee8f10f1"), looks := true }, kinds := [], alts := [], laidByText := true, laidKinds := [.data, .data, .data, .data, .sentinel, .sentinel, .pinned], laidTests := true, laidLooks := .later }
def RangesNamesUptoCardSaid : Prop := Claim7.holds Tryz.pinned (.plain (OpenSpec.upto rangesNamesSpec)) rangesNamesUptoCard

/-- THE SECOND FORM's CARD OF 'nameplatelaw05.RangesCalls'. -/
def rangesCallsUptoCard : Claim7 := { stood := { row := rangesCallsUptoRow, standIns := [], harness := (true, "41788d8f41474169379585e2b0691794d36786ee25454162aeacd36cee8f10f1"), looks := true }, kinds := [], alts := [], laidByText := true, laidKinds := [.data, .data, .data, .data, .sentinel, .sentinel, .pinned], laidTests := true, laidLooks := .later }
def RangesCallsUptoCardSaid : Prop := Claim7.holds Tryz.pinned (.plain (OpenSpec.upto rangesCallsSpec)) rangesCallsUptoCard

/-- THE SECOND FORM's CARD OF 'nameplatelaw05.RangesFree'. -/
def rangesFreeUptoCard : Claim7 := { stood := { row := rangesFreeUptoRow, standIns := [], harness := (true, "41788d8f41474169379585e2b0691794d36786ee25454162aeacd36cee8f10f1"), looks := true }, kinds := [], alts := [], laidByText := true, laidKinds := [.data, .data, .data, .data, .sentinel, .sentinel, .pinned], laidTests := true, laidLooks := .later }
def RangesFreeUptoCardSaid : Prop := Claim7.holds Tryz.pinned (.plain (OpenSpec.upto rangesFreeSpec)) rangesFreeUptoCard
end Rows
end Go.Proofs.YtpmlldgjbmingaaGreatDoor
