/-
  DERIVED. GIVEN WITH THE SEED: THE CARDS: each row of YthlabpbplikjbaaDoorRows.lean that lists a variable, with what it lists TIED to the program's text (the seventh form; the later family's looks); each row that meets fmt, with fmt's text TOLD by the authors' own Lean function (tested against real Go, not proved from fmt's source: count such statements apart). THE CARD IS WHAT COUNTS. Prove the row's statement (the work); the ties are given (YthlabpbplikjbaaDoorTie.lean); close each card by the builder's one call (the guide's Derived/Test/ToyasCard.lean, 'card_holds'). Laid BY PROGRAM, IN A SANDBOX (cutbox-door.mjs). By AI agents, Wed Nov 11 2026. No macro, syntax, notation, axiom, sorry.
-/
import Derived.Test.YthlabpbplikjbaaDoorRows
import GoSem.ClaimSeven
namespace Go.Proofs.YthlabpbplikjbaaDoor
namespace Rows

/-- THE TIED CARD OF 'nameplatelaw14.VipsNames'. -/
def vipsNamesCard : Claim7 := { stood := { row := vipsNamesRow, standIns := [], harness := (true, "5eff77a202a4f1c9a93af501c852861122325ab5c85b0368b0b8da868e9e7147"), looks := true }, kinds := [], alts := [], laidByText := true, laidKinds := [.data, .data], laidTests := true, laidLooks := .later }
def VipsNamesCardSaid : Prop := Claim7.holds Tryd.pinned (.plain (OpenSpec.ofChange vipsNamesSpec)) vipsNamesCard

/-- THE TIED CARD OF 'nameplatelaw14.VipsNil'. -/
def vipsNilCard : Claim7 := { stood := { row := vipsNilRow, standIns := [], harness := (true, "5eff77a202a4f1c9a93af501c852861122325ab5c85b0368b0b8da868e9e7147"), looks := true }, kinds := [], alts := [], laidByText := true, laidKinds := [.data, .data], laidTests := true, laidLooks := .later }
def VipsNilCardSaid : Prop := Claim7.holds Tryd.pinned (.plain (OpenSpec.ofChange vipsNilSpec)) vipsNilCard

/-- THE TIED CARD OF 'nameplatelaw14.VipsTwice'. -/
def vipsTwiceCard : Claim7 := { stood := { row := vipsTwiceRow, standIns := [], harness := (true, "5eff77a202a4f1c9a93af501c852861122325ab5c85b0368b0b8da868e9e7147"), looks := true }, kinds := [], alts := [], laidByText := true, laidKinds := [.data, .data], laidTests := true, laidLooks := .later }
def VipsTwiceCardSaid : Prop := Claim7.holds Tryd.pinned (.plain (OpenSpec.ofChange vipsTwiceSpec)) vipsTwiceCard

/-- THE TIED CARD OF 'nameplatelaw14.VipsFills'. -/
def vipsFillsCard : Claim7 := { stood := { row := vipsFillsRow, standIns := [], harness := (true, "5eff77a202a4f1c9a93af501c852861122325ab5c85b0368b0b8da868e9e7147"), looks := true }, kinds := [], alts := [], laidByText := true, laidKinds := [.data, .data], laidTests := true, laidLooks := .later }
def VipsFillsCardSaid : Prop := Claim7.holds Tryd.pinned (.plain (OpenSpec.ofChange vipsFillsSpec)) vipsFillsCard

/-- THE SECOND FORM's CARD OF 'nameplatelaw14.VipsNames'. -/
def vipsNamesUptoCard : Claim7 := { stood := { row := vipsNamesUptoRow, standIns := [], harness := (true, "5eff77a202a4f1c9a93af501c852861122325ab5c85b0368b0b8da868e9e7147"), looks := true }, kinds := [], alts := [], laidByText := true, laidKinds := [.data, .data], laidTests := true, laidLooks := .later }
def VipsNamesUptoCardSaid : Prop := Claim7.holds Tryd.pinned (.plain (OpenSpec.upto vipsNamesSpec)) vipsNamesUptoCard

/-- THE SECOND FORM's CARD OF 'nameplatelaw14.VipsNil'. -/
def vipsNilUptoCard : Claim7 := { stood := { row := vipsNilUptoRow, standIns := [], harness := (true, "5eff77a202a4f1c9a93af501c852861122325ab5c85b0368b0b8da868e9e7147"), looks := true }, kinds := [], alts := [], laidByText := true, laidKinds := [.data, .data], laidTests := true, laidLooks := .later }
def VipsNilUptoCardSaid : Prop := Claim7.holds Tryd.pinned (.plain (OpenSpec.upto vipsNilSpec)) vipsNilUptoCard

/-- THE SECOND FORM's CARD OF 'nameplatelaw14.VipsTwice'. -/
def vipsTwiceUptoCard : Claim7 := { stood := { row := vipsTwiceUptoRow, standIns := [], harness := (true, "5eff77a202a4f1c9a93af501c852861122325ab5c85b0368b0b8da868e9e7147"), looks := true }, kinds := [], alts := [], laidByText := true, laidKinds := [.data, .data], laidTests := true, laidLooks := .later }
def VipsTwiceUptoCardSaid : Prop := Claim7.holds Tryd.pinned (.plain (OpenSpec.upto vipsTwiceSpec)) vipsTwiceUptoCard

/-- THE SECOND FORM's CARD OF 'nameplatelaw14.VipsFills'. -/
def vipsFillsUptoCard : Claim7 := { stood := { row := vipsFillsUptoRow, standIns := [], harness := (true, "5eff77a202a4f1c9a93af501c852861122325ab5c85b0368b0b8da868e9e7147"), looks := true }, kinds := [], alts := [], laidByText := true, laidKinds := [.data, .data], laidTests := true, laidLooks := .later }
def VipsFillsUptoCardSaid : Prop := Claim7.holds Tryd.pinned (.plain (OpenSpec.upto vipsFillsSpec)) vipsFillsUptoCard
end Rows
end Go.Proofs.YthlabpbplikjbaaDoor
