/-
  DERIVED. GIVEN WITH THE SEED: THE CARDS: each row of YtpaocfjpnajonaaDoorRows.lean that lists a variable, with what it lists TIED to the program's text (the seventh form; the later family's looks); each row that meets fmt, with fmt's text TOLD by the authors' own Lean function (tested against real Go, not proved from fmt's source: count such statements apart). THE CARD IS WHAT COUNTS. Prove the row's statement (the work); the ties are given (YtpaocfjpnajonaaDoorTie.lean); close each card by the builder's one call (the guide's Derived/Test/ToyasCard.lean, 'card_holds'). Laid BY PROGRAM, IN A SANDBOX (cutbox-door.mjs). By AI agents, Wed Nov 11 2026. No macro, syntax, notation, axiom, sorry.
-/
import Derived.Test.YtpaocfjpnajonaaDoorRows
import GoSem.ClaimSeven
namespace Go.Proofs.YtpaocfjpnajonaaDoor
namespace Rows

/-- THE TIED CARD OF 'nameplatelaw04.AddrCanon'. -/
def addrCanonCard : Claim7 := { stood := { row := addrCanonRow, standIns := [], harness := (true, "47320d141b214320b0101065cc069c02b8a6f38c2f5be4df6045d57b2cfb6cbf"), looks := true }, kinds := [], alts := [], laidByText := true, laidKinds := [.data, .data, .data, .data, .sentinel, .sentinel, .pinned], laidTests := true, laidLooks := .later }
def AddrCanonCardSaid : Prop := Claim7.holds Tryd.pinned (.plain (OpenSpec.ofChange addrCanonSpec)) addrCanonCard

/-- THE SECOND FORM's CARD OF 'nameplatelaw04.AddrCanon'. -/
def addrCanonUptoCard : Claim7 := { stood := { row := addrCanonUptoRow, standIns := [], harness := (true, "47320d141b214320b0101065cc069c02b8a6f38c2f5be4df6045d57b2cfb6cbf"), looks := true }, kinds := [], alts := [], laidByText := true, laidKinds := [.data, .data, .data, .data, .sentinel, .sentinel, .pinned], laidTests := true, laidLooks := .later }
def AddrCanonUptoCardSaid : Prop := Claim7.holds Tryd.pinned (.plain (OpenSpec.upto addrCanonSpec)) addrCanonUptoCard
end Rows
end Go.Proofs.YtpaocfjpnajonaaDoor
