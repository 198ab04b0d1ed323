/-
  No cell of these rows narrows 'for every input' (looked for: loops, veiled, ifaces, maps, wideKeys, modest, calm, conditions, laid).
  DERIVED. THE GIVEN ROWS OF THIS SEAT. 6 by the template 'for every input the law returns true; each argument reads behind the call as it read before'; 0 by the template 'total and deterministic' (their statements: YtjedfgflkhchiaaTotals.lean).
  GIVEN WITH THE SEED: the statements are not yours to turn. If you find one false, say at which input.
  Laid BY PROGRAM, IN A SANDBOX (cutbox-rows.mjs): the forced cells as the released guide's own fill.sh prints them over the translation 09066f8cc16a5400… (all of the seat's roots in one cut). By AI agents, Wed Nov 11 2026. No macro, syntax, notation, axiom, sorry.
-/
import Derived.Test.YtjedfgflkhchiaaChecked
import GoSem.Claim
import GoSem.ClaimJoined
import GoSem.ClaimMapViews
import Derived.JoinedTies
import Derived.KernelRfl
namespace Go.Proofs.Ytjedfgflkhchiaa
/- THE CELL 'sum', in the pinned program and in every row, IS THE sha256 OF THE DUMP (.gsa) THAT YtjedfgflkhchiaaProg.lean LOADS. Nothing in Lean hashes anything: it is a label: what it is worth is what the hold of that sum in a sandbox is worth. -/
noncomputable def Try.pinned : Pinned := { name := "ytjedfgflkhchiaa", sum := "09066f8cc16a54005b5709287a347aa8712d98078ca3c4ed76495a4c0c833679", checked := Try.checked }
namespace Rows
def none {H : Type} : Left H := { results := [], args := [] }

/-- 'nameplatelaw06.HeaderNames': WHATEVER THE INPUT: true; the input reads as it did. -/
def headerNamesSpec : ChangeSpec := { name := "headerNames", fn := fun _ => fun
  | [] => { results := [.lit (.bool true)], args := [] }
  | _ => none }
def headerNamesRow : OpenClaim := { program := "ytjedfgflkhchiaa", sum := "09066f8cc16a54005b5709287a347aa8712d98078ca3c4ed76495a4c0c833679", func := "nameplate/nameplatelaw06.HeaderNames", spec := "headerNames", apart := false }
def HeaderNamesSaid : Prop := headerNamesRow.holds Try.pinned (OpenSpec.ofChange headerNamesSpec)

/-- ITS FALSE NEIGHBOUR: 'it returns false'. Refute it at one input. -/
def headerNamesWrong : ChangeSpec := { name := "headerNames", fn := fun _ => fun
  | [] => { results := [.lit (.bool false)], args := [] }
  | _ => none }
def HeaderNamesWrongFalsely : Prop := headerNamesRow.holds Try.pinned (OpenSpec.ofChange headerNamesWrong)

/-- 'nameplatelaw06.HeaderCalls': WHATEVER THE INPUT: true; the input reads as it did. -/
def headerCallsSpec : ChangeSpec := { name := "headerCalls", fn := fun _ => fun
  | [d1, d2, d3] => { results := [.lit (.bool true)], args := [d1, d2, d3] }
  | _ => none }
def headerCallsRow : OpenClaim := { program := "ytjedfgflkhchiaa", sum := "09066f8cc16a54005b5709287a347aa8712d98078ca3c4ed76495a4c0c833679", func := "nameplate/nameplatelaw06.HeaderCalls", spec := "headerCalls", apart := false }
def HeaderCallsSaid : Prop := headerCallsRow.holds Try.pinned (OpenSpec.ofChange headerCallsSpec)

/-- ITS FALSE NEIGHBOUR: 'it returns false'. Refute it at one input. -/
def headerCallsWrong : ChangeSpec := { name := "headerCalls", fn := fun _ => fun
  | [d1, d2, d3] => { results := [.lit (.bool false)], args := [d1, d2, d3] }
  | _ => none }
def HeaderCallsWrongFalsely : Prop := headerCallsRow.holds Try.pinned (OpenSpec.ofChange headerCallsWrong)

/-- 'nameplatelaw06.HeaderBack': WHATEVER THE INPUT: true; the input reads as it did. -/
def headerBackSpec : ChangeSpec := { name := "headerBack", fn := fun _ => fun
  | [d1, d2, d3] => { results := [.lit (.bool true)], args := [d1, d2, d3] }
  | _ => none }
def headerBackRow : OpenClaim := { program := "ytjedfgflkhchiaa", sum := "09066f8cc16a54005b5709287a347aa8712d98078ca3c4ed76495a4c0c833679", func := "nameplate/nameplatelaw06.HeaderBack", spec := "headerBack", apart := false }
def HeaderBackSaid : Prop := headerBackRow.holds Try.pinned (OpenSpec.ofChange headerBackSpec)

/-- ITS FALSE NEIGHBOUR: 'it returns false'. Refute it at one input. -/
def headerBackWrong : ChangeSpec := { name := "headerBack", fn := fun _ => fun
  | [d1, d2, d3] => { results := [.lit (.bool false)], args := [d1, d2, d3] }
  | _ => none }
def HeaderBackWrongFalsely : Prop := headerBackRow.holds Try.pinned (OpenSpec.ofChange headerBackWrong)

/-- 'nameplatelaw06.HeaderReply': WHATEVER THE INPUT: true; the input reads as it did. -/
def headerReplySpec : ChangeSpec := { name := "headerReply", fn := fun _ => fun
  | [d1, d2] => { results := [.lit (.bool true)], args := [d1, d2] }
  | _ => none }
def headerReplyRow : OpenClaim := { program := "ytjedfgflkhchiaa", sum := "09066f8cc16a54005b5709287a347aa8712d98078ca3c4ed76495a4c0c833679", func := "nameplate/nameplatelaw06.HeaderReply", spec := "headerReply", apart := false }
def HeaderReplySaid : Prop := headerReplyRow.holds Try.pinned (OpenSpec.ofChange headerReplySpec)

/-- ITS FALSE NEIGHBOUR: 'it returns false'. Refute it at one input. -/
def headerReplyWrong : ChangeSpec := { name := "headerReply", fn := fun _ => fun
  | [d1, d2] => { results := [.lit (.bool false)], args := [d1, d2] }
  | _ => none }
def HeaderReplyWrongFalsely : Prop := headerReplyRow.holds Try.pinned (OpenSpec.ofChange headerReplyWrong)

/-- 'nameplatelaw06.HeaderBits': WHATEVER THE INPUT: true; the input reads as it did. -/
def headerBitsSpec : ChangeSpec := { name := "headerBits", fn := fun _ => fun
  | [d] => { results := [.lit (.bool true)], args := [d] }
  | _ => none }
def headerBitsRow : OpenClaim := { program := "ytjedfgflkhchiaa", sum := "09066f8cc16a54005b5709287a347aa8712d98078ca3c4ed76495a4c0c833679", func := "nameplate/nameplatelaw06.HeaderBits", spec := "headerBits", apart := false }
def HeaderBitsSaid : Prop := headerBitsRow.holds Try.pinned (OpenSpec.ofChange headerBitsSpec)

/-- ITS FALSE NEIGHBOUR: 'it returns false'. Refute it at one input. -/
def headerBitsWrong : ChangeSpec := { name := "headerBits", fn := fun _ => fun
  | [d] => { results := [.lit (.bool false)], args := [d] }
  | _ => none }
def HeaderBitsWrongFalsely : Prop := headerBitsRow.holds Try.pinned (OpenSpec.ofChange headerBitsWrong)

/-- 'nameplatelaw06.HeaderUnlike': WHATEVER THE INPUT: true; the input reads as it did. -/
def headerUnlikeSpec : ChangeSpec := { name := "headerUnlike", fn := fun _ => fun
  | [d1, d2, d3] => { results := [.lit (.bool true)], args := [d1, d2, d3] }
  | _ => none }
def headerUnlikeRow : OpenClaim := { program := "ytjedfgflkhchiaa", sum := "09066f8cc16a54005b5709287a347aa8712d98078ca3c4ed76495a4c0c833679", func := "nameplate/nameplatelaw06.HeaderUnlike", spec := "headerUnlike", apart := false }
def HeaderUnlikeSaid : Prop := headerUnlikeRow.holds Try.pinned (OpenSpec.ofChange headerUnlikeSpec)

/-- ITS FALSE NEIGHBOUR: 'it returns false'. Refute it at one input. -/
def headerUnlikeWrong : ChangeSpec := { name := "headerUnlike", fn := fun _ => fun
  | [d1, d2, d3] => { results := [.lit (.bool false)], args := [d1, d2, d3] }
  | _ => none }
def HeaderUnlikeWrongFalsely : Prop := headerUnlikeRow.holds Try.pinned (OpenSpec.ofChange headerUnlikeWrong)

/- THE SECOND FORM. 'bulk': how many values and letters a reading holds, each counted each time it is reached (what is shared counts as often as it is met; a slice's spare places count too). A statement '..UptoSaid' is the law's where the arguments, and the package variables that the reading takes, are together of bulk at most 1048576: NARROWER than '..Said'. Prove '..Said' where nothing that the law and all that it calls make is longer than what came in: it says more and counts as full. Else prove '..UptoSaid'. A law counts once. -/
mutual
def uptoBulk {H : Type} : DataW H → Nat
  | .lit (.string bytes) => bytes.length + 1
  | .lit _ => 1
  | .nil => 1
  | .ptr d => uptoBulk d + 1
  | .slice elems spare => uptoBulkAll elems + uptoBulkAll spare + 1
  | .agg parts => uptoBulkAll parts + 1
  | .iface _ d => uptoBulk d + 1
  | .map entries => uptoBulkEntries entries + 1
  | .held _ => 1
def uptoBulkAll {H : Type} : List (DataW H) → Nat
  | [] => 0
  | d :: r => uptoBulk d + uptoBulkAll r
def uptoBulkEntries {H : Type} : List (Lit × DataW H) → Nat
  | [] => 0
  | x :: r => uptoBulkEntry x + uptoBulkEntries r
def uptoBulkEntry {H : Type} : Lit × DataW H → Nat
  | (.string bytes, d) => bytes.length + uptoBulk d + 1
  | (_, d) => uptoBulk d + 1
 end
def uptoSmall : (H : Type) → List (DataW H) → Bool := fun _ ds => decide (uptoBulkAll ds ≤ 1048576)
def OpenSpec.upto (s : _root_.Go.ChangeSpec) : _root_.Go.OpenSpec := { _root_.Go.OpenSpec.ofChange s with cond := some uptoSmall }

/-- 'nameplatelaw06.HeaderNames', WHERE WHAT IT READS IS OF BULK AT MOST 1048576: true; the input reads as it did. -/
def headerNamesUptoRow : OpenClaim := { program := "ytjedfgflkhchiaa", sum := "09066f8cc16a54005b5709287a347aa8712d98078ca3c4ed76495a4c0c833679", func := "nameplate/nameplatelaw06.HeaderNames", spec := "headerNames", apart := false, narrowed := true }
def HeaderNamesUptoSaid : Prop := headerNamesUptoRow.holds Try.pinned (OpenSpec.upto headerNamesSpec)

/-- 'nameplatelaw06.HeaderCalls', WHERE WHAT IT READS IS OF BULK AT MOST 1048576: true; the input reads as it did. -/
def headerCallsUptoRow : OpenClaim := { program := "ytjedfgflkhchiaa", sum := "09066f8cc16a54005b5709287a347aa8712d98078ca3c4ed76495a4c0c833679", func := "nameplate/nameplatelaw06.HeaderCalls", spec := "headerCalls", apart := false, narrowed := true }
def HeaderCallsUptoSaid : Prop := headerCallsUptoRow.holds Try.pinned (OpenSpec.upto headerCallsSpec)

/-- 'nameplatelaw06.HeaderBack', WHERE WHAT IT READS IS OF BULK AT MOST 1048576: true; the input reads as it did. -/
def headerBackUptoRow : OpenClaim := { program := "ytjedfgflkhchiaa", sum := "09066f8cc16a54005b5709287a347aa8712d98078ca3c4ed76495a4c0c833679", func := "nameplate/nameplatelaw06.HeaderBack", spec := "headerBack", apart := false, narrowed := true }
def HeaderBackUptoSaid : Prop := headerBackUptoRow.holds Try.pinned (OpenSpec.upto headerBackSpec)

/-- 'nameplatelaw06.HeaderReply', WHERE WHAT IT READS IS OF BULK AT MOST 1048576: true; the input reads as it did. -/
def headerReplyUptoRow : OpenClaim := { program := "ytjedfgflkhchiaa", sum := "09066f8cc16a54005b5709287a347aa8712d98078ca3c4ed76495a4c0c833679", func := "nameplate/nameplatelaw06.HeaderReply", spec := "headerReply", apart := false, narrowed := true }
def HeaderReplyUptoSaid : Prop := headerReplyUptoRow.holds Try.pinned (OpenSpec.upto headerReplySpec)

/-- 'nameplatelaw06.HeaderBits', WHERE WHAT IT READS IS OF BULK AT MOST 1048576: true; the input reads as it did. -/
def headerBitsUptoRow : OpenClaim := { program := "ytjedfgflkhchiaa", sum := "09066f8cc16a54005b5709287a347aa8712d98078ca3c4ed76495a4c0c833679", func := "nameplate/nameplatelaw06.HeaderBits", spec := "headerBits", apart := false, narrowed := true }
def HeaderBitsUptoSaid : Prop := headerBitsUptoRow.holds Try.pinned (OpenSpec.upto headerBitsSpec)

/-- 'nameplatelaw06.HeaderUnlike', WHERE WHAT IT READS IS OF BULK AT MOST 1048576: true; the input reads as it did. -/
def headerUnlikeUptoRow : OpenClaim := { program := "ytjedfgflkhchiaa", sum := "09066f8cc16a54005b5709287a347aa8712d98078ca3c4ed76495a4c0c833679", func := "nameplate/nameplatelaw06.HeaderUnlike", spec := "headerUnlike", apart := false, narrowed := true }
def HeaderUnlikeUptoSaid : Prop := headerUnlikeUptoRow.holds Try.pinned (OpenSpec.upto headerUnlikeSpec)

end Rows
end Go.Proofs.Ytjedfgflkhchiaa
