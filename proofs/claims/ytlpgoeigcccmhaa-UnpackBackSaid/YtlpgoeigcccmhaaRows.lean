/-
  No cell of these rows narrows 'for every input' (looked for: loops, veiled, ifaces, maps, wideKeys, modest, calm, conditions, laid).
  DERIVED. THE GIVEN ROWS OF THIS SEAT. 6 by the template 'for every input the law returns true; each argument reads behind the call as it read before'; 0 by the template 'total and deterministic' (their statements: YtlpgoeigcccmhaaTotals.lean).
  GIVEN WITH THE SEED: the statements are not yours to turn. If you find one false, say at which input.
  Laid BY PROGRAM, IN A SANDBOX (cutbox-rows.mjs): the forced cells as the released guide's own fill.sh prints them over the translation 989e0d113e805c8c… (all of the seat's roots in one cut). By AI agents, Wed Nov 11 2026. No macro, syntax, notation, axiom, sorry.
-/
import Derived.Test.YtlpgoeigcccmhaaChecked
import GoSem.Claim
import GoSem.ClaimJoined
import GoSem.ClaimMapViews
import Derived.JoinedTies
import Derived.KernelRfl
namespace Go.Proofs.Ytlpgoeigcccmhaa
/- THE CELL 'sum', in the pinned program and in every row, IS THE sha256 OF THE DUMP (.gsa) THAT YtlpgoeigcccmhaaProg.lean LOADS. Nothing in Lean hashes anything: it is a label: what it is worth is what the hold of that sum in a sandbox is worth. -/
noncomputable def Try.pinned : Pinned := { name := "ytlpgoeigcccmhaa", sum := "989e0d113e805c8ccafb9a92a74ae39f2cc14ead2b551ad9b1be8ac5b7b0b504", checked := Try.checked }
namespace Rows
def none {H : Type} : Left H := { results := [], args := [] }

/-- 'nameplatelaw07.PackBack': WHATEVER THE INPUT: true; the input reads as it did. -/
def packBackSpec : ChangeSpec := { name := "packBack", fn := fun _ => fun
  | [d1, d2, d3] => { results := [.lit (.bool true)], args := [d1, d2, d3] }
  | _ => none }
def packBackRow : OpenClaim := { program := "ytlpgoeigcccmhaa", sum := "989e0d113e805c8ccafb9a92a74ae39f2cc14ead2b551ad9b1be8ac5b7b0b504", func := "nameplate/nameplatelaw07.PackBack", spec := "packBack", unfollowed := true, recurses := true, apart := false }
def PackBackSaid : Prop := packBackRow.holds Try.pinned (OpenSpec.ofChange packBackSpec)

/-- ITS FALSE NEIGHBOUR: 'it returns false'. Refute it at one input. -/
def packBackWrong : ChangeSpec := { name := "packBack", fn := fun _ => fun
  | [d1, d2, d3] => { results := [.lit (.bool false)], args := [d1, d2, d3] }
  | _ => none }
def PackBackWrongFalsely : Prop := packBackRow.holds Try.pinned (OpenSpec.ofChange packBackWrong)

/-- 'nameplatelaw07.PackLengths': WHATEVER THE INPUT: true; the input reads as it did. -/
def packLengthsSpec : ChangeSpec := { name := "packLengths", fn := fun _ => fun
  | [d] => { results := [.lit (.bool true)], args := [d] }
  | _ => none }
def packLengthsRow : OpenClaim := { program := "ytlpgoeigcccmhaa", sum := "989e0d113e805c8ccafb9a92a74ae39f2cc14ead2b551ad9b1be8ac5b7b0b504", func := "nameplate/nameplatelaw07.PackLengths", spec := "packLengths", unfollowed := true, recurses := true, apart := false }
def PackLengthsSaid : Prop := packLengthsRow.holds Try.pinned (OpenSpec.ofChange packLengthsSpec)

/-- ITS FALSE NEIGHBOUR: 'it returns false'. Refute it at one input. -/
def packLengthsWrong : ChangeSpec := { name := "packLengths", fn := fun _ => fun
  | [d] => { results := [.lit (.bool false)], args := [d] }
  | _ => none }
def PackLengthsWrongFalsely : Prop := packLengthsRow.holds Try.pinned (OpenSpec.ofChange packLengthsWrong)

/-- 'nameplatelaw08.UnpackNames': WHATEVER THE INPUT: true; the input reads as it did. -/
def unpackNamesSpec : ChangeSpec := { name := "unpackNames", fn := fun _ => fun
  | [] => { results := [.lit (.bool true)], args := [] }
  | _ => none }
def unpackNamesRow : OpenClaim := { program := "ytlpgoeigcccmhaa", sum := "989e0d113e805c8ccafb9a92a74ae39f2cc14ead2b551ad9b1be8ac5b7b0b504", func := "nameplate/nameplatelaw08.UnpackNames", spec := "unpackNames", apart := false }
def UnpackNamesSaid : Prop := unpackNamesRow.holds Try.pinned (OpenSpec.ofChange unpackNamesSpec)

/-- ITS FALSE NEIGHBOUR: 'it returns false'. Refute it at one input. -/
def unpackNamesWrong : ChangeSpec := { name := "unpackNames", fn := fun _ => fun
  | [] => { results := [.lit (.bool false)], args := [] }
  | _ => none }
def UnpackNamesWrongFalsely : Prop := unpackNamesRow.holds Try.pinned (OpenSpec.ofChange unpackNamesWrong)

/-- 'nameplatelaw08.UnpackBounds': WHATEVER THE INPUT: true; the input reads as it did. -/
def unpackBoundsSpec : ChangeSpec := { name := "unpackBounds", fn := fun _ => fun
  | [d1, d2] => { results := [.lit (.bool true)], args := [d1, d2] }
  | _ => none }
def unpackBoundsRow : OpenClaim := { program := "ytlpgoeigcccmhaa", sum := "989e0d113e805c8ccafb9a92a74ae39f2cc14ead2b551ad9b1be8ac5b7b0b504", func := "nameplate/nameplatelaw08.UnpackBounds", spec := "unpackBounds", apart := false }
def UnpackBoundsSaid : Prop := unpackBoundsRow.holds Try.pinned (OpenSpec.ofChange unpackBoundsSpec)

/-- ITS FALSE NEIGHBOUR: 'it returns false'. Refute it at one input. -/
def unpackBoundsWrong : ChangeSpec := { name := "unpackBounds", fn := fun _ => fun
  | [d1, d2] => { results := [.lit (.bool false)], args := [d1, d2] }
  | _ => none }
def UnpackBoundsWrongFalsely : Prop := unpackBoundsRow.holds Try.pinned (OpenSpec.ofChange unpackBoundsWrong)

/-- 'nameplatelaw08.UnpackBack': WHATEVER THE INPUT: true; the input reads as it did. -/
def unpackBackSpec : ChangeSpec := { name := "unpackBack", fn := fun _ => fun
  | [d] => { results := [.lit (.bool true)], args := [d] }
  | _ => none }
def unpackBackRow : OpenClaim := { program := "ytlpgoeigcccmhaa", sum := "989e0d113e805c8ccafb9a92a74ae39f2cc14ead2b551ad9b1be8ac5b7b0b504", func := "nameplate/nameplatelaw08.UnpackBack", spec := "unpackBack", apart := false }
def UnpackBackSaid : Prop := unpackBackRow.holds Try.pinned (OpenSpec.ofChange unpackBackSpec)

/-- ITS FALSE NEIGHBOUR: 'it returns false'. Refute it at one input. -/
def unpackBackWrong : ChangeSpec := { name := "unpackBack", fn := fun _ => fun
  | [d] => { results := [.lit (.bool false)], args := [d] }
  | _ => none }
def UnpackBackWrongFalsely : Prop := unpackBackRow.holds Try.pinned (OpenSpec.ofChange unpackBackWrong)

/-- 'nameplatelaw08.UnpackForward': WHATEVER THE INPUT: true; the input reads as it did. -/
def unpackForwardSpec : ChangeSpec := { name := "unpackForward", fn := fun _ => fun
  | [d1, d2, d3] => { results := [.lit (.bool true)], args := [d1, d2, d3] }
  | _ => none }
def unpackForwardRow : OpenClaim := { program := "ytlpgoeigcccmhaa", sum := "989e0d113e805c8ccafb9a92a74ae39f2cc14ead2b551ad9b1be8ac5b7b0b504", func := "nameplate/nameplatelaw08.UnpackForward", spec := "unpackForward", apart := false }
def UnpackForwardSaid : Prop := unpackForwardRow.holds Try.pinned (OpenSpec.ofChange unpackForwardSpec)

/-- ITS FALSE NEIGHBOUR: 'it returns false'. Refute it at one input. -/
def unpackForwardWrong : ChangeSpec := { name := "unpackForward", fn := fun _ => fun
  | [d1, d2, d3] => { results := [.lit (.bool false)], args := [d1, d2, d3] }
  | _ => none }
def UnpackForwardWrongFalsely : Prop := unpackForwardRow.holds Try.pinned (OpenSpec.ofChange unpackForwardWrong)

/- THE SECOND FORM. 'bulk': how many values and letters a reading holds, each counted each time it is reached (what is shared counts as often as it is met; a slice's spare places count too). A statement '..UptoSaid' is the law's where the arguments, and the package variables that the reading takes, are together of bulk at most 1048576: NARROWER than '..Said'. Prove '..Said' where nothing that the law and all that it calls make is longer than what came in: it says more and counts as full. Else prove '..UptoSaid'. A law counts once. -/
mutual
def uptoBulk {H : Type} : DataW H → Nat
  | .lit (.string bytes) => bytes.length + 1
  | .lit _ => 1
  | .nil => 1
  | .ptr d => uptoBulk d + 1
  | .slice elems spare => uptoBulkAll elems + uptoBulkAll spare + 1
  | .agg parts => uptoBulkAll parts + 1
  | .iface _ d => uptoBulk d + 1
  | .map entries => uptoBulkEntries entries + 1
  | .held _ => 1
def uptoBulkAll {H : Type} : List (DataW H) → Nat
  | [] => 0
  | d :: r => uptoBulk d + uptoBulkAll r
def uptoBulkEntries {H : Type} : List (Lit × DataW H) → Nat
  | [] => 0
  | x :: r => uptoBulkEntry x + uptoBulkEntries r
def uptoBulkEntry {H : Type} : Lit × DataW H → Nat
  | (.string bytes, d) => bytes.length + uptoBulk d + 1
  | (_, d) => uptoBulk d + 1
 end
def uptoSmall : (H : Type) → List (DataW H) → Bool := fun _ ds => decide (uptoBulkAll ds ≤ 1048576)
def OpenSpec.upto (s : _root_.Go.ChangeSpec) : _root_.Go.OpenSpec := { _root_.Go.OpenSpec.ofChange s with cond := some uptoSmall }

/-- 'nameplatelaw07.PackBack', WHERE WHAT IT READS IS OF BULK AT MOST 1048576: true; the input reads as it did. -/
def packBackUptoRow : OpenClaim := { program := "ytlpgoeigcccmhaa", sum := "989e0d113e805c8ccafb9a92a74ae39f2cc14ead2b551ad9b1be8ac5b7b0b504", func := "nameplate/nameplatelaw07.PackBack", spec := "packBack", unfollowed := true, recurses := true, apart := false, narrowed := true }
def PackBackUptoSaid : Prop := packBackUptoRow.holds Try.pinned (OpenSpec.upto packBackSpec)

/-- 'nameplatelaw07.PackLengths', WHERE WHAT IT READS IS OF BULK AT MOST 1048576: true; the input reads as it did. -/
def packLengthsUptoRow : OpenClaim := { program := "ytlpgoeigcccmhaa", sum := "989e0d113e805c8ccafb9a92a74ae39f2cc14ead2b551ad9b1be8ac5b7b0b504", func := "nameplate/nameplatelaw07.PackLengths", spec := "packLengths", unfollowed := true, recurses := true, apart := false, narrowed := true }
def PackLengthsUptoSaid : Prop := packLengthsUptoRow.holds Try.pinned (OpenSpec.upto packLengthsSpec)

/-- 'nameplatelaw08.UnpackNames', WHERE WHAT IT READS IS OF BULK AT MOST 1048576: true; the input reads as it did. -/
def unpackNamesUptoRow : OpenClaim := { program := "ytlpgoeigcccmhaa", sum := "989e0d113e805c8ccafb9a92a74ae39f2cc14ead2b551ad9b1be8ac5b7b0b504", func := "nameplate/nameplatelaw08.UnpackNames", spec := "unpackNames", apart := false, narrowed := true }
def UnpackNamesUptoSaid : Prop := unpackNamesUptoRow.holds Try.pinned (OpenSpec.upto unpackNamesSpec)

/-- 'nameplatelaw08.UnpackBounds', WHERE WHAT IT READS IS OF BULK AT MOST 1048576: true; the input reads as it did. -/
def unpackBoundsUptoRow : OpenClaim := { program := "ytlpgoeigcccmhaa", sum := "989e0d113e805c8ccafb9a92a74ae39f2cc14ead2b551ad9b1be8ac5b7b0b504", func := "nameplate/nameplatelaw08.UnpackBounds", spec := "unpackBounds", apart := false, narrowed := true }
def UnpackBoundsUptoSaid : Prop := unpackBoundsUptoRow.holds Try.pinned (OpenSpec.upto unpackBoundsSpec)

/-- 'nameplatelaw08.UnpackBack', WHERE WHAT IT READS IS OF BULK AT MOST 1048576: true; the input reads as it did. -/
def unpackBackUptoRow : OpenClaim := { program := "ytlpgoeigcccmhaa", sum := "989e0d113e805c8ccafb9a92a74ae39f2cc14ead2b551ad9b1be8ac5b7b0b504", func := "nameplate/nameplatelaw08.UnpackBack", spec := "unpackBack", apart := false, narrowed := true }
def UnpackBackUptoSaid : Prop := unpackBackUptoRow.holds Try.pinned (OpenSpec.upto unpackBackSpec)

/-- 'nameplatelaw08.UnpackForward', WHERE WHAT IT READS IS OF BULK AT MOST 1048576: true; the input reads as it did. -/
def unpackForwardUptoRow : OpenClaim := { program := "ytlpgoeigcccmhaa", sum := "989e0d113e805c8ccafb9a92a74ae39f2cc14ead2b551ad9b1be8ac5b7b0b504", func := "nameplate/nameplatelaw08.UnpackForward", spec := "unpackForward", apart := false, narrowed := true }
def UnpackForwardUptoSaid : Prop := unpackForwardUptoRow.holds Try.pinned (OpenSpec.upto unpackForwardSpec)

end Rows
end Go.Proofs.Ytlpgoeigcccmhaa
