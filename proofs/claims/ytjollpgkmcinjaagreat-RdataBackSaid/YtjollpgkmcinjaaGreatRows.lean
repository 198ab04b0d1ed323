/-
  No cell of these rows narrows 'for every input' (looked for: loops, veiled, ifaces, maps, wideKeys, modest, calm, conditions, laid).
  DERIVED. THE GIVEN ROWS OF THIS SEAT. 3 by the template 'for every input the law returns true; each argument reads behind the call as it read before'; 0 by the template 'total and deterministic' (their statements: YtjollpgkmcinjaaGreatTotals.lean).
  GIVEN WITH THE SEED: the statements are not yours to turn. If you find one false, say at which input.
  Laid BY PROGRAM, IN A SANDBOX (cutbox-rows.mjs): the forced cells as the released guide's own fill.sh prints them over the translation 503a8cf0f59e7e9e… (all of the seat's roots in one cut). By AI agents, Wed Nov 11 2026. No macro, syntax, notation, axiom, sorry.
-/
import Derived.Test.YtjollpgkmcinjaaGreatChecked
import GoSem.Claim
import GoSem.ClaimJoined
import GoSem.ClaimMapViews
import Derived.JoinedTies
import Derived.KernelRfl
namespace Go.Proofs.YtjollpgkmcinjaaGreat
/- THE CELL 'sum', in the pinned program and in every row, IS THE sha256 OF THE DUMP (.gsa) THAT YtjollpgkmcinjaaGreatProg.lean LOADS. Nothing in Lean hashes anything: it is a label: what it is worth is what the hold of that sum in a sandbox is worth. -/
noncomputable def Tryz.pinned : Pinned := { name := "ytjollpgkmcinjaagreat", sum := "503a8cf0f59e7e9e64f1f4a1c29ba361e35860c6b7490537ef743977d5e0d876", checked := Tryz.checked }
namespace Rows
def none {H : Type} : Left H := { results := [], args := [] }

/-- 'nameplatelaw09.RdataBack': WHATEVER THE INPUT: true; the input reads as it did. -/
def rdataBackSpec : ChangeSpec := { name := "rdataBack", fn := fun _ => fun
  | [d1, d2, d3] => { results := [.lit (.bool true)], args := [d1, d2, d3] }
  | _ => none }
def rdataBackRow : OpenClaim := { program := "ytjollpgkmcinjaagreat", sum := "503a8cf0f59e7e9e64f1f4a1c29ba361e35860c6b7490537ef743977d5e0d876", func := "nameplate/nameplatelaw09.RdataBack", spec := "rdataBack", unfollowed := true, recurses := true, apart := false }
def RdataBackSaid : Prop := rdataBackRow.holds Tryz.pinned (OpenSpec.ofChange rdataBackSpec)

/-- ITS FALSE NEIGHBOUR: 'it returns false'. Refute it at one input. -/
def rdataBackWrong : ChangeSpec := { name := "rdataBack", fn := fun _ => fun
  | [d1, d2, d3] => { results := [.lit (.bool false)], args := [d1, d2, d3] }
  | _ => none }
def RdataBackWrongFalsely : Prop := rdataBackRow.holds Tryz.pinned (OpenSpec.ofChange rdataBackWrong)

/-- 'nameplatelaw09.RdataTexts': WHATEVER THE INPUT: true; the input reads as it did. -/
def rdataTextsSpec : ChangeSpec := { name := "rdataTexts", fn := fun _ => fun
  | [d1, d2] => { results := [.lit (.bool true)], args := [d1, d2] }
  | _ => none }
def rdataTextsRow : OpenClaim := { program := "ytjollpgkmcinjaagreat", sum := "503a8cf0f59e7e9e64f1f4a1c29ba361e35860c6b7490537ef743977d5e0d876", func := "nameplate/nameplatelaw09.RdataTexts", spec := "rdataTexts", unfollowed := true, recurses := true, apart := false }
def RdataTextsSaid : Prop := rdataTextsRow.holds Tryz.pinned (OpenSpec.ofChange rdataTextsSpec)

/-- ITS FALSE NEIGHBOUR: 'it returns false'. Refute it at one input. -/
def rdataTextsWrong : ChangeSpec := { name := "rdataTexts", fn := fun _ => fun
  | [d1, d2] => { results := [.lit (.bool false)], args := [d1, d2] }
  | _ => none }
def RdataTextsWrongFalsely : Prop := rdataTextsRow.holds Tryz.pinned (OpenSpec.ofChange rdataTextsWrong)

/-- 'nameplatelaw09.RdataUnlike': WHATEVER THE INPUT: true; the input reads as it did. -/
def rdataUnlikeSpec : ChangeSpec := { name := "rdataUnlike", fn := fun _ => fun
  | [d1, d2, d3] => { results := [.lit (.bool true)], args := [d1, d2, d3] }
  | _ => none }
def rdataUnlikeRow : OpenClaim := { program := "ytjollpgkmcinjaagreat", sum := "503a8cf0f59e7e9e64f1f4a1c29ba361e35860c6b7490537ef743977d5e0d876", func := "nameplate/nameplatelaw09.RdataUnlike", spec := "rdataUnlike", unfollowed := true, recurses := true, apart := false }
def RdataUnlikeSaid : Prop := rdataUnlikeRow.holds Tryz.pinned (OpenSpec.ofChange rdataUnlikeSpec)

/-- ITS FALSE NEIGHBOUR: 'it returns false'. Refute it at one input. -/
def rdataUnlikeWrong : ChangeSpec := { name := "rdataUnlike", fn := fun _ => fun
  | [d1, d2, d3] => { results := [.lit (.bool false)], args := [d1, d2, d3] }
  | _ => none }
def RdataUnlikeWrongFalsely : Prop := rdataUnlikeRow.holds Tryz.pinned (OpenSpec.ofChange rdataUnlikeWrong)

/- THE SECOND FORM. 'bulk': how many values and letters a reading holds, each counted each time it is reached (what is shared counts as often as it is met; a slice's spare places count too). A statement '..UptoSaid' is the law's where the arguments, and the package variables that the reading takes, are together of bulk at most 1048576: NARROWER than '..Said'. Prove '..Said' where nothing that the law and all that it calls make is longer than what came in: it says more and counts as full. Else prove '..UptoSaid'. A law counts once. -/
mutual
def uptoBulk {H : Type} : DataW H → Nat
  | .lit (.string bytes) => bytes.length + 1
  | .lit _ => 1
  | .nil => 1
  | .ptr d => uptoBulk d + 1
  | .slice elems spare => uptoBulkAll elems + uptoBulkAll spare + 1
  | .agg parts => uptoBulkAll parts + 1
  | .iface _ d => uptoBulk d + 1
  | .map entries => uptoBulkEntries entries + 1
  | .held _ => 1
def uptoBulkAll {H : Type} : List (DataW H) → Nat
  | [] => 0
  | d :: r => uptoBulk d + uptoBulkAll r
def uptoBulkEntries {H : Type} : List (Lit × DataW H) → Nat
  | [] => 0
  | x :: r => uptoBulkEntry x + uptoBulkEntries r
def uptoBulkEntry {H : Type} : Lit × DataW H → Nat
  | (.string bytes, d) => bytes.length + uptoBulk d + 1
  | (_, d) => uptoBulk d + 1
 end
def uptoSmall : (H : Type) → List (DataW H) → Bool := fun _ ds => decide (uptoBulkAll ds ≤ 1048576)
def OpenSpec.upto (s : _root_.Go.ChangeSpec) : _root_.Go.OpenSpec := { _root_.Go.OpenSpec.ofChange s with cond := some uptoSmall }

/-- 'nameplatelaw09.RdataBack', WHERE WHAT IT READS IS OF BULK AT MOST 1048576: true; the input reads as it did. -/
def rdataBackUptoRow : OpenClaim := { program := "ytjollpgkmcinjaagreat", sum := "503a8cf0f59e7e9e64f1f4a1c29ba361e35860c6b7490537ef743977d5e0d876", func := "nameplate/nameplatelaw09.RdataBack", spec := "rdataBack", unfollowed := true, recurses := true, apart := false, narrowed := true }
def RdataBackUptoSaid : Prop := rdataBackUptoRow.holds Tryz.pinned (OpenSpec.upto rdataBackSpec)

/-- 'nameplatelaw09.RdataTexts', WHERE WHAT IT READS IS OF BULK AT MOST 1048576: true; the input reads as it did. -/
def rdataTextsUptoRow : OpenClaim := { program := "ytjollpgkmcinjaagreat", sum := "503a8cf0f59e7e9e64f1f4a1c29ba361e35860c6b7490537ef743977d5e0d876", func := "nameplate/nameplatelaw09.RdataTexts", spec := "rdataTexts", unfollowed := true, recurses := true, apart := false, narrowed := true }
def RdataTextsUptoSaid : Prop := rdataTextsUptoRow.holds Tryz.pinned (OpenSpec.upto rdataTextsSpec)

/-- 'nameplatelaw09.RdataUnlike', WHERE WHAT IT READS IS OF BULK AT MOST 1048576: true; the input reads as it did. -/
def rdataUnlikeUptoRow : OpenClaim := { program := "ytjollpgkmcinjaagreat", sum := "503a8cf0f59e7e9e64f1f4a1c29ba361e35860c6b7490537ef743977d5e0d876", func := "nameplate/nameplatelaw09.RdataUnlike", spec := "rdataUnlike", unfollowed := true, recurses := true, apart := false, narrowed := true }
def RdataUnlikeUptoSaid : Prop := rdataUnlikeUptoRow.holds Tryz.pinned (OpenSpec.upto rdataUnlikeSpec)

end Rows
end Go.Proofs.YtjollpgkmcinjaaGreat
