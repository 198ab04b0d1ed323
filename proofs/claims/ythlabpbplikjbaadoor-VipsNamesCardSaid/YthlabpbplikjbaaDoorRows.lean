/-
  NARROWER THAN 'FOR EVERY INPUT', by the rows' own cells (each row's printed sentence says how): VipsNames: laid · VipsNil: laid · VipsTwice: laid · VipsFills: laid.
  DERIVED. THE GIVEN ROWS OF THIS SEAT. 4 by the template 'for every input the law returns true; each argument reads behind the call as it read before'; 0 by the template 'total and deterministic' (their statements: YthlabpbplikjbaaDoorTotals.lean).
  GIVEN WITH THE SEED: the statements are not yours to turn. If you find one false, say at which input.
  Laid BY PROGRAM, IN A SANDBOX (cutbox-rows.mjs): the forced cells as the released guide's own fill.sh prints them over the translation 8cabf314c58bfc78… (all of the seat's roots in one cut). By AI agents, Wed Nov 11 2026. No macro, syntax, notation, axiom, sorry.
-/
import Derived.Test.YthlabpbplikjbaaDoorChecked
import GoSem.Claim
import GoSem.ClaimJoined
import GoSem.ClaimMapViews
import Derived.JoinedTies
import Derived.KernelRfl
namespace Go.Proofs.YthlabpbplikjbaaDoor
/- THE CELL 'sum', in the pinned program and in every row, IS THE sha256 OF THE DUMP (.gsa) THAT YthlabpbplikjbaaDoorProg.lean LOADS. Nothing in Lean hashes anything: it is a label: what it is worth is what the hold of that sum in a sandbox is worth. -/
noncomputable def Tryd.pinned : Pinned := { name := "ythlabpbplikjbaadoor", sum := "8cabf314c58bfc78220dae0a34debd72c569614562920b98c31ea9a5877b2a28", checked := Tryd.checked }
namespace Rows
def none {H : Type} : Left H := { results := [], args := [] }

/- WHAT THE LISTED PACKAGE-LEVEL VARIABLES READ AS WHEN THE CALL BEGINS. Each datum BY PROGRAM (the guide's laid-datum.mjs) off the statement by which the dump's own 'gosem.cut.vars' lays the variable. In a bare row this is a premise. The card (YthlabpbplikjbaaDoorCards.lean) ties it to the program's text. -/
def laid_math_bits_deBruijn32tab {H : Type} : DataW H := .agg [.lit (.int .u8 0), .lit (.int .u8 1), .lit (.int .u8 28), .lit (.int .u8 2), .lit (.int .u8 29), .lit (.int .u8 14), .lit (.int .u8 24), .lit (.int .u8 3), .lit (.int .u8 30), .lit (.int .u8 22), .lit (.int .u8 20), .lit (.int .u8 15), .lit (.int .u8 25), .lit (.int .u8 17), .lit (.int .u8 4), .lit (.int .u8 8), .lit (.int .u8 31), .lit (.int .u8 27), .lit (.int .u8 13), .lit (.int .u8 23), .lit (.int .u8 21), .lit (.int .u8 19), .lit (.int .u8 16), .lit (.int .u8 7), .lit (.int .u8 26), .lit (.int .u8 12), .lit (.int .u8 18), .lit (.int .u8 6), .lit (.int .u8 11), .lit (.int .u8 5), .lit (.int .u8 10), .lit (.int .u8 9)]
def laid_math_bits_deBruijn64tab {H : Type} : DataW H := .agg [.lit (.int .u8 0), .lit (.int .u8 1), .lit (.int .u8 56), .lit (.int .u8 2), .lit (.int .u8 57), .lit (.int .u8 49), .lit (.int .u8 28), .lit (.int .u8 3), .lit (.int .u8 61), .lit (.int .u8 58), .lit (.int .u8 42), .lit (.int .u8 50), .lit (.int .u8 38), .lit (.int .u8 29), .lit (.int .u8 17), .lit (.int .u8 4), .lit (.int .u8 62), .lit (.int .u8 47), .lit (.int .u8 59), .lit (.int .u8 36), .lit (.int .u8 45), .lit (.int .u8 43), .lit (.int .u8 51), .lit (.int .u8 22), .lit (.int .u8 53), .lit (.int .u8 39), .lit (.int .u8 33), .lit (.int .u8 30), .lit (.int .u8 24), .lit (.int .u8 18), .lit (.int .u8 12), .lit (.int .u8 5), .lit (.int .u8 63), .lit (.int .u8 55), .lit (.int .u8 48), .lit (.int .u8 27), .lit (.int .u8 60), .lit (.int .u8 41), .lit (.int .u8 37), .lit (.int .u8 16), .lit (.int .u8 46), .lit (.int .u8 35), .lit (.int .u8 44), .lit (.int .u8 21), .lit (.int .u8 52), .lit (.int .u8 32), .lit (.int .u8 23), .lit (.int .u8 11), .lit (.int .u8 54), .lit (.int .u8 26), .lit (.int .u8 40), .lit (.int .u8 15), .lit (.int .u8 34), .lit (.int .u8 20), .lit (.int .u8 31), .lit (.int .u8 10), .lit (.int .u8 25), .lit (.int .u8 14), .lit (.int .u8 19), .lit (.int .u8 9), .lit (.int .u8 13), .lit (.int .u8 8), .lit (.int .u8 7), .lit (.int .u8 6)]

/-- 'nameplatelaw14.VipsNames': WHATEVER THE INPUT: true; the input reads as it did. -/
def vipsNamesSpec : ChangeSpec := { name := "vipsNames", fn := fun _ => fun
  | [] => { results := [.lit (.bool true)], args := [] }
  | _ => none }
def vipsNamesRow : OpenClaim := { program := "ythlabpbplikjbaadoor", sum := "8cabf314c58bfc78220dae0a34debd72c569614562920b98c31ea9a5877b2a28", func := "nameplate/nameplatelaw14.VipsNames", spec := "vipsNames", inPlace := ["math/bits.Add64", "maps.clone"], unfollowed := true, recurses := true, named := ["math/bits.deBruijn32tab", "math/bits.deBruijn64tab"], plainKeys := false, apart := false, laid := [("math/bits.deBruijn32tab", laid_math_bits_deBruijn32tab), ("math/bits.deBruijn64tab", laid_math_bits_deBruijn64tab)] }
def VipsNamesSaid : Prop := vipsNamesRow.holds Tryd.pinned (OpenSpec.ofChange vipsNamesSpec)

/-- ITS FALSE NEIGHBOUR: 'it returns false'. Refute it at one input. -/
def vipsNamesWrong : ChangeSpec := { name := "vipsNames", fn := fun _ => fun
  | [] => { results := [.lit (.bool false)], args := [] }
  | _ => none }
def VipsNamesWrongFalsely : Prop := vipsNamesRow.holds Tryd.pinned (OpenSpec.ofChange vipsNamesWrong)

/-- 'nameplatelaw14.VipsNil': WHATEVER THE INPUT: true; the input reads as it did. -/
def vipsNilSpec : ChangeSpec := { name := "vipsNil", fn := fun _ => fun
  | [d1, d2] => { results := [.lit (.bool true)], args := [d1, d2] }
  | _ => none }
def vipsNilRow : OpenClaim := { program := "ythlabpbplikjbaadoor", sum := "8cabf314c58bfc78220dae0a34debd72c569614562920b98c31ea9a5877b2a28", func := "nameplate/nameplatelaw14.VipsNil", spec := "vipsNil", inPlace := ["math/bits.Add64", "maps.clone"], unfollowed := true, recurses := true, named := ["math/bits.deBruijn32tab", "math/bits.deBruijn64tab"], plainKeys := false, apart := false, laid := [("math/bits.deBruijn32tab", laid_math_bits_deBruijn32tab), ("math/bits.deBruijn64tab", laid_math_bits_deBruijn64tab)] }
def VipsNilSaid : Prop := vipsNilRow.holds Tryd.pinned (OpenSpec.ofChange vipsNilSpec)

/-- ITS FALSE NEIGHBOUR: 'it returns false'. Refute it at one input. -/
def vipsNilWrong : ChangeSpec := { name := "vipsNil", fn := fun _ => fun
  | [d1, d2] => { results := [.lit (.bool false)], args := [d1, d2] }
  | _ => none }
def VipsNilWrongFalsely : Prop := vipsNilRow.holds Tryd.pinned (OpenSpec.ofChange vipsNilWrong)

/-- 'nameplatelaw14.VipsTwice': WHATEVER THE INPUT: true; the input reads as it did. -/
def vipsTwiceSpec : ChangeSpec := { name := "vipsTwice", fn := fun _ => fun
  | [d1, d2] => { results := [.lit (.bool true)], args := [d1, d2] }
  | _ => none }
def vipsTwiceRow : OpenClaim := { program := "ythlabpbplikjbaadoor", sum := "8cabf314c58bfc78220dae0a34debd72c569614562920b98c31ea9a5877b2a28", func := "nameplate/nameplatelaw14.VipsTwice", spec := "vipsTwice", inPlace := ["math/bits.Add64", "maps.clone"], unfollowed := true, recurses := true, named := ["math/bits.deBruijn32tab", "math/bits.deBruijn64tab"], plainKeys := false, apart := false, laid := [("math/bits.deBruijn32tab", laid_math_bits_deBruijn32tab), ("math/bits.deBruijn64tab", laid_math_bits_deBruijn64tab)] }
def VipsTwiceSaid : Prop := vipsTwiceRow.holds Tryd.pinned (OpenSpec.ofChange vipsTwiceSpec)

/-- ITS FALSE NEIGHBOUR: 'it returns false'. Refute it at one input. -/
def vipsTwiceWrong : ChangeSpec := { name := "vipsTwice", fn := fun _ => fun
  | [d1, d2] => { results := [.lit (.bool false)], args := [d1, d2] }
  | _ => none }
def VipsTwiceWrongFalsely : Prop := vipsTwiceRow.holds Tryd.pinned (OpenSpec.ofChange vipsTwiceWrong)

/-- 'nameplatelaw14.VipsFills': WHATEVER THE INPUT: true; the input reads as it did. -/
def vipsFillsSpec : ChangeSpec := { name := "vipsFills", fn := fun _ => fun
  | [d] => { results := [.lit (.bool true)], args := [d] }
  | _ => none }
def vipsFillsRow : OpenClaim := { program := "ythlabpbplikjbaadoor", sum := "8cabf314c58bfc78220dae0a34debd72c569614562920b98c31ea9a5877b2a28", func := "nameplate/nameplatelaw14.VipsFills", spec := "vipsFills", inPlace := ["math/bits.Add64"], unfollowed := true, recurses := true, named := ["math/bits.deBruijn32tab", "math/bits.deBruijn64tab"], plainKeys := false, apart := false, laid := [("math/bits.deBruijn32tab", laid_math_bits_deBruijn32tab), ("math/bits.deBruijn64tab", laid_math_bits_deBruijn64tab)] }
def VipsFillsSaid : Prop := vipsFillsRow.holds Tryd.pinned (OpenSpec.ofChange vipsFillsSpec)

/-- ITS FALSE NEIGHBOUR: 'it returns false'. Refute it at one input. -/
def vipsFillsWrong : ChangeSpec := { name := "vipsFills", fn := fun _ => fun
  | [d] => { results := [.lit (.bool false)], args := [d] }
  | _ => none }
def VipsFillsWrongFalsely : Prop := vipsFillsRow.holds Tryd.pinned (OpenSpec.ofChange vipsFillsWrong)

/- THE SECOND FORM. 'bulk': how many values and letters a reading holds, each counted each time it is reached (what is shared counts as often as it is met; a slice's spare places count too). A statement '..UptoSaid' is the law's where the arguments, and the package variables that the reading takes, are together of bulk at most 1048576: NARROWER than '..Said'. Prove '..Said' where nothing that the law and all that it calls make is longer than what came in: it says more and counts as full. Else prove '..UptoSaid'. A law counts once. -/
mutual
def uptoBulk {H : Type} : DataW H → Nat
  | .lit (.string bytes) => bytes.length + 1
  | .lit _ => 1
  | .nil => 1
  | .ptr d => uptoBulk d + 1
  | .slice elems spare => uptoBulkAll elems + uptoBulkAll spare + 1
  | .agg parts => uptoBulkAll parts + 1
  | .iface _ d => uptoBulk d + 1
  | .map entries => uptoBulkEntries entries + 1
  | .held _ => 1
def uptoBulkAll {H : Type} : List (DataW H) → Nat
  | [] => 0
  | d :: r => uptoBulk d + uptoBulkAll r
def uptoBulkEntries {H : Type} : List (Lit × DataW H) → Nat
  | [] => 0
  | x :: r => uptoBulkEntry x + uptoBulkEntries r
def uptoBulkEntry {H : Type} : Lit × DataW H → Nat
  | (.string bytes, d) => bytes.length + uptoBulk d + 1
  | (_, d) => uptoBulk d + 1
 end
def uptoSmall : (H : Type) → List (DataW H) → Bool := fun _ ds => decide (uptoBulkAll ds ≤ 1048576)
def OpenSpec.upto (s : _root_.Go.ChangeSpec) : _root_.Go.OpenSpec := { _root_.Go.OpenSpec.ofChange s with cond := some uptoSmall }

/-- 'nameplatelaw14.VipsNames', WHERE WHAT IT READS IS OF BULK AT MOST 1048576: true; the input reads as it did. -/
def vipsNamesUptoRow : OpenClaim := { program := "ythlabpbplikjbaadoor", sum := "8cabf314c58bfc78220dae0a34debd72c569614562920b98c31ea9a5877b2a28", func := "nameplate/nameplatelaw14.VipsNames", spec := "vipsNames", inPlace := ["math/bits.Add64", "maps.clone"], unfollowed := true, recurses := true, named := ["math/bits.deBruijn32tab", "math/bits.deBruijn64tab"], plainKeys := false, apart := false, laid := [("math/bits.deBruijn32tab", laid_math_bits_deBruijn32tab), ("math/bits.deBruijn64tab", laid_math_bits_deBruijn64tab)], narrowed := true }
def VipsNamesUptoSaid : Prop := vipsNamesUptoRow.holds Tryd.pinned (OpenSpec.upto vipsNamesSpec)

/-- 'nameplatelaw14.VipsNil', WHERE WHAT IT READS IS OF BULK AT MOST 1048576: true; the input reads as it did. -/
def vipsNilUptoRow : OpenClaim := { program := "ythlabpbplikjbaadoor", sum := "8cabf314c58bfc78220dae0a34debd72c569614562920b98c31ea9a5877b2a28", func := "nameplate/nameplatelaw14.VipsNil", spec := "vipsNil", inPlace := ["math/bits.Add64", "maps.clone"], unfollowed := true, recurses := true, named := ["math/bits.deBruijn32tab", "math/bits.deBruijn64tab"], plainKeys := false, apart := false, laid := [("math/bits.deBruijn32tab", laid_math_bits_deBruijn32tab), ("math/bits.deBruijn64tab", laid_math_bits_deBruijn64tab)], narrowed := true }
def VipsNilUptoSaid : Prop := vipsNilUptoRow.holds Tryd.pinned (OpenSpec.upto vipsNilSpec)

/-- 'nameplatelaw14.VipsTwice', WHERE WHAT IT READS IS OF BULK AT MOST 1048576: true; the input reads as it did. -/
def vipsTwiceUptoRow : OpenClaim := { program := "ythlabpbplikjbaadoor", sum := "8cabf314c58bfc78220dae0a34debd72c569614562920b98c31ea9a5877b2a28", func := "nameplate/nameplatelaw14.VipsTwice", spec := "vipsTwice", inPlace := ["math/bits.Add64", "maps.clone"], unfollowed := true, recurses := true, named := ["math/bits.deBruijn32tab", "math/bits.deBruijn64tab"], plainKeys := false, apart := false, laid := [("math/bits.deBruijn32tab", laid_math_bits_deBruijn32tab), ("math/bits.deBruijn64tab", laid_math_bits_deBruijn64tab)], narrowed := true }
def VipsTwiceUptoSaid : Prop := vipsTwiceUptoRow.holds Tryd.pinned (OpenSpec.upto vipsTwiceSpec)

/-- 'nameplatelaw14.VipsFills', WHERE WHAT IT READS IS OF BULK AT MOST 1048576: true; the input reads as it did. -/
def vipsFillsUptoRow : OpenClaim := { program := "ythlabpbplikjbaadoor", sum := "8cabf314c58bfc78220dae0a34debd72c569614562920b98c31ea9a5877b2a28", func := "nameplate/nameplatelaw14.VipsFills", spec := "vipsFills", inPlace := ["math/bits.Add64"], unfollowed := true, recurses := true, named := ["math/bits.deBruijn32tab", "math/bits.deBruijn64tab"], plainKeys := false, apart := false, laid := [("math/bits.deBruijn32tab", laid_math_bits_deBruijn32tab), ("math/bits.deBruijn64tab", laid_math_bits_deBruijn64tab)], narrowed := true }
def VipsFillsUptoSaid : Prop := vipsFillsUptoRow.holds Tryd.pinned (OpenSpec.upto vipsFillsSpec)

end Rows
end Go.Proofs.YthlabpbplikjbaaDoor
