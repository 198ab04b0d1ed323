/-
  The program's rows for bytes, byte slices, strings; a call that hands back a value and turns nothing that lay. No condition. An argument that is a message's header, opened. No condition.
-/
import Derived.Test.YtadeflehdfmilaaGreatProg
import Derived.Test.YtadeflehdfmilaaGreatZk0
import Derived.Handy
import Derived.WalkKit
import Derived.OpenShut
import Derived.ShutString
import Derived.Carry
import Derived.Lib.SmallJoins
namespace Go.Proofs.YtadeflehdfmilaaGreat
open Go.RowKit

theorem bt : BT Tryz.prog 5 58 9 := ⟨Tryz.underlying5, Tryz.underlying58, Tryz.underlying9, by kernel_rfl⟩

theorem next {w w1 w2 : World} (h : Below w.heap.size w w1) (k : Below w1.heap.size w1 w2) : Below w.heap.size w w2 := h.trans (k.mono h.size)
end Go.Proofs.YtadeflehdfmilaaGreat
namespace Go.Proofs.YtadeflehdfmilaaGreat
open Go.ChangeShapes Go.WideShapes Go.ChangeAt Go.RowKit
set_option linter.unusedVariables false
set_option maxRecDepth 100000
section
variable {H : Type} {enc : TypeId × Value → H} {W : World} {base b0 : Nat} {spare : Nat → Bool} {held : Bool} {v : Value} {d : DataW H} {p : List MemPlace}
end
end Go.Proofs.YtadeflehdfmilaaGreat
