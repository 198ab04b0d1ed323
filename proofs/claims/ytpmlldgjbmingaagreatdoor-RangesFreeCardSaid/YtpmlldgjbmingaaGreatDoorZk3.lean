/-
  The program's rows for bytes, byte slices, strings; a call that hands back a value and turns nothing that lay. No condition. What the kit's Pick answers. Condition: from 1 to 100000.
-/
import Derived.Test.YtpmlldgjbmingaaGreatDoorProg
import Derived.Test.YtpmlldgjbmingaaGreatDoorZk1
import Derived.Handy
namespace Go.Proofs.YtpmlldgjbmingaaGreatDoor
open Go.RowKit

theorem bt : BT Tryz.prog 5 74 9 := ⟨Tryz.underlying5, Tryz.underlying74, Tryz.underlying9, by kernel_rfl⟩

theorem next {w w1 w2 : World} (h : Below w.heap.size w w1) (k : Below w1.heap.size w1 w2) : Below w.heap.size w w2 := h.trans (k.mono h.size)
/-- A call's contract as the law meets it: it hands back v, and turns nothing that was there. -/
def Gives (f : FuncId) (args : Array Value) (v : Value) : Prop := ∀ w : World, Calls Tryz.prog f args w fun e w' => e = .returned v ∧ Below w.heap.size w w'
theorem Gives.go {f : FuncId} {args : Array Value} {v : Value} (h : Gives f args v) (w : World) : Calls Tryz.prog f args w fun e w' => e = .returned v ∧ Below w.heap.size w w' := h w
end Go.Proofs.YtpmlldgjbmingaaGreatDoor
namespace Go.Proofs.YtpmlldgjbmingaaGreatDoor
open Go.RowKit
set_option linter.unusedVariables false

end Go.Proofs.YtpmlldgjbmingaaGreatDoor
