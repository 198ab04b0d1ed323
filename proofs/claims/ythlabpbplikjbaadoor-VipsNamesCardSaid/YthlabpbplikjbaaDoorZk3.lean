/-
  The program's rows for bytes, byte slices, strings; a call that hands back a value and turns nothing that lay. No condition.
-/
import Derived.Test.YthlabpbplikjbaaDoorProg
import Derived.Test.YthlabpbplikjbaaDoorZk1
import Derived.Handy
namespace Go.Proofs.YthlabpbplikjbaaDoor
open Go.RowKit

theorem bt : BT Tryd.prog 5 64 9 := ⟨Tryd.underlying5, Tryd.underlying64, Tryd.underlying9, by kernel_rfl⟩

theorem next {w w1 w2 : World} (h : Below w.heap.size w w1) (k : Below w1.heap.size w1 w2) : Below w.heap.size w w2 := h.trans (k.mono h.size)
/-- A call's contract as the law meets it: it hands back v, and turns nothing that was there. -/
def Gives (f : FuncId) (args : Array Value) (v : Value) : Prop := ∀ w : World, Calls Tryd.prog f args w fun e w' => e = .returned v ∧ Below w.heap.size w w'
theorem Gives.go {f : FuncId} {args : Array Value} {v : Value} (h : Gives f args v) (w : World) : Calls Tryd.prog f args w fun e w' => e = .returned v ∧ Below w.heap.size w w' := h w
end Go.Proofs.YthlabpbplikjbaaDoor
