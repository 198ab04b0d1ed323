/-
  The program's rows for bytes, byte slices, strings; a call that hands back a value and turns nothing that lay. No condition.
-/
import Derived.Test.YtabhapohkohbmaaProg
import Derived.Test.YtabhapohkohbmaaKit
import Derived.Handy
namespace Go.Proofs.Ytabhapohkohbmaa
open Go.RowKit

theorem bt : BT Try.prog 5 98 9 := ⟨Try.underlying5, Try.underlying98, Try.underlying9, by kernel_rfl⟩

theorem next {w w1 w2 : World} (h : Below w.heap.size w w1) (k : Below w1.heap.size w1 w2) : Below w.heap.size w w2 := h.trans (k.mono h.size)
/-- A call's contract as the law meets it: it hands back v, and turns nothing that was there. -/
def Gives (f : FuncId) (args : Array Value) (v : Value) : Prop := ∀ w : World, Calls Try.prog f args w fun e w' => e = .returned v ∧ Below w.heap.size w w'
theorem Gives.go {f : FuncId} {args : Array Value} {v : Value} (h : Gives f args v) (w : World) : Calls Try.prog f args w fun e w' => e = .returned v ∧ Below w.heap.size w w' := h w
end Go.Proofs.Ytabhapohkohbmaa
