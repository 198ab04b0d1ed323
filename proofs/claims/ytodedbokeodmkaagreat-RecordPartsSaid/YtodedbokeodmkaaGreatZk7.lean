/-
  The program's rows for bytes, byte slices, strings; a call that hands back a value and turns nothing that lay. No condition.
-/
import Derived.Test.YtodedbokeodmkaaGreatProg
import Derived.Test.YtodedbokeodmkaaGreatZk0
import Derived.Handy
namespace Go.Proofs.YtodedbokeodmkaaGreat
open Go.RowKit

theorem bt : BT Tryz.prog 5 128 9 := ⟨Tryz.underlying5, Tryz.underlying128, Tryz.underlying9, by kernel_rfl⟩

theorem next {w w1 w2 : World} (h : Below w.heap.size w w1) (k : Below w1.heap.size w1 w2) : Below w.heap.size w w2 := h.trans (k.mono h.size)
end Go.Proofs.YtodedbokeodmkaaGreat
