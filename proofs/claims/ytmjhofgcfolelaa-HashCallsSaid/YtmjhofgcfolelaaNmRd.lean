/-
  Names read: the walk of name.Read. Condition: the text is no longer than 2^30.
-/
import Derived.Test.YtmjhofgcfolelaaNmPut
import Derived.Test.YtmjhofgcfolelaaLabUse
namespace Go.Proofs.Ytmjhofgcfolelaa
open Go.RowKit
set_option linter.unusedVariables false

/-- The relation of Read's loop. -/
def NRdRel (s : ByteArray) (w : World) (y : List (List UInt8) × Nat) (v i : Value) (wr : World) : Prop :=
  ∃ (k f : Nat) (L : List (List UInt8)), i = .int .i64 k ∧ k ≤ s.size + 1 ∧ L.length ≤ k ∧ okN L ∧ Own 5 wr w.heap.size v (enc L) ∧ Below w.heap.size w wr ∧ s.size ≤ f + k ∧ rdLs f (bs s) k L = y

end Go.Proofs.Ytmjhofgcfolelaa
