/-
  What the document's own Text, Read, Fold answer for layer 2: the walks. Conditions: as each theorem names them.
-/
import Derived.Test.YtmjhofgcfolelaaNmRefB
import Derived.Test.YtmjhofgcfolelaaNmText
import Derived.Laws.OwnMore
namespace Go.Proofs.Ytmjhofgcfolelaa
open Go.RowKit
set_option linter.unusedVariables false

/-- The relation of Text's loop. -/
def RtRel (L : List ByteArray) (w : World) (s i : Value) (wr : World) : Prop :=
  ∃ (k : Nat) (S : ByteArray), i = .int .i64 k ∧ k ≤ L.length ∧ s = .string S ∧ Hid (bs S = tN ((L.map bs).take k)) ∧ Below w.heap.size w wr
theorem enc_take_le (L : List (List UInt8)) (k : Nat) : (enc (L.take k)).length ≤ (enc L).length := by
  have := congrArg (fun M => (enc M).length) (List.take_append_drop k L)
  simp only [enc_append, List.length_append] at this
  omega

/-- The relation of Read's loop. -/
def RrRel (s : ByteArray) (w : World) (y : List (List UInt8) × Nat) (v i : Value) (wr : World) : Prop :=
  ∃ (k f : Nat) (L : List ByteArray), i = .int .i64 k ∧ k ≤ s.size + 1 ∧ L.length ≤ k ∧ Hid (okN (L.map bs)) ∧ TOwn 9 wr w.heap.size v L ∧ Below w.heap.size w wr ∧ s.size ≤ f + k ∧ Hid (rdLs f (bs s) k (L.map bs) = y)

end Go.Proofs.Ytmjhofgcfolelaa
