/-
  What the document's own Read, Text answer for layer 1: the walks. Condition: the string is no longer than 2^40 octets.
-/
import Derived.Test.YtmjhofgcfolelaaRefA
namespace Go.Proofs.Ytmjhofgcfolelaa
open Go.RowKit
set_option linter.unusedVariables false

theorem dig3_cons (d e f : UInt8) (r : List UInt8) : dig3 (d :: e :: f :: r) = if dg d = true ∧ dg e = true ∧ dg f = true ∧ num3 d e f ≤ 255 then some (UInt8.ofNat (num3 d e f)) else none := rfl
/-! ### Text -/
def RTextRel (s : ByteArray) (w : World) (i v : Value) (wr : World) : Prop :=
  ∃ k : Nat, i = .int .i64 k ∧ k ≤ s.size ∧ Own 5 wr w.heap.size v (tx ((bs s).take k)) ∧ Below w.heap.size w wr

theorem digits4 (c : UInt8) : [Value.int .u8 92, Value.int .u8 (48 + (c.toNat : Int) / 100), Value.int .u8 (48 + (c.toNat : Int) / 10 % 10), Value.int .u8 (48 + (c.toNat : Int) % 10)] = [92, 48 + c / 100, 48 + c / 10 % 10, 48 + c % 10].map B := by
  have := digits3 c
  rw [List.map_cons, ← this]
  rfl

end Go.Proofs.Ytmjhofgcfolelaa
