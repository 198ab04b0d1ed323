/-
  What label.Check, label.Read answer: the walks. Condition: the string is no longer than Go's own limit.
-/
import Derived.Test.YtmjhofgcfolelaaLabRead
import Derived.Test.YtmjhofgcfolelaaLabChk
namespace Go.Proofs.Ytmjhofgcfolelaa
open Go.RowKit

/-- What Read answers. -/
def Rd (w : World) (x : List UInt8 × Nat × Nat) (e : Ending) (w' : World) : Prop := e = .returned (.tuple #[.string ⟨x.1.toArray⟩, .int .i64 x.2.1, .int .i64 x.2.2]) ∧ Below w.heap.size w w'
theorem rd_ret {w w' : World} {x : List UInt8 × Nat × Nat} (s : ByteArray) (l : List UInt8) (n er : Int) (k : Nat) (m : Nat) (hx : x = (l, k, m)) (hs : s = ⟨l.toArray⟩) (hn : n = k) (he : er = m) (hb : Below w.heap.size w w') :
    Rd w x (.returned (.tuple #[.string s, .int .i64 n, .int .i64 er])) w' := by
  subst hx; subst hs; subst hn; subst he; exact ⟨rfl, hb⟩

/-- The relation of Read's loop. -/
def ReadRel (s : ByteArray) (w : World) (x : List UInt8 × Nat × Nat) (i v : Value) (wr : World) : Prop :=
  ∃ (k : Nat) (out : List UInt8), i = .int .i64 k ∧ k ≤ s.size ∧ out.length ≤ 63 ∧ Own 5 wr w.heap.size v out ∧ Below w.heap.size w wr ∧ rdF (63 - out.length) ((bs s).drop k) out k = x

end Go.Proofs.Ytmjhofgcfolelaa
