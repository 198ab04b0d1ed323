/-
  A contract that hands back one value, over the listed variables; those of addr.Compare, Add, Check, Four. Conditions: as each theorem names them.
-/
import Derived.Test.YtjadghmanpkgoaaGreatDoorAdCmp
import Derived.Test.YtjadghmanpkgoaaGreatDoorAdHex
import Derived.Test.YtjadghmanpkgoaaGreatDoorAdTxt
namespace Go.Proofs.YtjadghmanpkgoaaGreatDoor
open Go.RowKit
set_option linter.unusedVariables false

/-- A call over the listed variables hands back v, and turns nothing that was there. -/
def GG (f : FuncId) (args : Array Value) (v : Value) : Prop := ∀ w : World, Ground w → Calls Tryz.prog f args w fun e w' => e = .returned v ∧ Below w.heap.size w w'
theorem GG.go {f : FuncId} {args : Array Value} {v : Value} (h : GG f args v) (w : World) (hg : Ground w) : Calls Tryz.prog f args w fun e w' => e = .returned v ∧ Below w.heap.size w w' := h w hg
theorem gCm {a b : Ad} {c : Int} (ha : fitA a) (hb : fitA b) (h : cmpA a b = c) : GG 29 #[av a, av b] (.int .i64 c) := fun w _ => by
  obtain ⟨s, a1, a2⟩ := a
  obtain ⟨t, b1, b2⟩ := b
  have := aCompare_any s t a1 a2 b1 b2 w ha.1 ha.2 hb.1 hb.2
  rw [h] at this
  exact this
theorem gAd {a : Ad} {n : Nat} {b : Ad} {is : Bool} (ha : fitA a) (hn : n < 18446744073709551616) (h : addA a n = (b, is)) : GG 21 #[av a, .int .u64 n] (.tuple #[av b, .bool is]) := fun w _ => by
  obtain ⟨s, a1, a2⟩ := a
  have := aAdd_any s a1 a2 n w ha.1 ha.2 hn
  rw [h] at this
  exact this
theorem gCk {a : Ad} {e : Nat} (ha : fitA a) (h : chkA a = e) : GG 27 #[av a] (.int .i64 e) := fun w _ => by
  obtain ⟨s, a1, a2⟩ := a
  have := aCheck_any s a1 a2 w ha.1 ha.2
  rw [h] at this
  exact this
theorem gFr (a b c d : UInt8) : GG 36 #[.int .u8 a.toNat, .int .u8 b.toNat, .int .u8 c.toNat, .int .u8 d.toNat] (av (elderA [a.toNat, b.toNat, c.toNat, d.toNat])) := fun w _ => Four_any a b c d w

end Go.Proofs.YtjadghmanpkgoaaGreatDoor
