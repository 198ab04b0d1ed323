/-
  What label.Text answers: the walk. Condition: the string is no longer than Go's own limit.
-/
import Derived.Test.YtmjhofgcfolelaaLabTop
namespace Go.Proofs.Ytmjhofgcfolelaa
open Go.RowKit


/-- A call hands back the bytes l, its own from base on. -/
def OwnB (base B0 : Nat) (l : List UInt8) (w : World) (e : Ending) (w' : World) : Prop := ∃ v', e = .returned v' ∧ Own 5 w' base v' l ∧ Below B0 w w' ∧ ∀ g L, Row w g L → Row w' g L

/-! ### Text -/
theorem d100 : ∀ n, n < 256 → (48 + UInt8.ofNat n / 100).toNat = 48 + (UInt8.ofNat n).toNat / 100 ∧ (48 + UInt8.ofNat n / 10 % 10).toNat = 48 + (UInt8.ofNat n).toNat / 10 % 10 ∧ (48 + UInt8.ofNat n % 10).toNat = 48 + (UInt8.ofNat n).toNat % 10 := by decide +kernel
theorem digits3 (c : UInt8) : [Value.int .u8 (48 + (c.toNat : Int) / 100), Value.int .u8 (48 + (c.toNat : Int) / 10 % 10), Value.int .u8 (48 + (c.toNat : Int) % 10)] = [48 + c / 100, 48 + c / 10 % 10, 48 + c % 10].map B := by
  obtain ⟨h1, h2, h3⟩ := forall_u8 (p := fun c => (48 + c / 100).toNat = 48 + c.toNat / 100 ∧ (48 + c / 10 % 10).toNat = 48 + c.toNat / 10 % 10 ∧ (48 + c % 10).toNat = 48 + c.toNat % 10) d100 c
  simp only [List.map_cons, List.map_nil, B, h1, h2, h3]
  rfl

theorem esc1_not {c : UInt8} (h : vis c = false) : esc1 c = [92] ++ [48 + c / 100, 48 + c / 10 % 10, 48 + c % 10] := by simp [esc1, h, esc3]
theorem esc1_two {c : UInt8} (h : vis c = true) (h2 : c.toNat = 46 ∨ c.toNat = 92) : esc1 c = [92] ++ [c] := by simp only [esc1, h, if_true, if_pos h2]; rfl
theorem esc1_one {c : UInt8} (h : vis c = true) (h2 : ¬ (c.toNat = 46 ∨ c.toNat = 92)) : esc1 c = [c] := by simp only [esc1, h, if_true, if_neg h2]

/-- What Text answers. -/
def txR (l : List UInt8) : List UInt8 := if chk l = 0 then tx l else []
def Tx (w : World) (l : List UInt8) (e : Ending) (w' : World) : Prop := e = .returned (.tuple #[.string ⟨(txR l).toArray⟩, .int .i64 (chk l)]) ∧ Below w.heap.size w w'

def TextRel (s : ByteArray) (w : World) (g : Nat) (i v : Value) (wr : World) : Prop :=
  ∃ k : Nat, i = .int .i64 k ∧ k ≤ s.size ∧ Own 5 wr w.heap.size v (tx ((bs s).take k)) ∧ Row wr g (bs s) ∧ Below w.heap.size w wr

end Go.Proofs.Ytmjhofgcfolelaa
