/-
  What a reader of octets answers: the walks of octets.NewReader and the reader's methods. Condition: the string is no longer than Go's own limit.
-/
import Derived.Test.YtkjekibbacdbaaaOcKit
import Derived.LaidEqlPtr
import Derived.Laws.BitsAllLaws
namespace Go.Proofs.Ytkjekibbacdbaaa
open Go.RowKit
set_option linter.unusedVariables false

theorem isWidth_any (n : Int) (w : World) :
    Calls Try.prog 33 #[.int .i64 n] w fun e w' => e = .returned (.bool (isW n)) ∧ w = w' := by
  have hc : isW n = (decide (1 ≤ n) && decide (n ≤ 4)) := by simp [isW]
  rw [hc]
  clear hc
  by_cases h1 : 1 ≤ n
  all_goals
    go_enter Try.func33, Try.ntmps33
    go_wp2
    go_ret
    simp [h1] <;> omega

/-- A string's part, as 'takR' has it. -/
theorem part_eq (s : ByteArray) (k n : Nat) : s.extract k (k + n) = ⟨(((bs s).drop k).take n).toArray⟩ := by
  refine bs_eq ?_
  rw [bs_extract]
  congr 1
  omega

theorem or32 (a c : Nat) (h : a * 256 + c < 4294967296) (hc : c < 256) : bits BinOp.or IntKind.u32 ((a : Int) * 256 % 4294967296) c = ((a * 256 + c : Nat) : Int) := by
  have h2 : a * 256 < 4294967296 := Nat.lt_of_le_of_lt (Nat.le_add_right _ _) h
  have h3 : c < 4294967296 := Nat.lt_trans hc (by decide)
  have e : (a : Int) * 256 % 4294967296 = ((a * 256 : Nat) : Int) := by omega
  rw [e, u32_or_nat (a * 256) c h2 h3]
  clear e h2 h3 h
  have h1 := Nat.shiftLeft_add_eq_or_of_lt (show c < 2 ^ 8 by omega) a
  rw [Nat.shiftLeft_eq] at h1
  rw [show (256 : Nat) = 2 ^ 8 by decide, h1]
theorem take_more' (s : ByteArray) (k : Nat) (h : k < s.size) : (bs s).take (k + 1) = (bs s).take k ++ [s[k]] := by
  rw [List.take_succ_eq_append_getElem (by rw [bs_length]; exact h)]; rfl
/-- The relation of joined's loop. -/
def JnRel (s : ByteArray) (w : World) (g : Nat) (v i : Value) (wr : World) : Prop :=
  ∃ k : Nat, i = .int .i64 k ∧ k ≤ s.size ∧ v = .int .u32 (num ((bs s).take k)) ∧ Row wr g (bs s) ∧ Below w.heap.size w wr
/-! ### The methods -/
theorem numR_bad {l : List UInt8} {k : Nat} {n : Int} (h : isW n = false) : numR l k n = ⟨[], 2, k⟩ := if_pos h
theorem numR_take {l : List UInt8} {k : Nat} {n : Int} (h : isW n = true) : numR l k n = takR l k n := if_neg (by simp [h])
theorem takR_neg {l : List UInt8} {k : Nat} {n : Int} (h : n < 0) : takR l k n = ⟨[], 2, k⟩ := if_pos h
theorem takR_more {l : List UInt8} {k : Nat} {n : Int} (h0 : 0 ≤ n) (h : (l.length : Int) - k < n) : takR l k n = ⟨[], 8, k⟩ := by
  unfold takR
  rw [if_neg (by omega), if_pos h]
theorem takR_some {l : List UInt8} {k n : Nat} (h : k + n ≤ l.length) : takR l k (n : Int) = ⟨(l.drop k).take n, 0, k + n⟩ := by
  unfold takR
  rw [if_neg (by omega), if_neg (by omega)]
  rfl
theorem isW_yes {n : Int} (h : isW n = true) : 1 ≤ n ∧ n ≤ 4 := by simpa [isW] using h
theorem tosize (l : List UInt8) : (⟨l.toArray⟩ : ByteArray).size = l.length := by rw [← bs_length, bs_mk]
theorem seekR_bad {l : List UInt8} {k : Nat} {n : Int} (h : n < 0 ∨ (l.length : Int) < n) : seekR l k n = (2, k) := if_pos h
theorem seekR_some {l : List UInt8} {k n : Nat} (h : n ≤ l.length) : seekR l k (n : Int) = (0, n) := if_neg (by omega)
end Go.Proofs.Ytkjekibbacdbaaa
