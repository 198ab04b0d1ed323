/-
  Ranges as plain data: what may be one, what it has, its places: the mathematics that the contracts of layer 5 name. No condition. Nothing of any program is named here.
-/
import Derived.Test.YtjadghmanpkgoaaGreatDoorAdDef
namespace Go.Proofs.YtjadghmanpkgoaaGreatDoor
open Go.RowKit
set_option linter.unusedVariables false

/-- How many bits addresses of a kind have. -/
def widA (six : Bool) : Nat := if six then 128 else 32
/-- How many of the lower bits of Hi, of Lo, don't count. -/
def kH (six : Bool) (n : Nat) : Nat := if six then 64 - n else 64
def kL (six : Bool) (n : Nat) : Nat := if six then (if n ≤ 64 then 64 else 128 - n) else 32 - n
/-- The bits that count. -/
def mk (k : Nat) : Nat := 18446744073709551615 * 2 ^ k % 18446744073709551616
/-- The lower k bits struck. -/
def cl (k x : Nat) : Nat := x / 2 ^ k * 2 ^ k
def headR (six : Bool) (n : Nat) (a : Ad) : Ad := (a.1, cl (kH six n) a.2.1, cl (kL six n) a.2.2)
/-- A range as the program holds it. -/
def rv (r : Ad) (n : Int) : Value := .agg #[.bool r.1, .int .u64 (r.2.1 : Int), .int .u64 (r.2.2 : Int), .int .i64 n]
/-- What Check answers. -/
def chkR (r : Ad) (n : Int) : Nat := if chkA r ≠ 0 ∨ n < 0 ∨ (widA r.1 : Int) < n ∨ headR r.1 n.toNat r ≠ r then 2 else 0
/-- What Has answers. -/
def hasR (r : Ad) (n : Int) (a : Ad) : Bool := decide (chkR r n = 0 ∧ chkA a = 0 ∧ headR r.1 n.toNat a = r)
/-- What Size answers. -/
def sizeR (r : Ad) (n : Int) : Nat := if chkR r n = 0 then 2 ^ min (widA r.1 - n.toNat) 16 else 0
/-- What At answers. -/
def atR (r : Ad) (n i : Int) : Ad × Bool := if i < 0 ∨ (sizeR r n : Int) ≤ i then (noA, false) else addA r i.toNat
/-- How far a lies behind r's Base. -/
def offR (r a : Ad) : Nat := (a.2.2 + (18446744073709551616 - r.2.2)) % 18446744073709551616
/-- What Index answers. -/
def idxR (r : Ad) (n : Int) (a : Ad) : Nat × Bool := if hasR r n a = false ∨ a.2.1 ≠ r.2.1 ∨ sizeR r n ≤ offR r a then (0, false) else (offR r a, true)
/-- What Meet answers. -/
def meetR (r : Ad) (n : Int) (s : Ad) (m : Int) : Bool := decide (chkR r n = 0 ∧ chkR s m = 0 ∧ (hasR r n s = true ∨ hasR s m r = true))

/-! ### Masks -/
theorem mk_eq {k : Nat} (h : k ≤ 64) : mk k = (2 ^ (64 - k) - 1) * 2 ^ k := by
  unfold mk
  have e : (2 : Nat) ^ (64 - k) * 2 ^ k = 18446744073709551616 := by rw [← Nat.pow_add, Nat.sub_add_cancel h]
  have h1 : 1 ≤ 2 ^ k := Nat.one_le_two_pow
  have h2 : 2 ^ k ≤ 18446744073709551616 := by rw [← e]; exact Nat.le_mul_of_pos_left _ (Nat.two_pow_pos _)
  rw [Nat.sub_mul, e, Nat.one_mul]
  generalize (2 : Nat) ^ k = p at *
  obtain ⟨q, rfl⟩ : ∃ q, p = q + 1 := ⟨p - 1, by omega⟩
  rw [Nat.mul_add]
  omega
theorem mk_lt (k : Nat) : mk k < 18446744073709551616 := Nat.mod_lt _ (by decide)
theorem mk_and {k x : Nat} (h : k ≤ 64) (hx : x < 18446744073709551616) : x &&& mk k = cl k x := by
  rw [mk_eq h]
  unfold cl
  apply Nat.eq_of_testBit_eq
  intro i
  rw [Nat.testBit_and, Nat.testBit_mul_two_pow, Nat.testBit_mul_two_pow, Nat.testBit_two_pow_sub_one, Nat.testBit_div_two_pow]
  by_cases h1 : k ≤ i
  · simp only [h1, decide_true, Bool.true_and]
    rw [Nat.sub_add_cancel h1]
    by_cases h2 : i < 64
    · rw [decide_eq_true (show i - k < 64 - k by omega), Bool.and_true]
    · have : x.testBit i = false := Nat.testBit_lt_two_pow (Nat.lt_of_lt_of_le hx (by
        have : (2 : Nat) ^ 64 ≤ 2 ^ i := Nat.pow_le_pow_right (by decide) (by omega)
        exact this))
      rw [this, Bool.false_and]
  · simp [h1]
theorem cl_le (k x : Nat) : cl k x ≤ x := Nat.div_mul_le_self _ _
theorem kH_le (six : Bool) (n : Nat) : kH six n ≤ 64 := by unfold kH; split <;> omega
theorem kL_le {six : Bool} {n : Nat} : kL six n ≤ 64 := by unfold kL; split <;> (try split) <;> omega
theorem wid_cases (six : Bool) : (six = true ∧ widA six = 128) ∨ (six = false ∧ widA six = 32) := by cases six <;> simp [widA]
end Go.Proofs.YtjadghmanpkgoaaGreatDoor
