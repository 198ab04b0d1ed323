/-
  How many places runs leave: plain mathematics. No condition. Nothing of any program is named here.
-/
import Derived.Lib.Hide
namespace Go.Proofs.YthlabpbplikjbaaDoor

/-- Where what is taken of the first i places ends, run by run. -/
def endF (m : Nat → Nat) : Nat → Nat
  | 0 => 0
  | i + 1 => max (endF m i) (i + m i)
/-- How many of the first i places are left. -/
def cntF (m : Nat → Nat) : Nat → Nat
  | 0 => 0
  | i + 1 => cntF m i + (if endF m (i + 1) = i then 1 else 0)
section
variable {m : Nat → Nat}
theorem endF_ge (i : Nat) : i ≤ endF m (i + 1) := Nat.le_trans (Nat.le_add_right i (m i)) (Nat.le_max_right _ _)
theorem endF_le {i b : Nat} : endF m i ≤ b ↔ ∀ k, k < i → k + m k ≤ b := by
  induction i with
  | zero => simp [endF]
  | succ i ih =>
    unfold endF
    rw [Nat.max_le, ih]
    constructor
    · intro h k hk
      rcases Nat.lt_or_ge k i with h' | h'
      · exact h.1 k h'
      · obtain rfl : k = i := by omega
        exact h.2
    · intro h
      exact ⟨fun k hk => h k (by omega), h i (by omega)⟩
theorem endF_iff {i : Nat} : endF m (i + 1) = i ↔ ∀ k, k ≤ i → k + m k ≤ i := by
  have h := endF_ge (m := m) i
  constructor
  · intro e k hk
    exact endF_le.1 (Nat.le_of_eq e) k (by omega)
  · intro hk
    exact Nat.le_antisymm (endF_le.2 fun k h => hk k (by omega)) h
theorem cntF_le (i : Nat) : cntF m i ≤ i := by
  induction i with
  | zero => exact Nat.le_refl _
  | succ i ih => unfold cntF; split <;> omega
theorem cntF_filter (n : Nat) : cntF m n = ((List.range n).filter fun i => decide (endF m (i + 1) = i)).length := by
  induction n with
  | zero => rfl
  | succ n ih =>
    unfold cntF
    rw [List.range_succ, List.filter_append, List.length_append, ih]
    by_cases h : endF m (n + 1) = n
    · rw [if_pos h]; simp [h]
    · rw [if_neg h]; simp [h]
end
end Go.Proofs.YthlabpbplikjbaaDoor
