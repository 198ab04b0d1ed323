/-
  What label.Fold, Compare, Same answer: the walks. Condition: the string is no longer than Go's own limit.
-/
import Derived.Test.YtbbglpjhblhkdaaGreatLabChk
import Derived.Lib.Bytealg
import Derived.Lib.Walk
import Derived.Lib.Slices
namespace Go.Proofs.YtbbglpjhblhkdaaGreat
open Go.RowKit

/-- The relation of mapped's loop: so many octets are folded. -/
def MapRel (s : ByteArray) (w : World) (g : Nat) (i : Value) (wr : World) : Prop :=
  ∃ k : Nat, i = .int .i64 k ∧ k ≤ s.size ∧ Row wr g (fold ((bs s).take k) ++ (bs s).drop k) ∧ Below w.heap.size w wr

theorem fold_step (s : ByteArray) (k : Nat) (h : k < s.size) : (fold ((bs s).take k) ++ (bs s).drop k).set k (fd s[k]) = fold ((bs s).take (k + 1)) ++ (bs s).drop (k + 1) := by
  have hk : (fold ((bs s).take k)).length = k := by rw [fold_length, List.length_take, bs_length]; omega
  rw [take_more s k h, drop_at s k h, List.set_append_right _ _ (by omega), hk, Nat.sub_self, List.set_cons_zero]
  unfold fold
  rw [List.map_append, List.append_assoc]
  rfl
theorem fold_here (s : ByteArray) (k : Nat) (h : k < s.size) (hj : k < (fold ((bs s).take k) ++ (bs s).drop k).length) : (fold ((bs s).take k) ++ (bs s).drop k)[k] = s[k] := by
  have hk : (fold ((bs s).take k)).length = k := by rw [fold_length, List.length_take, bs_length]; omega
  rw [List.getElem_append_right (by omega)]
  simp only [hk, Nat.sub_self]
  have := drop_at s k h
  simp only [this]
  rfl

end Go.Proofs.YtbbglpjhblhkdaaGreat
