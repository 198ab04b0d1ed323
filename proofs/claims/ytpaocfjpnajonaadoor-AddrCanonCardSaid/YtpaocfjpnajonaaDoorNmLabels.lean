/-
  What name.Labels answers, by slices.Collect over each: the walks. Condition: the name is no longer than Go's own limit.
-/
import Derived.Test.YtpaocfjpnajonaaDoorNmCheck
import Derived.Maps.AppendAt
namespace Go.Proofs.YtpaocfjpnajonaaDoor
open Go.RowKit Go.Shelf
set_option linter.unusedVariables false
attribute [local go_sem] Oper.semAt_some

theorem infoS : (Tryd.prog.info? 9).map (fun i => (i.zero, i.size, i.bytes)) = some (some (.string ⟨#[]⟩), 1, 16) := by kernel_rfl
def strs (L : List Lab) : List Value := L.map fun x => Value.string x.1
theorem strs_snoc (L : List Lab) (x : Lab) : strs (L ++ [x]) = strs L ++ [Value.string x.1] := by simp [strs]
theorem strs_len (L : List Lab) : (strs L).length = L.length := by simp [strs]

/-- A row of labels that the call made: a new slice of strings. -/
def SOwn (W : World) (base : Nat) (v : Value) (L : List Lab) : Prop := W.ownsRow base 9 1 v L.length (strs L)
def LbI (w : World) (n₀ B : Nat) (pre : List Lab) (W : World) : Prop := (∃ v, Boxed W B 47 v ∧ W.ownsRow n₀ 9 1 v pre.length (strs pre) ∧ True) ∧ Below w.heap.size w W
theorem lbI_own (w : World) (n₀ B K : Nat) (hB : w.heap.size ≤ K) : OwnFrom K (LbI w n₀ B) :=
  OwnFrom.and (Own.from (holdsRow_own n₀ B 47 9 1 (fun pre : List Lab => pre.length) strs (fun _ _ => True)) _) (ownFrom_below (Nat.le_refl _) hB)

theorem SOwn.row {W : World} {base : Nat} {v : Value} {L : List Lab} (h : SOwn W base v L) : SRow W v (L.map Subtype.val) := by
  refine SRow.of_own (base := base) (t := 9) ?_
  have e : (L.map Subtype.val).map Value.string = strs L := by simp [strs]
  rw [e, List.length_map]
  exact h

/-- What Labels answers: a new slice of the labels. -/
def Lbs (w : World) (l : List (List UInt8)) (e : Ending) (w' : World) : Prop := ∃ v L, e = .returned v ∧ SRow w' v L ∧ L.map bs = l ∧ Below w.heap.size w w'
theorem map_val (ys : List Lab) : (ys.map Subtype.val).map bs = ys.map lb := by simp [lb]

end Go.Proofs.YtpaocfjpnajonaaDoor
