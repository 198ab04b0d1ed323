/-
  What name.Fold answers: the walk. Condition: the name is no longer than Go's own limit.
-/
import Derived.Test.YtpaocfjpnajonaaDoorNmLabels
import Derived.Test.YtpaocfjpnajonaaDoorNmPut
import Derived.Shelf.RegionOpen
namespace Go.Proofs.YtpaocfjpnajonaaDoor
open Go.RowKit Go.Shelf
set_option linter.unusedVariables false
attribute [local go_sem] Oper.semAt_some

def fe (pre : List Lab) : List UInt8 := enc ((pre.map lb).map fold)
theorem fe_snoc (pre : List Lab) (x : Lab) : fe (pre ++ [x]) = fe pre ++ enc1 (fold (bs x.1)) := by
  unfold fe
  rw [List.map_append, List.map_append, enc_append]
  simp [lb, enc_one]
theorem fe_len (pre : List Lab) : (fe pre).length ≤ 64 * pre.length := by
  unfold fe
  rw [enc_fold_len]
  exact lb_le pre
/-- What Fold's loop keeps. -/
def FoI (w : World) (b : Nat) (pre : List Lab) (W : World) : Prop := (∃ v, Boxed W b 29 v ∧ W.ownsRow w.heap.size 5 1 v (fe pre).length ((fe pre).map B) ∧ True) ∧ Below w.heap.size w W
theorem foI_own (w : World) (b K : Nat) (hK : w.heap.size ≤ K) : OwnFrom K (FoI w b) :=
  OwnFrom.and (Own.from (holdsRow_own w.heap.size b 29 5 1 (fun pre : List Lab => (fe pre).length) (fun pre => (fe pre).map B) (fun _ _ => True)) _) (ownFrom_below (Nat.le_refl _) hK)

end Go.Proofs.YtpaocfjpnajonaaDoor
