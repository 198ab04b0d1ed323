/-
  What name.Check answers: the walk. Condition: the name is no longer than Go's own limit.
-/
import Derived.Test.YtpaocfjpnajonaaDoorNmEach
namespace Go.Proofs.YtpaocfjpnajonaaDoor
open Go.RowKit Go.Shelf
set_option linter.unusedVariables false
attribute [local go_sem] Oper.semAt_some

/-- The sum that Check makes. -/
def CkI (w : World) (B : Nat) (pre : List Lab) (W : World) : Prop := Boxed W B 3 (.int .i64 (enc (pre.map lb)).length) ∧ Below w.heap.size w W
theorem ckI_own (w : World) (B K : Nat) (hB : w.heap.size ≤ K) : OwnFrom K (CkI w B) :=
  OwnFrom.and (Own.from (boxed_own B 3 (fun pre : List Lab => Value.int .i64 (enc (pre.map lb)).length)) _) (ownFrom_below (Nat.le_refl _) hB)

end Go.Proofs.YtpaocfjpnajonaaDoor
