/-
  The labels of a name, one by one: the iterator each, as loops over it meet it. Condition: the name is no longer than Go's own limit.
-/
import Derived.Test.YtpaocfjpnajonaaDoorNmCut
import Derived.Test.YtpaocfjpnajonaaDoorNmKit
import Derived.Shelf.Abstract
import Derived.TacticsInMore
import Derived.LoopNIn
import Derived.LoopIn
namespace Go.Proofs.YtpaocfjpnajonaaDoor
open Go.RowKit Go.Shelf
set_option linter.unusedVariables false
attribute [local go_sem] Oper.semAt_some

def sizeOfV (v : Value) : Nat := match v with
  | .string s => s.size
  | _ => 0

/-- A label that may be. -/
abbrev Lab := { x : ByteArray // ok1 (bs x) }
def lb (x : Lab) : List UInt8 := bs x.1
theorem lb_ok (L : List Lab) : okN (L.map lb) := fun y hy => by
  obtain ⟨x, _, rfl⟩ := List.mem_map.1 hy
  exact x.2
theorem lb_le (L : List Lab) : (enc (L.map lb)).length ≤ 64 * L.length := by
  induction L with
  | nil => simp [enc]
  | cons x L ih =>
    have h2 := x.2.2
    rw [List.map_cons, enc_cons, List.length_append, enc1_length, List.length_cons]
    unfold lb at *
    omega
theorem lb_snoc (L : List Lab) (x : Lab) : enc ((L ++ [x]).map lb) = enc (L.map lb) ++ enc1 (bs x.1) := by rw [List.map_append, enc_append]; simp [lb, enc_one]
/-- What has come when a label more is told. -/
theorem came {n r : ByteArray} {X : Lab} {R : ByteArray} {pre : List Lab} (h : labs (bs n) = pre.map lb ++ labs (bs r)) (hc : cutL (bs r) = some (bs X.1, bs R)) : labs (bs n) = (pre ++ [X]).map lb ++ labs (bs R) := by
  rw [h, labs_some hc]
  simp [lb]

end Go.Proofs.YtpaocfjpnajonaaDoor
