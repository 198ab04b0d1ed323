/-
  What name.Text answers: the walk. Condition: the name is no longer than Go's own limit.
-/
import Derived.Test.YtmjhofgcfolelaaNmLabels
import Derived.Test.YtmjhofgcfolelaaLabUse
namespace Go.Proofs.Ytmjhofgcfolelaa
open Go.RowKit Go.Shelf
set_option linter.unusedVariables false
attribute [local go_sem] Oper.semAt_some

theorem two_set {W : World} {b c : Nat} {t u : TypeId} {v z : Value} (h : Boxed W b t v) (k : Boxed W c u z) (hne : b ≠ c) (x y : Value) :
    Boxed ((W.setCell ⟨b, 0, none⟩ x).setCell ⟨c, 0, none⟩ y) b t x ∧ Boxed ((W.setCell ⟨b, 0, none⟩ x).setCell ⟨c, 0, none⟩ y) c u y :=
  ⟨(h.set x).other hne y, (k.other (Ne.symm hne) x).set y⟩

/-- What Text answers. -/
def NTx (w : World) (l : List UInt8) (e : Ending) (w' : World) : Prop := e = .returned (.tuple #[.string ⟨(txN l).toArray⟩, .int .i64 (chkN l)]) ∧ Below w.heap.size w w'

/-- What Text's loop keeps. -/
def TxI (w : World) (B : Nat) (pre : List Lab) (W : World) : Prop :=
  (Boxed W w.heap.size 9 (.string ⟨#[]⟩) ∧ Boxed W (w.heap.size + 1) 40 (.int .i64 0)) ∧ Boxed W B 9 (.string ⟨(tN (pre.map lb)).toArray⟩) ∧ Below w.heap.size w W
theorem txI_own (w : World) (B K : Nat) (hK : w.heap.size ≤ K) : OwnFrom K (TxI w B) :=
  OwnFrom.and (OwnFrom.and (Own.from (boxed_own w.heap.size 9 (fun _ : List Lab => Value.string ⟨#[]⟩)) _) (Own.from (boxed_own (w.heap.size + 1) 40 (fun _ : List Lab => Value.int .i64 0)) _))
    (OwnFrom.and (Own.from (boxed_own B 9 (fun pre : List Lab => Value.string ⟨(tN (pre.map lb)).toArray⟩)) _) (ownFrom_below (Nat.le_refl _) hK))
theorem tN_lab (pre : List Lab) (x : Lab) : tN ((pre ++ [x]).map lb) = tN (pre.map lb) ++ (tx (bs x.1) ++ [46]) := by rw [List.map_append, List.map_cons, List.map_nil, tN_snoc]; rfl

end Go.Proofs.Ytmjhofgcfolelaa
