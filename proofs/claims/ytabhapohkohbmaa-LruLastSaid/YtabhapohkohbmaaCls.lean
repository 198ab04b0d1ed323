/-
  A class of worlds over which a region that draws its order and does not write is walked; what a call hands back there. No condition.
-/
import Derived.Test.YtabhapohkohbmaaBt
import Derived.Test.YtabhapohkohbmaaQui
namespace Go.Proofs.Ytabhapohkohbmaa
open Go.RowKit

theorem cls_of (W : World) : ∃ (Ix : Type) (f : Ix → World) (i0 : Ix), W.drew = f i0 ∧ (∀ n, Below W.heap.size W (f n)) ∧ (∀ n w'', Below (f n).heap.size (f n) w'' → ∃ m, w'' = f m) :=
  ⟨{w' // Below W.heap.size W w'}, Subtype.val, ⟨W.drew, ⟨rfl, rfl, rfl, Nat.le_refl _, fun _ _ => rfl⟩⟩, rfl, fun n => n.2, fun n w'' h => ⟨⟨w'', next n.2 h⟩, rfl⟩⟩
theorem cls_go {Ix : Type} {f : Ix → World} {fi : FuncId} {args : Array Value} {v : Value} (h : Gives fi args v) (hS : ∀ n w'', Below (f n).heap.size (f n) w'' → ∃ m, w'' = f m) (n : Ix) :
    Calls Try.prog fi args (f n) fun e w'' => e = .returned v ∧ ∃ m, w'' = f m := (h.go (f n)).mono fun _ _ h => ⟨h.1, hS n _ h.2⟩
theorem wf64 {k : Int} (h : (Lit.int .i64 k).wf = true) : k ≤ 9223372036854775807 := by
  simp [Lit.wf] at h
  omega
end Go.Proofs.Ytabhapohkohbmaa
