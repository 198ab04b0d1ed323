/-
  What a writer's Patch answers: the walk. Conditions: as the theorem names them.
-/
import Derived.Test.YtjollpgkmcinjaaGreatOcWr
import Derived.Deep.RegionHeld3
import Derived.Deep.DrawnRows
namespace Go.Proofs.YtjollpgkmcinjaaGreat
open Go.RowKit
set_option linter.unusedVariables false
attribute [local go_sem ↓] Go.wp_at_zero Go.wp_at_succ

theorem patW_err {l : List UInt8} {f v : Nat} {a n : Int} (h : f ≠ 0) : patW l f a v n = ⟨f, l, f⟩ := if_pos h
theorem patW_arg {l : List UInt8} {v : Nat} {a n : Int} (h : room v n = false ∨ a < 0 ∨ (l.length : Int) - n < a) : patW l 0 a v n = ⟨2, l, 0⟩ := by
  unfold patW
  rw [if_neg (by omega), if_pos h]
theorem patW_ok {l : List UInt8} {v k n : Nat} (h : room v n = true) (h2 : k + n ≤ l.length) : patW l 0 k v n = ⟨0, over l k (octs v n), 0⟩ := by
  unfold patW
  rw [if_neg (by omega), if_neg (by simp [h]; omega)]
  rfl

end Go.Proofs.YtjollpgkmcinjaaGreat
