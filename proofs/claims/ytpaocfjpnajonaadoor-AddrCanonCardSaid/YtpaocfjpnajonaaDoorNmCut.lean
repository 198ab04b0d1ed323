/-
  What name.cut, put, named answer: the walks. Condition: the string is no longer than Go's own limit.
-/
import Derived.Test.YtpaocfjpnajonaaDoorLabFold
import Derived.Test.YtpaocfjpnajonaaDoorNmMath
import Derived.Deep.QuietTactic
import Derived.BigQuiet
import Derived.IntWalk
namespace Go.Proofs.YtpaocfjpnajonaaDoor
open Go.RowKit
set_option linter.unusedVariables false

theorem below_draws {B0 : Nat} {a w : World} (h : Below B0 a w) (n : Nat) : Below B0 a (w.drewN n) := ⟨h.os, h.tape, h.output, h.size, h.block⟩

theorem btN : BT Tryd.prog 5 29 33 := ⟨Tryd.underlying5, Tryd.underlying29, Tryd.underlying33, by kernel_rfl⟩

/-- What cut answers. -/
def Cut (w : World) (x r : ByteArray) (b : Bool) (e : Ending) (w' : World) : Prop := e = .returned (.tuple #[.string x, .string r, .bool b]) ∧ Below w.heap.size w w'
theorem cut_ret {w w' : World} {x r x' r' : ByteArray} {b : Bool} (hx : x = x') (hr : r = r') (hb : Below w.heap.size w w') : Cut w x' r' b (.returned (.tuple #[.string x, .string r, .bool b])) w' := by
  subst hx; subst hr; exact ⟨rfl, hb⟩
theorem empty_no {s : ByteArray} (h : 0 < s.size) : s.toList.isEmpty = false ∧ ¬ s.toList = [] := by
  have hn : ¬ s.toList = [] := fun e => by
    rw [bs_toList] at e
    have := bs_length s
    rw [e] at this
    simp at this
    omega
  exact ⟨by cases h : s.toList <;> simp_all, hn⟩
theorem empty_yes {s : ByteArray} (h : s.size = 0) : s.toList = [] := by
  rw [bs_toList]
  exact List.eq_nil_of_length_eq_zero (by rw [bs_length]; exact h)
theorem head_at (s : ByteArray) (h : 0 < s.size) : bs s = s[0] :: (bs s).drop 1 := by
  have := drop_at s 0 h
  simpa using this

set_option maxRecDepth 100000 in
/-- named: what was put is the name, if it is not too long. -/
theorem named_any (v : Value) (l : List UInt8) (base : Nat) (w : World) (hown : Own 5 w base v l) (hl : l.length ≤ 70368744177664) :
    Calls Tryd.prog 42 #[v] w fun e w' => e = .returned (.tuple #[.string ⟨(named l).1.toArray⟩, .int .i64 (named l).2]) ∧ w = w' := by
  have hcv := btN.conv_own hown
  obtain ⟨A, cap, rfl⟩ := hown.shape
  by_cases h : 254 < l.length
  · have HE : Hid (named l = ([], 3)) := Lib.hid (if_pos h)
    go_enter Tryd.func42, Tryd.ntmps42
    go_wp2
    go_ret2
    rw [HE.out]
    exact ⟨rfl, rfl⟩
  · have HE : Hid (named l = (l, 0)) := Lib.hid (if_neg h)
    go_enter Tryd.func42, Tryd.ntmps42
    go_wp2
    go_ret2
    rw [HE.out]
    exact ⟨rfl, rfl⟩
end Go.Proofs.YtpaocfjpnajonaaDoor
