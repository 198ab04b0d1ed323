/-
  A string's copy: strings.Clone. Condition: the string is no longer than 2^48.
-/
import Derived.Test.YtabhapohkohbmaaShelf
import Derived.Test.YtabhapohkohbmaaBt
namespace Go.Proofs.Ytabhapohkohbmaa
open Go.RowKit Go.Shelf
set_option linter.unusedVariables false

theorem lClone {s : ByteArray} (hs : s.size ≤ 281474976710656) : Gives 53 #[.string s] (.string s) := fun w => by
  have h1 : Hid (∀ wx, Calls Try.prog 58 #[.string s] wx fun e w' => e = .returned (.string s) ∧ Below wx.heap.size wx w') := Lib.hid fun wx => AnyPu.stringslite_Clone Try.laysCl s wx hs
  go_enter Try.func53, Try.ntmps53
  go_wp2_with (go_at_call 58; refine (h1.out _).mono ?_; rintro e w1 ⟨rfl, hb⟩)
  go_ret
  exact ⟨rfl, hb⟩
end Go.Proofs.Ytabhapohkohbmaa
