/-
  A string's copy: strings.Clone. Condition: the string is no longer than 2^48.
-/
import Derived.Test.YthlabpbplikjbaaDoorShelf
import Derived.Test.YthlabpbplikjbaaDoorZk3
namespace Go.Proofs.YthlabpbplikjbaaDoor
open Go.RowKit Go.Shelf
set_option linter.unusedVariables false

theorem gClone {s : ByteArray} (hs : s.size ≤ 281474976710656) : Gives 46 #[.string s] (.string s) := fun w => by
  have h1 : Hid (∀ wx, Calls Tryd.prog 70 #[.string s] wx fun e w' => e = .returned (.string s) ∧ Below wx.heap.size wx w') := Lib.hid fun wx => AnyPu.stringslite_Clone Tryd.laysCl s wx hs
  go_enter Tryd.func46, Tryd.ntmps46
  go_wp2_with (go_at_call 70; refine (h1.out _).mono ?_; rintro e w1 ⟨rfl, hb⟩)
  go_ret
  exact ⟨rfl, hb⟩
end Go.Proofs.YthlabpbplikjbaaDoor
