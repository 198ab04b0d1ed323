/-
  The contracts of layer 2 as the laws meet them. Conditions: as each theorem names them.
-/
import Derived.Test.YtmjhofgcfolelaaNmText
import Derived.Test.YtmjhofgcfolelaaNmFold
import Derived.Test.YtmjhofgcfolelaaNmRest
import Derived.Test.YtmjhofgcfolelaaNmRd
namespace Go.Proofs.Ytmjhofgcfolelaa
open Go.RowKit
set_option linter.unusedVariables false

theorem arr_of {x : ByteArray} {l : List UInt8} (h : bs x = l) : (⟨l.toArray⟩ : ByteArray) = x := (bs_eq h).symm
theorem gCheck {s : ByteArray} {e : Nat} (hs : s.size ≤ maxLen) (h : chkN (bs s) = e) : Gives 22 #[.string s] (.int .i64 e) := fun w => by
  have := nCheck_any s w hs
  rw [h] at this
  exact this
theorem gFold {s x : ByteArray} (hs : s.size ≤ maxLen) (h : foldN (bs s) = bs x) : Gives 21 #[.string s] (.string x) := fun w => by
  have := nFold_any s w hs
  rw [h] at this
  exact this
theorem gSame {s t : ByteArray} {b : Bool} (hs : s.size ≤ maxLen) (ht : t.size ≤ maxLen) (h : samN (bs s) (bs t) = b) : Gives 23 #[.string s, .string t] (.bool b) := fun w => by
  have := nSame_any s t w hs ht
  rw [h] at this
  exact this
theorem gCmp {s t : ByteArray} {c : Int} (hs : s.size ≤ maxLen) (ht : t.size ≤ maxLen) (h : cmpN (bs s) (bs t) = c) : Gives 30 #[.string s, .string t] (.int .i64 c) := fun w => by
  have := nCompare_any s t w hs ht
  rw [h] at this
  exact this
end Go.Proofs.Ytmjhofgcfolelaa
