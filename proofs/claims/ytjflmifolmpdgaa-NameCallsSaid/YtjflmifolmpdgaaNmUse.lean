/-
  The contracts of layer 2 as the laws meet them. Conditions: as each theorem names them.
-/
import Derived.Test.YtjflmifolmpdgaaNmText
import Derived.Test.YtjflmifolmpdgaaNmFold
import Derived.Test.YtjflmifolmpdgaaNmRest
namespace Go.Proofs.Ytjflmifolmpdgaa
open Go.RowKit
set_option linter.unusedVariables false

theorem arr_of {x : ByteArray} {l : List UInt8} (h : bs x = l) : (⟨l.toArray⟩ : ByteArray) = x := (bs_eq h).symm
theorem gRead {s x : ByteArray} {e : Nat} (hs : s.size ≤ 1073741824) (h : rdN (bs s) = (bs x, e)) : Gives 12 #[.string s] (.tuple #[.string x, .int .i64 e]) := fun w => by
  refine (nRead_any s w hs).mono ?_
  rintro e w' ⟨rfl, hb⟩
  rw [h]
  exact ⟨rfl, hb⟩
theorem gText {s x : ByteArray} {e : Nat} (hs : s.size ≤ maxLen) (h : txN (bs s) = bs x) (he : chkN (bs s) = e) : Gives 14 #[.string s] (.tuple #[.string x, .int .i64 e]) := fun w => by
  refine (nText_any s w hs).mono ?_
  rintro e w' ⟨rfl, hb⟩
  rw [h, he]
  exact ⟨rfl, hb⟩
theorem gParent {s x : ByteArray} {b : Bool} (hs : s.size ≤ maxLen) (h : parN (bs s) = (bs x, b)) : Gives 15 #[.string s] (.tuple #[.string x, .bool b]) := fun w => by
  refine (Parent_any s w hs).mono ?_
  rintro e w' ⟨rfl, hb⟩
  rw [h]
  exact ⟨rfl, hb⟩
theorem gJoin {s t x : ByteArray} {e : Nat} (hs : s.size ≤ maxLen) (ht : t.size ≤ maxLen) (h : joinN (bs s) (bs t) = (bs x, e)) : Gives 16 #[.string s, .string t] (.tuple #[.string x, .int .i64 e]) := fun w => by
  refine (Join_any s t w hs ht).mono ?_
  rintro e w' ⟨rfl, hb⟩
  rw [h]
  exact ⟨rfl, hb⟩
theorem gCheck {s : ByteArray} {e : Nat} (hs : s.size ≤ maxLen) (h : chkN (bs s) = e) : Gives 17 #[.string s] (.int .i64 e) := fun w => by
  have := nCheck_any s w hs
  rw [h] at this
  exact this
theorem gFold {s x : ByteArray} (hs : s.size ≤ maxLen) (h : foldN (bs s) = bs x) : Gives 18 #[.string s] (.string x) := fun w => by
  have := nFold_any s w hs
  rw [h] at this
  exact this
theorem gSame {s t : ByteArray} {b : Bool} (hs : s.size ≤ maxLen) (ht : t.size ≤ maxLen) (h : samN (bs s) (bs t) = b) : Gives 19 #[.string s, .string t] (.bool b) := fun w => by
  have := nSame_any s t w hs ht
  rw [h] at this
  exact this
theorem gCmp {s t : ByteArray} {c : Int} (hs : s.size ≤ maxLen) (ht : t.size ≤ maxLen) (h : cmpN (bs s) (bs t) = c) : Gives 20 #[.string s, .string t] (.int .i64 c) := fun w => by
  have := nCompare_any s t w hs ht
  rw [h] at this
  exact this
theorem gUnder {s t : ByteArray} {b : Bool} (hs : s.size ≤ maxLen) (ht : t.size ≤ maxLen) (h : undN (bs s) (bs t) = b) : Gives 21 #[.string s, .string t] (.bool b) := fun w => by
  have := Under_any s t w hs ht
  rw [h] at this
  exact this
theorem gWild {s : ByteArray} {b : Bool} (hs : s.size ≤ maxLen) (h : wildN (bs s) = b) : Gives 22 #[.string s] (.bool b) := fun w => by
  have := Wild_any s w hs
  rw [h] at this
  exact this
theorem gMat {s t : ByteArray} {b : Bool} (hs : s.size ≤ maxLen) (ht : t.size ≤ maxLen) (h : matN (bs s) (bs t) = b) : Gives 38 #[.string s, .string t] (.bool b) := fun w => by
  have := Matches_any s t w hs ht
  rw [h] at this
  exact this
end Go.Proofs.Ytjflmifolmpdgaa
