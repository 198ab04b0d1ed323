/-
  A label looked at: the walk of label.Check. Condition: the label is no longer than Go's own limit. What label's readers of one octet answer: the walks. Condition: the string is no longer than Go's own limit. What label.Check, label.Read answer: the walks. Condition: the string is no longer than Go's own limit. What label.Text answers: the walk. Condition: the string is no longer than Go's own limit. The contracts of layer 1 as the laws meet them. Conditions: as each theorem names them. What the document's own Check of a name answers: the walk. Condition: the name is no longer than Go's own limit.
-/
import Derived.Test.YthlabpbplikjbaaDoorZk3
import Derived.Test.YthlabpbplikjbaaDoorZk0
import Derived.Handy
namespace Go.Proofs.YthlabpbplikjbaaDoor
open Go.RowKit

theorem Check_any (s : ByteArray) (w : World) (hs : s.size ≤ maxLen) :
    Calls Tryd.prog 90 #[.string s] w fun e w' => e = .returned (.int .i64 (chk (bs s))) ∧ w = w' := by
  have hl : chk (bs s) = if s.size = 0 then 2 else if 63 < s.size then 3 else 0 := by unfold chk; rw [bs_length]
  have HL := Lib.hid hl
  clear hl
  unfold maxLen at hs
  by_cases h0 : s.size = 0
  · have hz : ((s.size : Int) == 0) = true := beq_iff_eq.2 (by omega)
    have h1 : ¬ (63 : Int) < s.size := by omega
    have HF := Lib.hid (show chk (bs s) = 2 by rw [HL.out, if_pos h0])
    clear h0
    go_enter Tryd.func90, Tryd.ntmps90
    go_wp2
    go_ret
    exact ⟨by rw [HF.out]; rfl, rfl⟩
  · have hz : ((s.size : Int) == 0) = false := beq_eq_false_iff_ne.2 (by omega)
    by_cases h1 : 63 < s.size
    · have HF := Lib.hid (show chk (bs s) = 3 by rw [HL.out, if_neg h0, if_pos h1])
      clear h0
      go_enter Tryd.func90, Tryd.ntmps90
      go_wp2
      go_ret
      exact ⟨by rw [HF.out]; rfl, rfl⟩
    · have HF := Lib.hid (show chk (bs s) = 0 by rw [HL.out, if_neg h0, if_neg h1])
      clear h0
      go_enter Tryd.func90, Tryd.ntmps90
      go_wp2
      go_ret
      exact ⟨by rw [HF.out]; rfl, rfl⟩

theorem take_more (s : ByteArray) (k : Nat) (h : k < s.size) : (bs s).take (k + 1) = (bs s).take k ++ [s[k]] := by
  rw [List.take_succ_eq_append_getElem (by rw [bs_length]; exact h)]; rfl

end Go.Proofs.YthlabpbplikjbaaDoor
namespace Go.Proofs.YthlabpbplikjbaaDoor
open Go.RowKit

end Go.Proofs.YthlabpbplikjbaaDoor
namespace Go.Proofs.YthlabpbplikjbaaDoor
open Go.RowKit

end Go.Proofs.YthlabpbplikjbaaDoor
namespace Go.Proofs.YthlabpbplikjbaaDoor
open Go.RowKit


/-! ### Text -/
/-- What Text answers. -/
def txR (l : List UInt8) : List UInt8 := if chk l = 0 then tx l else []
def Tx (w : World) (l : List UInt8) (e : Ending) (w' : World) : Prop := e = .returned (.tuple #[.string ⟨(txR l).toArray⟩, .int .i64 (chk l)]) ∧ Below w.heap.size w w'

end Go.Proofs.YthlabpbplikjbaaDoor
namespace Go.Proofs.YthlabpbplikjbaaDoor
open Go.RowKit

/-! ### The contracts as the laws meet them -/
end Go.Proofs.YthlabpbplikjbaaDoor
namespace Go.Proofs.YthlabpbplikjbaaDoor
open Go.RowKit
set_option linter.unusedVariables false

/-- What has been gone through. -/
def Gone (n : ByteArray) (k : Nat) (P : List (List UInt8)) : Prop := okN P ∧ bs n = enc P ++ (bs n).drop k
theorem Gone.step {n : ByteArray} {k : Nat} {P : List (List UInt8)} (h : Gone n k P) {x r : List UInt8} (hc : cutL ((bs n).drop k) = some (x, r)) (k' : Nat) (hr : r = (bs n).drop k') : Gone n k' (P ++ [x]) := by
  obtain ⟨h1, h2⟩ := h
  obtain ⟨e, hx⟩ := cutL_some hc
  refine ⟨okN_append.2 ⟨h1, okN_cons.2 ⟨hx, okN_nil⟩⟩, ?_⟩
  rw [enc_snoc, List.append_assoc, ← hr, ← e]
  exact h2
theorem Gone.labs {n : ByteArray} {k : Nat} {P : List (List UInt8)} (h : Gone n k P) : labs (bs n) = P ++ labs ((bs n).drop k) := by
  have := labs_enc P ((bs n).drop k) h.1
  rw [← h.2] at this
  exact this
theorem Gone.len {n : ByteArray} {k : Nat} {P : List (List UInt8)} (h : Gone n k P) (hk : k ≤ n.size) : (enc P).length = k ∧ 2 * P.length ≤ k := by
  have h1 := congrArg List.length h.2
  rw [List.length_append, List.length_drop, bs_length] at h1
  have h2 := enc_two h.1
  omega

end Go.Proofs.YthlabpbplikjbaaDoor
