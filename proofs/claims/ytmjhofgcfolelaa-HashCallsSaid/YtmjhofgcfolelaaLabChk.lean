/-
  A label looked at: the walk of label.Check. Condition: the label is no longer than Go's own limit.
-/
import Derived.Test.YtmjhofgcfolelaaBt
import Derived.Test.YtmjhofgcfolelaaLabMath
import Derived.Handy
namespace Go.Proofs.Ytmjhofgcfolelaa
open Go.RowKit

theorem Check_any (s : ByteArray) (w : World) (hs : s.size ≤ maxLen) :
    Calls Try.prog 45 #[.string s] w fun e w' => e = .returned (.int .i64 (chk (bs s))) ∧ w = w' := by
  have hl : chk (bs s) = if s.size = 0 then 2 else if 63 < s.size then 3 else 0 := by unfold chk; rw [bs_length]
  have HL := Lib.hid hl
  clear hl
  unfold maxLen at hs
  by_cases h0 : s.size = 0
  · have hz : ((s.size : Int) == 0) = true := beq_iff_eq.2 (by omega)
    have h1 : ¬ (63 : Int) < s.size := by omega
    have HF := Lib.hid (show chk (bs s) = 2 by rw [HL.out, if_pos h0])
    clear h0
    go_enter Try.func45, Try.ntmps45
    go_wp2
    go_ret
    exact ⟨by rw [HF.out]; rfl, rfl⟩
  · have hz : ((s.size : Int) == 0) = false := beq_eq_false_iff_ne.2 (by omega)
    by_cases h1 : 63 < s.size
    · have HF := Lib.hid (show chk (bs s) = 3 by rw [HL.out, if_neg h0, if_pos h1])
      clear h0
      go_enter Try.func45, Try.ntmps45
      go_wp2
      go_ret
      exact ⟨by rw [HF.out]; rfl, rfl⟩
    · have HF := Lib.hid (show chk (bs s) = 0 by rw [HL.out, if_neg h0, if_neg h1])
      clear h0
      go_enter Try.func45, Try.ntmps45
      go_wp2
      go_ret
      exact ⟨by rw [HF.out]; rfl, rfl⟩

theorem info8 : (Try.prog.info? 5).map (fun i => (i.zero, i.size, i.bytes)) = some (some (.int .u8 0), 1, 1) := by kernel_rfl
theorem take_more (s : ByteArray) (k : Nat) (h : k < s.size) : (bs s).take (k + 1) = (bs s).take k ++ [s[k]] := by
  rw [List.take_succ_eq_append_getElem (by rw [bs_length]; exact h)]; rfl

theorem chk_ok {s : ByteArray} (hc : chk (bs s) = 0) : 0 < s.size ∧ s.size ≤ 63 := by
  unfold chk at hc
  rw [bs_length] at hc
  split at hc
  · cases hc
  · split at hc
    · cases hc
    · omega
end Go.Proofs.Ytmjhofgcfolelaa
