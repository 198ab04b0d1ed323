/-
  What the document's own Check, Read answer for layer 1: the walks. Condition: the string is no longer than 2^40 octets.
-/
import Derived.Test.YtmjhofgcfolelaaLabSame
import Derived.Test.YtmjhofgcfolelaaLabUse
import Derived.Deep.QuietTactic
import Derived.BigQuiet
import Derived.IntWalk
namespace Go.Proofs.Ytmjhofgcfolelaa
open Go.RowKit
set_option linter.unusedVariables false

theorem rCheck_any (s : ByteArray) (w : World) (hs : s.size ≤ maxLen) :
    Calls Try.prog 44 #[.string s] w fun e w' => e = .returned (.int .i64 (chk (bs s))) ∧ w = w' := by
  have hl : chk (bs s) = if s.size = 0 then 2 else if 63 < s.size then 3 else 0 := by unfold chk; rw [bs_length]
  have hem : s.toList = [] ↔ s.size = 0 := by rw [bs_toList, ← List.length_eq_zero_iff, bs_length]
  unfold maxLen at hs
  by_cases h0 : s.size = 0
  · have HF := Lib.hid (show chk (bs s) = 2 by rw [hl, if_pos h0])
    have he := hem.2 h0
    clear hl hem h0
    go_enter Try.func44, Try.ntmps44
    go_wp2
    go_ret
    exact ⟨by rw [HF.out]; rfl, rfl⟩
  · have he : s.toList.isEmpty = false := by
      cases h : s.toList
      · exact absurd (hem.1 h) h0
      · rfl
    have he2 : ¬ s.toList = [] := fun h => h0 (hem.1 h)
    by_cases h1 : 63 < s.size
    · have HF := Lib.hid (show chk (bs s) = 3 by rw [hl, if_neg h0, if_pos h1])
      clear hl hem h0
      go_enter Try.func44, Try.ntmps44
      go_wp2
      go_ret
      exact ⟨by rw [HF.out]; rfl, rfl⟩
    · have HF := Lib.hid (show chk (bs s) = 0 by rw [hl, if_neg h0, if_neg h1])
      clear hl hem h0
      go_enter Try.func44, Try.ntmps44
      go_wp2
      go_ret
      exact ⟨by rw [HF.out]; rfl, rfl⟩

/-- What the document's reader of one octet answers. -/
def Ro (w : World) (c n : Int) (e : Ending) (w' : World) : Prop := e = .returned (.tuple #[.int .u8 c, .int .i64 n]) ∧ Below w.heap.size w w'
theorem ro_ret {w w' : World} {c c' n n' : Int} (hc : c = c') (hn : n = n') (hb : Below w.heap.size w w') : Ro w c' n' (.returned (.tuple #[.int .u8 c, .int .i64 n])) w' := by
  subst hc; subst hn; exact ⟨rfl, hb⟩

theorem below_draws {B0 : Nat} {a w : World} (h : Below B0 a w) (n : Nat) : Below B0 a (w.drewN n) := ⟨h.os, h.tape, h.output, h.size, h.block⟩
end Go.Proofs.Ytmjhofgcfolelaa
