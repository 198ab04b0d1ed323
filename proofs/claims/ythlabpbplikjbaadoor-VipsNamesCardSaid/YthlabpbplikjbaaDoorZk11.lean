/-
  What name.cut, put, named answer: the walks. Condition: the string is no longer than Go's own limit. What the document's own Check, Read answer for layer 1: the walks. Condition: the string is no longer than 2^40 octets. What the document's own Read, Text answer for layer 1: the walks. Condition: the string is no longer than 2^40 octets. What the document's own Fold, Same, Compare answer for layer 1: the walks. Condition: the string is no longer than 2^40 octets.
-/
import Derived.Test.YthlabpbplikjbaaDoorZk10
import Derived.Test.YthlabpbplikjbaaDoorZk0
import Derived.Deep.QuietTactic
import Derived.BigQuiet
import Derived.IntWalk
import Derived.Test.YthlabpbplikjbaaDoorZk9
namespace Go.Proofs.YthlabpbplikjbaaDoor
open Go.RowKit
set_option linter.unusedVariables false

theorem below_draws {B0 : Nat} {a w : World} (h : Below B0 a w) (n : Nat) : Below B0 a (w.drewN n) := ⟨h.os, h.tape, h.output, h.size, h.block⟩

theorem btN : BT Tryd.prog 5 64 39 := ⟨Tryd.underlying5, Tryd.underlying64, Tryd.underlying39, by kernel_rfl⟩

/-- What cut answers. -/
def Cut (w : World) (x r : ByteArray) (b : Bool) (e : Ending) (w' : World) : Prop := e = .returned (.tuple #[.string x, .string r, .bool b]) ∧ Below w.heap.size w w'
theorem cut_ret {w w' : World} {x r x' r' : ByteArray} {b : Bool} (hx : x = x') (hr : r = r') (hb : Below w.heap.size w w') : Cut w x' r' b (.returned (.tuple #[.string x, .string r, .bool b])) w' := by
  subst hx; subst hr; exact ⟨rfl, hb⟩
theorem empty_no {s : ByteArray} (h : 0 < s.size) : s.toList.isEmpty = false ∧ ¬ s.toList = [] := by
  have hn : ¬ s.toList = [] := fun e => by
    rw [bs_toList] at e
    have := bs_length s
    rw [e] at this
    simp at this
    omega
  exact ⟨by cases h : s.toList <;> simp_all, hn⟩
theorem empty_yes {s : ByteArray} (h : s.size = 0) : s.toList = [] := by
  rw [bs_toList]
  exact List.eq_nil_of_length_eq_zero (by rw [bs_length]; exact h)
theorem head_at (s : ByteArray) (h : 0 < s.size) : bs s = s[0] :: (bs s).drop 1 := by
  have := drop_at s 0 h
  simpa using this

set_option maxHeartbeats 1000000 in
theorem cut_some (n x r : ByteArray) (w : World) (hs : n.size ≤ maxLen) (h : cutL (bs n) = some (bs x, bs r)) :
    Calls Tryd.prog 72 #[.string n] w (Cut w x r true) := by
  have hc := cutL_some h
  have hl := cutL_len h
  have h0 : 0 < n.size := by rw [← bs_length]; omega
  rw [head_at n h0, cutL_cons] at h
  split at h
  · rename_i hk
    simp only [Option.some.injEq, Prod.mk.injEq, List.length_drop, bs_length] at h hk
    obtain ⟨h1, h2⟩ := h
    obtain ⟨hk1, hk2, hk3⟩ := hk
    obtain ⟨e1, e2⟩ := empty_no h0
    have hX : n.extract 1 (1 + n[0].toNat) = x := bs_inj (by rw [bs_extract, ← h1]; congr 1; omega)
    have hR : n.extract (1 + n[0].toNat) n.size = r := bs_inj (by rw [bs_extract, ← h2, List.drop_drop, List.take_of_length_le (by rw [List.length_drop, bs_length]; omega)])
    have HX := Lib.hid hX
    have HR := Lib.hid hR
    have HC : Hid (∀ wx, Calls Tryd.prog 90 #[.string (n.extract 1 (1 + n[0].toNat))] wx fun e w' => e = .returned (.int .i64 0) ∧ wx = w') := Lib.hid (fun wx => by
      rw [hX]
      have hk := Check_any x wx (by have := hc.2.2; rw [bs_length] at this; unfold maxLen; omega)
      rw [ok1_chk.1 hc.2] at hk
      exact hk)
    clear h1 h2 hX hR hc hl
    unfold maxLen at hs
    go_enter Tryd.func72, Tryd.ntmps72
    go_wp2_with (go_at_call 90; refine (HC.out _).mono ?_; rintro e w' ⟨rfl, rfl⟩)
    go_quiet (fail)
    go_wp2
    go_ret3
    exact cut_ret HX.out HR.out (below_draws (Below.refl _ _) _)
  · cases h

set_option maxHeartbeats 1000000 in
theorem cut_none (n : ByteArray) (w : World) (hs : n.size ≤ maxLen) (h : cutL (bs n) = none) :
    Calls Tryd.prog 72 #[.string n] w (Cut w ⟨#[]⟩ ⟨#[]⟩ false) := by
  rcases Nat.eq_zero_or_pos n.size with h0 | h0
  · have e1 := empty_yes h0
    clear h h0 hs
    go_enter Tryd.func72, Tryd.ntmps72
    go_wp2
    go_ret3
    exact cut_ret rfl rfl (Below.refl _ _)
  · rw [head_at n h0, cutL_cons] at h
    split at h
    · cases h
    · rename_i hk
      rw [List.length_drop, bs_length] at hk
      obtain ⟨e1, e2⟩ := empty_no h0
      by_cases hk3 : n[0].toNat ≤ n.size - 1
      · obtain ⟨L, hL⟩ : ∃ L, L = n.extract 1 (1 + n[0].toNat) := ⟨_, rfl⟩
        have hLs : L.size = n[0].toNat := by
          rw [← bs_length, hL, bs_extract, List.length_take, List.length_drop, bs_length]
          omega
        have hck : chk (bs L) ≠ 0 := fun e => by
          have := ok1_chk.2 e
          unfold ok1 at this
          rw [bs_length] at this
          omega
        have hb : ((chk (bs L) : Int) != 0) = true := by rw [bne_iff_ne]; omega
        have HC : Hid (∀ wx, Calls Tryd.prog 90 #[.string (n.extract 1 (1 + n[0].toNat))] wx fun e w' => e = .returned (.int .i64 (chk (bs L))) ∧ wx = w') := Lib.hid (fun wx => by
          rw [← hL]
          exact Check_any L wx (by unfold maxLen; have := n[0].toNat_lt; omega))
        clear hL hLs hck hk h
        unfold maxLen at hs
        go_enter Tryd.func72, Tryd.ntmps72
        go_wp2_with (go_at_call 90; refine (HC.out _).mono ?_; rintro e w' ⟨rfl, rfl⟩)
        go_ret3
        exact cut_ret rfl rfl (Below.refl _ _)
      · have hc256 := n[0].toNat_lt
        have hgt : (n.size : Int) < 1 + n[0].toNat := by omega
        clear hk h
        unfold maxLen at hs
        go_enter Tryd.func72, Tryd.ntmps72
        go_wp2
        go_ret3
        exact cut_ret rfl rfl (Below.refl _ _)

end Go.Proofs.YthlabpbplikjbaaDoor
namespace Go.Proofs.YthlabpbplikjbaaDoor
open Go.RowKit
set_option linter.unusedVariables false

end Go.Proofs.YthlabpbplikjbaaDoor
namespace Go.Proofs.YthlabpbplikjbaaDoor
open Go.RowKit
set_option linter.unusedVariables false

/-! ### Text -/
end Go.Proofs.YthlabpbplikjbaaDoor
namespace Go.Proofs.YthlabpbplikjbaaDoor
open Go.RowKit
set_option linter.unusedVariables false

end Go.Proofs.YthlabpbplikjbaaDoor
