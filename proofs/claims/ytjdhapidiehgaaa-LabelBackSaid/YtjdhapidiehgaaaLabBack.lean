/-
  LabelBack: for every label and what stands behind it, Read of Text is the label, up to the end or a dot; each octet of the text can be seen: the walk. Condition: the strings are no longer than Go's own limit.
-/
import Derived.Test.YtjdhapidiehgaaaLabLives
namespace Go.Proofs.Ytjdhapidiehgaaa
open Go.RowKit

theorem back_long (l b : ByteArray) (w : World) (hl : l.size ≤ maxLen) (hb : b.size ≤ maxLen) (h : 300 < l.size ∨ 300 < b.size) :
    Calls Try.prog 5 #[.string l, .string b] w fun e w' => e = .returned (.bool true) ∧ Below w.heap.size w w' := by
  unfold maxLen at hl hb
  by_cases h1 : 300 < l.size
  · clear h
    go_enter Try.func5, Try.ntmps5
    go_wp2_with (go_at_call 9; refine (lives_any _).mono ?_; rintro e w1 ⟨rfl, hb1⟩)
    go_ret
    exact ⟨rfl, hb1⟩
  · have h2 : 300 < b.size := by omega
    clear h
    go_enter Try.func5, Try.ntmps5
    go_wp2_with (go_at_call 9; refine (lives_any _).mono ?_; rintro e w1 ⟨rfl, hb1⟩)
    go_ret
    exact ⟨rfl, hb1⟩

theorem back_bad (l b : ByteArray) (w : World) (hl : l.size ≤ 300) (hb : b.size ≤ 300) (hc : chk (bs l) ≠ 0) :
    Calls Try.prog 5 #[.string l, .string b] w fun e w' => e = .returned (.bool true) ∧ Below w.heap.size w w' := by
  have hm : l.size ≤ maxLen := by unfold maxLen; omega
  have hcb : ((chk (bs l) : Int) != 0) = true := by rw [bne_iff_ne]; omega
  have HT := Lib.hid (fun wx => Text_no l wx hm hc)
  have HC := Lib.hid (fun wx => Check_any l wx hm)
  clear hc hm
  go_enter Try.func5, Try.ntmps5
  go_wp2_with (first | (go_at_call 9; refine (lives_any _).mono ?_; rintro e w1 ⟨rfl, hb1⟩) | (go_at_call 16; refine (HT.out _).mono ?_; rintro e w2 ⟨rfl, hb2⟩) | (go_at_call 12; refine (HC.out _).mono ?_; rintro e w3 ⟨rfl, rfl⟩))
  go_ret
  exact ⟨rfl, hb1.trans (hb2.mono hb1.size)⟩

set_option maxHeartbeats 1000000 in
theorem back_ok (l b : ByteArray) (w : World) (hb : b.size ≤ 300) (hc : chk (bs l) = 0) :
    Calls Try.prog 5 #[.string l, .string b] w fun e w' => e = .returned (.bool true) ∧ Below w.heap.size w w' := by
  obtain ⟨hpos, h63⟩ := chk_ok hc
  obtain ⟨T, hT⟩ : ∃ T : ByteArray, bs T = tx (bs l) := ⟨_, bs_mk _⟩
  have hTs := tx_size hT
  have HT := Lib.hid (fun wx => Text_yes l T wx hc hT)
  have hr1 : rd (bs T) 0 = (bs l, T.size, 0) := by
    have := rd_text0 (bs l) (by rw [bs_length]; exact hpos) (by rw [bs_length]; exact h63)
    rw [← hT, bs_length] at this
    exact this
  have hr2 : rd (bs (T ++ ⟨#[46]⟩ ++ b)) 0 = (bs l, T.size, 0) := by
    have := rd_text (bs l) ([46] ++ bs b) (.inr ⟨46, bs b, rfl, rfl⟩) (by rw [bs_length]; exact hpos) (by rw [bs_length]; exact h63)
    rw [← hT, bs_length, ← List.append_assoc] at this
    rw [bs_append, bs_append]
    exact this
  have HR1 := Lib.hid (fun wx => Read_yes T l 0 T.size wx (by unfold maxLen; omega) (Nat.zero_le _) hr1)
  have hsz : (T ++ ⟨#[46]⟩ ++ b).size = T.size + 1 + b.size := by rw [ByteArray.size_append, ByteArray.size_append]; rfl
  have HR2 := Lib.hid (fun wx => Read_yes (T ++ ⟨#[46]⟩ ++ b) l 0 T.size wx (by rw [hsz]; unfold maxLen; omega) (Nat.zero_le _) hr2)
  have HV : Hid (∀ x ∈ bs T, vis x = true) := by show ∀ _, _; rw [hT]; exact vis_tx (bs l)
  clear hT hr1 hr2 hsz hc
  go_enter Try.func5, Try.ntmps5
  go_wp2_with (first | (go_at_call 9; refine (lives_any _).mono ?_; rintro e w1 ⟨rfl, hb1⟩) | (go_at_call 16; refine (HT.out _).mono ?_; rintro e w2 ⟨rfl, hb2⟩))
  go_loop [7] (fun i => ∃ k : Nat, k ≤ T.size ∧ i = .int .i64 k) (fun i => T.size - (intOf i).toNat)
  case atStart => exact ⟨0, Nat.zero_le _, rfl⟩
  case round =>
    obtain ⟨k, hk, rfl⟩ := hrel
    by_cases hlt : k < T.size
    · have hv : vis T[k] = true := HV.out _ (List.getElem_mem (by rw [bs_length]; exact hlt))
      obtain ⟨hv1, hv2⟩ := vis_yes hv
      clear hv
      go_wp2
      go_round
      case rel => exact ⟨k + 1, by omega, by go_num⟩
      case measure => simp [intOf]; omega
    · go_wp2_with fail
      refine (HR1.out _).mono ?_
      rintro e w3 ⟨rfl, hb3⟩
      go_wp2_with fail
      refine (HR2.out _).mono ?_
      rintro e w4 ⟨rfl, hb4⟩
      go_wp2
      go_ret
      exact ⟨by simp, ((hb1.trans (hb2.mono hb1.size)).trans (hb3.mono (Nat.le_trans hb1.size hb2.size))).trans (hb4.mono (Nat.le_trans (Nat.le_trans hb1.size hb2.size) hb3.size))⟩

theorem LabelBack_walk (l b : ByteArray) (hl : l.size ≤ maxLen) (hb : b.size ≤ maxLen) (w : World) :
    Calls Try.prog 5 #[.string l, .string b] w fun e w' => e = .returned (.bool true) ∧ Below w.heap.size w w' := by
  by_cases h : 300 < l.size ∨ 300 < b.size
  · exact back_long l b w hl hb h
  · by_cases hc : chk (bs l) = 0
    · exact back_ok l b w (by omega) hc
    · exact back_bad l b w (by omega) (by omega) hc
end Go.Proofs.Ytjdhapidiehgaaa
