/-
  LabelRows: two labels' texts with a dot between are read one behind the other: the walk. Condition: the strings are no longer than Go's own limit.
-/
import Derived.Test.YtjdhapidiehgaaaLabLives
namespace Go.Proofs.Ytjdhapidiehgaaa
open Go.RowKit

theorem rows_bad1 (a b : ByteArray) (w : World) (ha : a.size ≤ maxLen) (hb : b.size ≤ maxLen) (hc : chk (bs a) ≠ 0) :
    Calls Try.prog 8 #[.string a, .string b] w fun e w' => e = .returned (.bool true) ∧ Below w.heap.size w w' := by
  have hcb : ((chk (bs a) : Int) != 0) = true := by rw [bne_iff_ne]; omega
  have HA := Lib.hid (fun wx => Text_no a wx ha hc)
  have HB := Lib.hid (fun wx => Text_any b wx hb)
  clear hc ha hb
  go_enter Try.func8, Try.ntmps8
  go_wp2_with (go_at_call 9; refine (lives_any _).mono ?_; rintro e w1 ⟨rfl, hb1⟩)
  refine (HA.out _).mono ?_
  rintro e w2 ⟨rfl, hb2⟩
  go_wp2_with fail
  refine (HB.out _).mono ?_
  rintro e w3 ⟨rfl, hb3⟩
  go_wp2
  go_ret
  exact ⟨rfl, (hb1.trans (hb2.mono hb1.size)).trans (hb3.mono (Nat.le_trans hb1.size hb2.size))⟩

theorem rows_bad2 (a b : ByteArray) (w : World) (hb : b.size ≤ maxLen) (hca : chk (bs a) = 0) (hc : chk (bs b) ≠ 0) :
    Calls Try.prog 8 #[.string a, .string b] w fun e w' => e = .returned (.bool true) ∧ Below w.heap.size w w' := by
  have hcb : ((chk (bs b) : Int) != 0) = true := by rw [bne_iff_ne]; omega
  have HA := Lib.hid (fun wx => Text_yes a _ wx hca (bs_mk _))
  have HB := Lib.hid (fun wx => Text_no b wx hb hc)
  clear hc hca hb
  go_enter Try.func8, Try.ntmps8
  go_wp2_with (go_at_call 9; refine (lives_any _).mono ?_; rintro e w1 ⟨rfl, hb1⟩)
  refine (HA.out _).mono ?_
  rintro e w2 ⟨rfl, hb2⟩
  go_wp2_with fail
  refine (HB.out _).mono ?_
  rintro e w3 ⟨rfl, hb3⟩
  go_wp2
  go_ret
  exact ⟨rfl, (hb1.trans (hb2.mono hb1.size)).trans (hb3.mono (Nat.le_trans hb1.size hb2.size))⟩

set_option maxHeartbeats 1000000 in
theorem rows_ok (a b : ByteArray) (w : World) (hca : chk (bs a) = 0) (hcb : chk (bs b) = 0) :
    Calls Try.prog 8 #[.string a, .string b] w fun e w' => e = .returned (.bool true) ∧ Below w.heap.size w w' := by
  obtain ⟨hpa, h63a⟩ := chk_ok hca
  obtain ⟨hpb, h63b⟩ := chk_ok hcb
  obtain ⟨x, hx⟩ : ∃ x : ByteArray, bs x = tx (bs a) := ⟨_, bs_mk _⟩
  obtain ⟨y, hy⟩ : ∃ y : ByteArray, bs y = tx (bs b) := ⟨_, bs_mk _⟩
  have hxs := tx_size hx
  have hys := tx_size hy
  have HA := Lib.hid (fun wx => Text_yes a x wx hca hx)
  have HB := Lib.hid (fun wx => Text_yes b y wx hcb hy)
  have hr1 : rd (bs (x ++ ⟨#[46]⟩ ++ y)) 0 = (bs a, x.size, 0) := by
    have := rd_text (bs a) ([46] ++ bs y) (.inr ⟨46, bs y, rfl, rfl⟩) (by rw [bs_length]; exact hpa) (by rw [bs_length]; exact h63a)
    rw [← hx, bs_length, ← List.append_assoc] at this
    rw [bs_append, bs_append]
    exact this
  have hr2 : rd (bs (x ++ ⟨#[46]⟩ ++ y)) (x.size + 1) = (bs b, x.size + 1 + y.size, 0) := by
    have := rd_text_at (bs x ++ [46]) (bs b) [] (.inl rfl) (by rw [bs_length]; exact hpb) (by rw [bs_length]; exact h63b)
    rw [← hy, List.append_nil, List.length_append, bs_length, bs_length] at this
    rw [bs_append, bs_append]
    exact this
  have hsz : (x ++ ⟨#[46]⟩ ++ y).size = x.size + 1 + y.size := by rw [ByteArray.size_append, ByteArray.size_append]; rfl
  have HR1 := Lib.hid (fun wx => Read_yes (x ++ ⟨#[46]⟩ ++ y) a 0 x.size wx (by rw [hsz]; unfold maxLen; omega) (Nat.zero_le _) hr1)
  have HR2 := Lib.hid (fun wx => Read_yes (x ++ ⟨#[46]⟩ ++ y) b (x.size + 1) (x.size + 1 + y.size) wx (by rw [hsz]; unfold maxLen; omega) (by rw [hsz]; omega) hr2)
  clear hx hy hr1 hr2 hsz hca hcb
  go_enter Try.func8, Try.ntmps8
  go_wp2_with (go_at_call 9; refine (lives_any _).mono ?_; rintro e w1 ⟨rfl, hb1⟩)
  refine (HA.out _).mono ?_
  rintro e w2 ⟨rfl, hb2⟩
  go_wp2_with fail
  refine (HB.out _).mono ?_
  rintro e w3 ⟨rfl, hb3⟩
  go_wp2_with fail
  refine (HR1.out _).mono ?_
  rintro e w4 ⟨rfl, hb4⟩
  go_wp2_with fail
  refine (HR2.out _).mono ?_
  rintro e w5 ⟨rfl, hb5⟩
  go_wp2
  go_ret
  refine ⟨by simp, ?_⟩
  have h12 := hb1.trans (hb2.mono hb1.size)
  have h13 := h12.trans (hb3.mono h12.size)
  have h14 := h13.trans (hb4.mono h13.size)
  exact h14.trans (hb5.mono h14.size)

theorem LabelRows_walk (a b : ByteArray) (ha : a.size ≤ maxLen) (hb : b.size ≤ maxLen) (w : World) :
    Calls Try.prog 8 #[.string a, .string b] w fun e w' => e = .returned (.bool true) ∧ Below w.heap.size w w' := by
  by_cases hca : chk (bs a) = 0
  · by_cases hcb : chk (bs b) = 0
    · exact rows_ok a b w hca hcb
    · exact rows_bad2 a b w hb hca hcb
  · exact rows_bad1 a b w ha hb hca
end Go.Proofs.Ytjdhapidiehgaaa
