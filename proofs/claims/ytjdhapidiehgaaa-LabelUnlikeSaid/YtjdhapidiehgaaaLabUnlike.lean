/-
  LabelUnlike: unlike labels have unlike texts; a text's octets may each be told by their number: the walk. Condition: the strings are no longer than Go's own limit.
-/
import Derived.Test.YtjdhapidiehgaaaLabLives
import Derived.Deep.QuietTactic
import Derived.BigQuiet
import Derived.IntWalk
namespace Go.Proofs.Ytjdhapidiehgaaa
open Go.RowKit

theorem ten : ∀ n, n < 10 → bs ((⟨#[48, 49, 50, 51, 52, 53, 54, 55, 56, 57]⟩ : ByteArray).extract n (n + 1)) = [UInt8.ofNat (48 + n)] := by decide +kernel
theorem d3_all : ∀ n, n < 256 → esc3 (UInt8.ofNat n) = [92] ++ [UInt8.ofNat (48 + (UInt8.ofNat n).toNat / 100)] ++ [UInt8.ofNat (48 + (UInt8.ofNat n).toNat / 10 % 10)] ++ [UInt8.ofNat (48 + (UInt8.ofNat n).toNat % 10)] := by decide +kernel
theorem esc3_digits (c : UInt8) : esc3 c = [92] ++ [UInt8.ofNat (48 + c.toNat / 100)] ++ [UInt8.ofNat (48 + c.toNat / 10 % 10)] ++ [UInt8.ofNat (48 + c.toNat % 10)] :=
  forall_u8 (p := fun c => esc3 c = [92] ++ [UInt8.ofNat (48 + c.toNat / 100)] ++ [UInt8.ofNat (48 + c.toNat / 10 % 10)] ++ [UInt8.ofNat (48 + c.toNat % 10)]) d3_all c
theorem more3 (S : ByteArray) (l : List UInt8) (c : UInt8) (h : bs S = tx3 l) :
    bs (S ++ ⟨#[92]⟩ ++ (⟨#[48, 49, 50, 51, 52, 53, 54, 55, 56, 57]⟩ : ByteArray).extract (c.toNat / 100) (c.toNat / 100 + 1) ++ (⟨#[48, 49, 50, 51, 52, 53, 54, 55, 56, 57]⟩ : ByteArray).extract (c.toNat / 10 % 10) (c.toNat / 10 % 10 + 1) ++ (⟨#[48, 49, 50, 51, 52, 53, 54, 55, 56, 57]⟩ : ByteArray).extract (c.toNat % 10) (c.toNat % 10 + 1)) = tx3 (l ++ [c]) := by
  have hc := c.toNat_lt
  rw [bs_append, bs_append, bs_append, bs_append, h, ten _ (by omega), ten _ (by omega), ten _ (by omega), tx3_snoc, esc3_digits]
  simp only [List.append_assoc]
  rfl

theorem below_drewN {B0 : Nat} {a w : World} (h : Below B0 a w) (n : Nat) : Below B0 a (w.drewN n) := ⟨h.os, h.tape, h.output, h.size, h.block⟩
/-- What the loop has written. -/
def UnRel (a : ByteArray) (w : World) (i v : Value) (wr : World) : Prop :=
  ∃ (k : Nat) (S : ByteArray), i = .int .i64 k ∧ k ≤ a.size ∧ v = .string S ∧ bs S = tx3 ((bs a).take k) ∧ Below w.heap.size w wr

set_option maxHeartbeats 1000000 in
theorem unlike_ok (a b : ByteArray) (w : World) (hca : chk (bs a) = 0) (hcb : chk (bs b) = 0) :
    Calls Try.prog 7 #[.string a, .string b] w fun e w' => e = .returned (.bool true) ∧ Below w.heap.size w w' := by
  obtain ⟨hpa, h63a⟩ := chk_ok hca
  obtain ⟨hpb, h63b⟩ := chk_ok hcb
  obtain ⟨x, hx⟩ : ∃ x : ByteArray, bs x = tx (bs a) := ⟨_, bs_mk _⟩
  obtain ⟨y, hy⟩ : ∃ y : ByteArray, bs y = tx (bs b) := ⟨_, bs_mk _⟩
  have HA := Lib.hid (fun wx => Text_yes a x wx hca hx)
  have HB := Lib.hid (fun wx => Text_yes b y wx hcb hy)
  clear hca hcb
  have HX := Lib.hid hx
  have HY := Lib.hid hy
  clear hx hy
  go_enter Try.func7, Try.ntmps7
  go_wp2_with (go_at_call 9; refine (lives_any _).mono ?_; rintro e w1 ⟨rfl, hb1⟩)
  refine (HA.out _).mono ?_
  rintro e w2 ⟨rfl, hb2⟩
  go_wp2_with fail
  refine (HB.out _).mono ?_
  rintro e w3 ⟨rfl, hb3⟩
  go_wp2
  have h12 := hb1.trans (hb2.mono hb1.size)
  have h13 := h12.trans (hb3.mono h12.size)
  clear hb1 hb2 hb3 h12
  go_loopw [9, 10] (fun v i wr => UnRel a w i v wr) (fun _ i _ => a.size - (intOf i).toNat)
  case atStart => exact ⟨0, ⟨#[]⟩, rfl, Nat.zero_le _, rfl, rfl, h13⟩
  case round =>
    obtain ⟨k, S, rfl, hk, rfl, hS, hb⟩ := hrel
    have hsz := tx3_len ((bs a).take k)
    rw [← hS, bs_length, List.length_take, bs_length] at hsz
    have hsz' : S.size ≤ 252 := by omega
    have HS := Lib.hid hS
    clear hS hsz
    by_cases hlt : k < a.size
    · have hlt' : (k : Int) < (a.size : Int) := by omega
      have hc := a[k].toNat_lt
      go_wp2_with fail
      go_quiet (fail)
      go_wp2
      go_roundw
      case rel => exact ⟨k + 1, _, by go_num, by omega, rfl, by rw [take_more a k hlt]; exact more3 S _ _ HS.out, below_drewN hb _⟩
      case measure => simp [intOf]; omega
    · have ht : (bs a).take k = bs a := List.take_of_length_le (by rw [bs_length]; omega)
      have hS := HS.out
      rw [ht] at hS
      have hr : rd (bs S) 0 = (bs a, S.size, 0) := by
        have := rd_text3 (bs a) (by rw [bs_length]; exact hpa) (by rw [bs_length]; exact h63a)
        rw [← hS, bs_length] at this
        exact this
      have HR := Lib.hid (fun wx => Read_yes S a 0 S.size wx (by unfold maxLen; omega) (Nat.zero_le _) hr)
      have hxy : (x.toList == y.toList) = (a.toList == b.toList) := by
        rw [bs_toList, bs_toList, bs_toList, bs_toList, HX.out, HY.out, Bool.eq_iff_iff, beq_iff_eq, beq_iff_eq]
        exact tx_inj (by rw [bs_length]; exact hpa) (by rw [bs_length]; exact h63a) (by rw [bs_length]; exact hpb) (by rw [bs_length]; exact h63b)
      clear hr hS ht
      go_wp2_with fail
      refine (HR.out _).mono ?_
      rintro e w4 ⟨rfl, hb4⟩
      go_wp2
      go_ret
      exact ⟨by simp, hb.trans (hb4.mono hb.size)⟩

theorem unlike_bad1 (a b : ByteArray) (w : World) (ha : a.size ≤ maxLen) (hb : b.size ≤ maxLen) (hc : chk (bs a) ≠ 0) :
    Calls Try.prog 7 #[.string a, .string b] w fun e w' => e = .returned (.bool true) ∧ Below w.heap.size w w' := by
  have hcb : ((chk (bs a) : Int) != 0) = true := by rw [bne_iff_ne]; omega
  have HA := Lib.hid (fun wx => Text_no a wx ha hc)
  have HB := Lib.hid (fun wx => Text_any b wx hb)
  clear hc ha hb
  go_enter Try.func7, Try.ntmps7
  go_wp2_with (go_at_call 9; refine (lives_any _).mono ?_; rintro e w1 ⟨rfl, hb1⟩)
  refine (HA.out _).mono ?_
  rintro e w2 ⟨rfl, hb2⟩
  go_wp2_with fail
  refine (HB.out _).mono ?_
  rintro e w3 ⟨rfl, hb3⟩
  go_wp2
  go_ret
  exact ⟨rfl, (hb1.trans (hb2.mono hb1.size)).trans (hb3.mono (Nat.le_trans hb1.size hb2.size))⟩

theorem unlike_bad2 (a b : ByteArray) (w : World) (hb : b.size ≤ maxLen) (hca : chk (bs a) = 0) (hc : chk (bs b) ≠ 0) :
    Calls Try.prog 7 #[.string a, .string b] w fun e w' => e = .returned (.bool true) ∧ Below w.heap.size w w' := by
  have hcb : ((chk (bs b) : Int) != 0) = true := by rw [bne_iff_ne]; omega
  have HA := Lib.hid (fun wx => Text_yes a _ wx hca (bs_mk _))
  have HB := Lib.hid (fun wx => Text_no b wx hb hc)
  clear hc hca hb
  go_enter Try.func7, Try.ntmps7
  go_wp2_with (go_at_call 9; refine (lives_any _).mono ?_; rintro e w1 ⟨rfl, hb1⟩)
  refine (HA.out _).mono ?_
  rintro e w2 ⟨rfl, hb2⟩
  go_wp2_with fail
  refine (HB.out _).mono ?_
  rintro e w3 ⟨rfl, hb3⟩
  go_wp2
  go_ret
  exact ⟨rfl, (hb1.trans (hb2.mono hb1.size)).trans (hb3.mono (Nat.le_trans hb1.size hb2.size))⟩

theorem LabelUnlike_walk (a b : ByteArray) (ha : a.size ≤ maxLen) (hb : b.size ≤ maxLen) (w : World) :
    Calls Try.prog 7 #[.string a, .string b] w fun e w' => e = .returned (.bool true) ∧ Below w.heap.size w w' := by
  by_cases hca : chk (bs a) = 0
  · by_cases hcb : chk (bs b) = 0
    · exact unlike_ok a b w hca hcb
    · exact unlike_bad2 a b w hb hca hcb
  · exact unlike_bad1 a b w ha hb hca
end Go.Proofs.Ytjdhapidiehgaaa
