/-
  What the document's own Fold, Same, Compare answer for layer 1: the walks. Condition: the string is no longer than 2^40 octets.
-/
import Derived.Test.YtmjhofgcfolelaaRefB
namespace Go.Proofs.Ytmjhofgcfolelaa
open Go.RowKit
set_option linter.unusedVariables false

theorem fold_next (s : ByteArray) (k : Nat) (h : k < s.size) (hf : fd s[k] = s[k]) : fold ((bs s).take k) ++ (bs s).drop k = fold ((bs s).take (k + 1)) ++ (bs s).drop (k + 1) := by
  rw [take_more s k h, drop_at s k h]
  unfold fold
  rw [List.map_append, List.append_assoc]
  simp only [List.map_cons, List.map_nil, hf]
  rfl
theorem fd_up {c : UInt8} (h1 : 65 ≤ c.toNat) (h2 : c.toNat ≤ 90) : (fd c).toNat = c.toNat + 32 := by
  unfold fd
  rw [if_pos ⟨h1, h2⟩, UInt8.toNat_add]
  show (c.toNat + 32) % 256 = _
  omega

set_option maxHeartbeats 400000 in
theorem rFold_any (s : ByteArray) (w : World) (hs : s.size ≤ 1099511627776) :
    Calls Try.prog 34 #[.string s] w fun e w' => e = .returned (.string ⟨(fold (bs s)).toArray⟩) ∧ Below w.heap.size w w' := by
  have HM : Hid (s.size ≤ maxLen) := by show s.size ≤ maxLen; unfold maxLen; omega
  go_enter Try.func34, Try.ntmps34
  go_wp2_with (refine wpList_bytes bt _ rfl _ rfl s rfl HM.out ?_; intro cap w1 hrow hb1 _ _ _)
  have HR0 : Hid (MapRel s w w.heap.size (.int .i64 0) w1) := ⟨0, rfl, Nat.zero_le _, hrow, hb1⟩
  clear hrow hb1
  go_loopw [4] (fun i wr => MapRel s w w.heap.size i wr) (fun i _ => s.size - (intOf i).toNat)
  case atStart => exact HR0.out
  case round =>
    clear HR0
    obtain ⟨k, rfl, hk, hrow, hb⟩ := hrel
    have hlen : (fold ((bs s).take k) ++ (bs s).drop k).length = s.size := by rw [List.length_append, fold_length, List.length_take, List.length_drop, bs_length]; omega
    by_cases hlt : k < s.size
    · have hc0 := hrow.cell k (by rw [hlen]; exact hlt)
      rw [fold_here s k hlt] at hc0
      have hcell : wr.cell? ⟨w.heap.size, k, none⟩ = some (.int .u8 s[k].toNat) := hc0
      have hfree := hrow.free k (by rw [hlen]; exact hlt)
      have hc256 := s[k].toNat_lt
      have HS := Lib.hid (hrow.set (by rw [hlen]; exact hlt) (fd s[k]))
      clear hc0 hlen
      have HR := Lib.hid hrow
      clear hrow
      by_cases h1 : 65 ≤ s[k].toNat
      · by_cases h2 : s[k].toNat ≤ 90
        · have HU := Lib.hid (fd_up h1 h2)
          go_wp2
          go_roundw
          case rel => exact ⟨k + 1, by go_num, by omega, by rw [← fold_step s k hlt]; have := HS.out; unfold B at this; rw [HU.out] at this; exact this, hb.setCell (Nat.le_refl _) _⟩
          case measure => simp [intOf]; omega
        · have HU : Hid (fd s[k] = s[k]) := if_neg fun h => h2 h.2
          go_wp2
          go_roundw
          case rel => exact ⟨k + 1, by go_num, by omega, by rw [← fold_next s k hlt HU.out]; exact HR.out, hb⟩
          case measure => simp [intOf]; omega
      · have HU : Hid (fd s[k] = s[k]) := if_neg fun h => h1 h.1
        go_wp2
        go_roundw
        case rel => exact ⟨k + 1, by go_num, by omega, by rw [← fold_next s k hlt HU.out]; exact HR.out, hb⟩
        case measure => simp [intOf]; omega
    · have ht : fold ((bs s).take k) ++ (bs s).drop k = fold (bs s) := by rw [List.take_of_length_le (by rw [bs_length]; omega), drop_end s k (by omega), List.append_nil]
      rw [ht] at hrow
      have hcv := bt.conv_row hrow s.size cap (by rw [fold_length, bs_length])
      clear ht hlen hrow
      go_wp2
      go_ret
      exact ⟨rfl, hb⟩

theorem same_cmp (a b : List UInt8) : (cmp a b == 0) = (fold a == fold b) := by
  rw [Bool.eq_iff_iff, beq_iff_eq, beq_iff_eq]
  exact cb_zero _ _
theorem cb_cons (x y : UInt8) (a b : List UInt8) : Lib.compareBytes (x :: a) (y :: b) = if x.toNat < y.toNat then -1 else if y.toNat < x.toNat then 1 else Lib.compareBytes a b := by
  show (if x < y then -1 else if y < x then 1 else Lib.compareBytes a b) = _
  simp only [UInt8.lt_iff_toNat_lt]
def CmpRel (F G : ByteArray) (R : Int) (w : World) (i : Value) (wr : World) : Prop :=
  ∃ k : Nat, i = .int .i64 k ∧ k ≤ F.size ∧ k ≤ G.size ∧ Lib.compareBytes ((bs F).drop k) ((bs G).drop k) = R ∧ Below w.heap.size w wr

end Go.Proofs.Ytmjhofgcfolelaa
