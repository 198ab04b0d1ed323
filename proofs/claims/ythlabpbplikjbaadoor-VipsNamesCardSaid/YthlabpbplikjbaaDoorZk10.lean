/-
  What label.Fold, Compare, Same answer: the walks. Condition: the string is no longer than Go's own limit. Labels compared: the walks of label.Compare, Same. Condition: the labels are no longer than Go's own limit.
-/
import Derived.Test.YthlabpbplikjbaaDoorZk9
import Derived.Lib.Bytealg
import Derived.Lib.Walk
import Derived.Lib.Slices
namespace Go.Proofs.YthlabpbplikjbaaDoor
open Go.RowKit

theorem fold1_up (c : UInt8) (w : World) (h : 65 ≤ c.toNat ∧ c.toNat ≤ 90) : Calls Tryd.prog 74 #[.int .u8 c.toNat] w fun e w' => e = .returned (.int .u8 (fd c).toNat) ∧ w = w' := by
  obtain ⟨h1, h2⟩ := h
  have hf : (fd c).toNat = c.toNat + 32 := by
    unfold fd
    rw [if_pos ⟨h1, h2⟩, UInt8.toNat_add]
    show (c.toNat + 32) % 256 = _
    omega
  have HF := Lib.hid hf
  clear hf
  go_enter Tryd.func74, Tryd.ntmps74
  go_wp2
  go_ret
  refine ⟨?_, rfl⟩
  rw [HF.out]
  simp
  omega
theorem fold1_same (c : UInt8) (w : World) (h : ¬ (65 ≤ c.toNat ∧ c.toNat ≤ 90)) : Calls Tryd.prog 74 #[.int .u8 c.toNat] w fun e w' => e = .returned (.int .u8 (fd c).toNat) ∧ w = w' := by
  have HF := Lib.hid (show fd c = c from if_neg h)
  by_cases h1 : 65 ≤ c.toNat
  · have h2 : ¬ c.toNat ≤ 90 := fun h2 => h ⟨h1, h2⟩
    clear h
    go_enter Tryd.func74, Tryd.ntmps74
    go_wp2
    go_ret
    exact ⟨by rw [HF.out]; rfl, rfl⟩
  · clear h
    go_enter Tryd.func74, Tryd.ntmps74
    go_wp2
    go_ret
    exact ⟨by rw [HF.out]; rfl, rfl⟩
theorem fold1_any (c : UInt8) (w : World) : Calls Tryd.prog 74 #[.int .u8 c.toNat] w fun e w' => e = .returned (.int .u8 (fd c).toNat) ∧ w = w' := by
  by_cases h : 65 ≤ c.toNat ∧ c.toNat ≤ 90
  · exact fold1_up c w h
  · exact fold1_same c w h

/-- The relation of mapped's loop: so many octets are folded. -/
def MapRel (s : ByteArray) (w : World) (g : Nat) (i : Value) (wr : World) : Prop :=
  ∃ k : Nat, i = .int .i64 k ∧ k ≤ s.size ∧ Row wr g (fold ((bs s).take k) ++ (bs s).drop k) ∧ Below w.heap.size w wr

theorem fold_step (s : ByteArray) (k : Nat) (h : k < s.size) : (fold ((bs s).take k) ++ (bs s).drop k).set k (fd s[k]) = fold ((bs s).take (k + 1)) ++ (bs s).drop (k + 1) := by
  have hk : (fold ((bs s).take k)).length = k := by rw [fold_length, List.length_take, bs_length]; omega
  rw [take_more s k h, drop_at s k h, List.set_append_right _ _ (by omega), hk, Nat.sub_self, List.set_cons_zero]
  unfold fold
  rw [List.map_append, List.append_assoc]
  rfl
theorem fold_here (s : ByteArray) (k : Nat) (h : k < s.size) (hj : k < (fold ((bs s).take k) ++ (bs s).drop k).length) : (fold ((bs s).take k) ++ (bs s).drop k)[k] = s[k] := by
  have hk : (fold ((bs s).take k)).length = k := by rw [fold_length, List.length_take, bs_length]; omega
  rw [List.getElem_append_right (by omega)]
  simp only [hk, Nat.sub_self]
  have := drop_at s k h
  simp only [this]
  rfl

set_option maxHeartbeats 400000 in
theorem mapped_any (s : ByteArray) (w : World) (hs : s.size ≤ maxLen) :
    Calls Tryd.prog 73 #[.string s, .func (.func 74) #[] #[]] w fun e w' => e = .returned (.string ⟨(fold (bs s)).toArray⟩) ∧ Below w.heap.size w w' := by
  have HM := Lib.hid hs
  unfold maxLen at hs
  go_enter Tryd.func73, Tryd.ntmps73
  go_wp2_with (refine wpList_bytes bt _ rfl _ rfl s rfl HM.out ?_; intro cap w1 hrow hb1 _ _ _)
  have HR0 : Hid (MapRel s w w.heap.size (.int .i64 0) w1) := ⟨0, rfl, Nat.zero_le _, hrow, hb1⟩
  clear hrow hb1
  go_loopw [12] (fun i wr => MapRel s w w.heap.size i wr) (fun i _ => s.size - (intOf i).toNat)
  case atStart => exact HR0.out
  case round =>
    clear HR0
    obtain ⟨k, rfl, hk, hrow, hb⟩ := hrel
    have hlen : (fold ((bs s).take k) ++ (bs s).drop k).length = s.size := by rw [List.length_append, fold_length, List.length_take, List.length_drop, bs_length]; omega
    by_cases hlt : k < s.size
    · have hc0 := hrow.cell k (by rw [hlen]; exact hlt)
      rw [fold_here s k hlt] at hc0
      have hcell : wr.cell? ⟨w.heap.size, k, none⟩ = some (.int .u8 s[k].toNat) := hc0
      have hfree := hrow.free k (by rw [hlen]; exact hlt)
      have HS := Lib.hid (hrow.set (by rw [hlen]; exact hlt) (fd s[k]))
      clear hc0 hlen
      have HR := Lib.hid hrow
      clear hrow
      go_wp2_with (go_at_call 74; refine (fold1_any _ _).mono ?_; rintro e w' ⟨rfl, rfl⟩)
      go_roundw
      case rel => exact ⟨k + 1, by go_num, by omega, by rw [← fold_step s k hlt]; exact HS.out, hb.setCell (Nat.le_refl _) _⟩
      case measure => simp [intOf]; omega
    · have ht : fold ((bs s).take k) ++ (bs s).drop k = fold (bs s) := by rw [List.take_of_length_le (by rw [bs_length]; omega), drop_end s k (by omega), List.append_nil]
      rw [ht] at hrow
      have hcv := bt.conv_row hrow s.size cap (by rw [fold_length, bs_length])
      clear ht hlen hrow
      go_wp2
      go_ret
      exact ⟨rfl, hb⟩

theorem Fold_any (s : ByteArray) (w : World) (hs : s.size ≤ maxLen) : Calls Tryd.prog 50 #[.string s] w fun e w' => e = .returned (.string ⟨(fold (bs s)).toArray⟩) ∧ Below w.heap.size w w' := by
  have HC := Lib.hid (fun wx => mapped_any s wx hs)
  clear hs
  go_enter Tryd.func50, Tryd.ntmps50
  go_wp2_with (go_at_call 73; refine (HC.out _).mono ?_; rintro e w1 ⟨rfl, hb1⟩)
  go_ret
  exact ⟨rfl, hb1⟩

end Go.Proofs.YthlabpbplikjbaaDoor
namespace Go.Proofs.YthlabpbplikjbaaDoor
open Go.RowKit

end Go.Proofs.YthlabpbplikjbaaDoor
