/-
  The walk of the law AddrCanon. Conditions: as each theorem names them.
-/
import Derived.Test.YtpaocfjpnajonaaDoorAdUse
import Derived.Test.YtpaocfjpnajonaaDoorAdLow
import Derived.Test.YtpaocfjpnajonaaDoorLabChk
namespace Go.Proofs.YtpaocfjpnajonaaDoor
open Go.RowKit
set_option linter.unusedVariables false

/-! ### What is read may be -/
theorem rd_cases (s : List UInt8) : (rdA s = (noA, 7)) ∨ ∃ a, rdA s = (a, 0) ∧ fitA a ∧ chkA a = 0 := by
  unfold rdA
  cases h : readO s with
  | none => exact .inl rfl
  | some a =>
    refine .inr ⟨a, rfl, ?_⟩
    unfold readO at h
    split at h
    · unfold newO at h
      split at h
      · cases h
      · split at h
        · cases h
        · rename_i l1 hl1
          split at h
          · cases h
          · rename_i l2 hl2
            split at h
            · cases h
            · rename_i hc
              injection h with h
              subst h
              have h1 := eachO_lt (m := 65536) (fun x v hv => hexO_lt hv) hl1
              have h2 := eachO_lt (m := 65536) (fun x v hv => hexO_lt hv) hl2
              have hle : l1.length + l2.length ≤ 8 := by
                by_cases hh : 8 < l1.length + l2.length
                · exact absurd (.inl hh) hc
                · omega
              have hg := gap_len hle
              have hlt := gap_lt h1 h2
              refine ⟨?_, by simp [newerA, chkA]⟩
              unfold newerA
              rw [hg]
              have j1 := jn_lt (m := 65536) (l := (gapG l1 l2).take 4) fun c hc => hlt c (List.mem_of_mem_take hc)
              have j2 := jn_lt (m := 65536) (l := (gapG l1 l2).drop 4) fun c hc => hlt c (List.mem_of_mem_drop hc)
              rw [List.length_take, hg] at j1
              rw [List.length_drop, hg] at j2
              exact ⟨j1, j2⟩
    · obtain ⟨lo, rfl, hlo⟩ := eldO_fit h
      refine ⟨⟨by show (0 : Nat) < _; decide, by show lo < _; omega⟩, ?_⟩
      unfold chkA
      rw [if_neg]
      simp
      omega

/-! ### Letters made great, one by one -/
def upL (l : List UInt8) : List UInt8 := l.map up1
theorem upL_len (l : List UInt8) : (upL l).length = l.length := List.length_map _
def CanRel (s : ByteArray) (wA : World) (g : Nat) (i : Value) (wr : World) : Prop :=
  ∃ k : Nat, i = .int .i64 k ∧ k ≤ s.size ∧ Row wr g (upL ((bs s).take k) ++ (bs s).drop k) ∧ Below wA.heap.size wA wr
theorem up_step (s : ByteArray) (k : Nat) (h : k < s.size) : (upL ((bs s).take k) ++ (bs s).drop k).set k (up1 s[k]) = upL ((bs s).take (k + 1)) ++ (bs s).drop (k + 1) := by
  have hk : (upL ((bs s).take k)).length = k := by rw [upL_len, List.length_take, bs_length]; omega
  rw [take_more s k h, drop_at s k h, List.set_append_right _ _ (by omega), hk, Nat.sub_self, List.set_cons_zero]
  unfold upL
  rw [List.map_append, List.append_assoc]
  rfl
theorem up_here (s : ByteArray) (k : Nat) (h : k < s.size) (hj : k < (upL ((bs s).take k) ++ (bs s).drop k).length) : (upL ((bs s).take k) ++ (bs s).drop k)[k] = s[k] := by
  have hk : (upL ((bs s).take k)).length = k := by rw [upL_len, List.length_take, bs_length]; omega
  rw [List.getElem_append_right (by omega)]
  simp only [hk, Nat.sub_self]
  have := drop_at s k h
  simp only [this]
  rfl
theorem up_skip (s : ByteArray) (k : Nat) (h : k < s.size) (hu : up1 s[k] = s[k]) : upL ((bs s).take k) ++ (bs s).drop k = upL ((bs s).take (k + 1)) ++ (bs s).drop (k + 1) := by
  rw [take_more s k h, drop_at s k h]
  unfold upL
  rw [List.map_append, List.append_assoc, List.map_cons, hu]
  rfl
theorem up_yes (c : UInt8) (h : 97 ≤ c.toNat ∧ c.toNat ≤ 102) : ((up1 c).toNat : Int) = (c.toNat : Int) - 32 := by
  unfold up1
  rw [if_pos h, ofNat_val]
  omega
theorem up_no (c : UInt8) (h : ¬ (97 ≤ c.toNat ∧ c.toNat ≤ 102)) : up1 c = c := if_neg h

theorem can_long (s : ByteArray) (w : World) (hG : Ground w) (h : 100 < s.size) (hm : s.size ≤ maxLen) : Calls Tryd.prog 3 #[.string s] w fun e w' => e = .returned (.bool true) ∧ Below w.heap.size w w' := by
  have HG := Lib.hid hG
  have hI : (100 : Int) < s.size := by omega
  unfold maxLen at hm
  clear hG h
  go_enter Tryd.func3, Tryd.ntmps3
  go_wp2_with (first | (go_at_call 4; (with_reducible refine (lives4.go _ HG.out).mono ?_); rintro e w1 ⟨rfl, hb1⟩) | fail)
  go_ret
  exact ⟨rfl, hb1⟩
theorem can_none (s : ByteArray) (w : World) (hG : Ground w) (h : s.size ≤ 100) (hr : rdA (bs s) = (noA, 7)) : Calls Tryd.prog 3 #[.string s] w fun e w' => e = .returned (.bool true) ∧ Below w.heap.size w w' := by
  have HG := Lib.hid hG
  have HR : Hid (GG 5 #[.string s] (.tuple #[.agg #[.bool false, .int .u64 0, .int .u64 0], .int .i64 7])) := Lib.hid (gRd (a := noA) (e := 7) (by omega) hr)
  have hI : ¬ (100 : Int) < s.size := by omega
  have hI2 : (s.size : Int) ≤ 100 := by omega
  clear hG h hr
  have hbb : Below w.heap.size w w := Below.refl _ _
  go_enter Tryd.func3, Tryd.ntmps3
  go_wp2_with (first | (go_at_call 4; (with_reducible refine (lives4.go _ HG.out).mono ?_); rintro e w1 ⟨rfl, hb'⟩; replace hbb := next hbb hb'; clear hb') | (go_at_call 5; (with_reducible refine (HR.out.go _ (HG.out.next hbb)).mono ?_); rintro e w2 ⟨rfl, hb'⟩; replace hbb := next hbb hb'; clear hb') | fail)
  go_ret
  exact ⟨rfl, hbb.alloc hbb.size _⟩
set_option maxRecDepth 100000 in
set_option maxHeartbeats 4000000 in
theorem can_some (s : ByteArray) (w : World) (hG : Ground w) (h : s.size ≤ 100) (six : Bool) (hi lo : Nat) (hr : rdA (bs s) = ((six, hi, lo), 0)) (hf : fitA (six, hi, lo)) (hc : chkA (six, hi, lo) = 0) :
    Calls Tryd.prog 3 #[.string s] w fun e w' => e = .returned (.bool true) ∧ Below w.heap.size w w' := by
  have HG := Lib.hid hG
  have HR1 : Hid (GG 5 #[.string s] (.tuple #[.agg #[.bool six, .int .u64 (hi : Int), .int .u64 (lo : Int)], .int .i64 0])) := Lib.hid (gRd (a := (six, hi, lo)) (e := 0) (by omega) hr)
  obtain ⟨S, hS⟩ : ∃ S : ByteArray, bs S = (txA (six, hi, lo)).1 := ⟨⟨(txA (six, hi, lo)).1.toArray⟩, bs_mk _⟩
  have hSt : txA (six, hi, lo) = (bs S, 0) := by rw [hS]; unfold txA; rw [if_neg (by rw [hc]; decide)]; split <;> rfl
  have hSl : S.size ≤ 39 := by rw [← bs_length, hS]; exact text_len _
  have HT : Hid (GG 6 #[.agg #[.bool six, .int .u64 (hi : Int), .int .u64 (lo : Int)]] (.tuple #[.string S, .int .i64 0])) := Lib.hid (gTx (a := (six, hi, lo)) (e := 0) hf hSt)
  have HR2 : Hid (GG 5 #[.string S] (.tuple #[.agg #[.bool six, .int .u64 (hi : Int), .int .u64 (lo : Int)], .int .i64 0])) := Lib.hid (gRd (a := (six, hi, lo)) (e := 0) (by omega) (by rw [hS]; exact read_text hf hc))
  obtain ⟨U, hU⟩ : ∃ U : ByteArray, U = ⟨(upL (bs s)).toArray⟩ := ⟨_, rfl⟩
  have hUb : bs U = upL (bs s) := by rw [hU, bs_mk]
  have HR3 : Hid (GG 5 #[.string U] (.tuple #[.agg #[.bool six, .int .u64 (hi : Int), .int .u64 (lo : Int)], .int .i64 0])) := Lib.hid (gRd (a := (six, hi, lo)) (e := 0) (by rw [← bs_length, hUb, upL_len, bs_length]; omega) (by rw [hUb]; exact (rd_up (bs s)).trans hr))
  have HU := Lib.hid hU
  have hI : ¬ (100 : Int) < s.size := by omega
  have hI2 : (s.size : Int) ≤ 100 := by omega
  have hSI : (S.size : Int) ≤ 39 := by omega
  have HM : Hid (s.size ≤ maxLen) := Lib.hid (by unfold maxLen; omega)
  clear hG h hr hf hc hS hSt hSl hU hUb
  have hbb : Below w.heap.size w w := Below.refl _ _
  go_enter Tryd.func3, Tryd.ntmps3
  go_wp2_with (first | (refine wpList_bytes bt _ rfl _ rfl s rfl HM.out ?_; intro cap w3 hrow3 hb3 _ _ _; rw [size1] at hrow3; have HRow3 := Lib.hid hrow3; have HB3 := Lib.hid hb3; clear hrow3 hb3) | (go_at_call 4; (with_reducible refine (lives4.go _ HG.out).mono ?_); rintro e w1 ⟨rfl, hb'⟩; replace hbb := next hbb hb'; clear hb') | (go_at_call 5; (with_reducible refine (HR1.out.go _ (HG.out.next hbb)).mono ?_); rintro e w2 ⟨rfl, hb'⟩; have HB2 := Lib.hid (next hbb hb'); clear hb' hbb) | fail)
  obtain ⟨wA, hwA⟩ : ∃ wA, wA = w2.alloc (.cells #[.bool six, .int .u64 (hi : Int), .int .u64 (lo : Int)] 25) := ⟨_, rfl⟩
  have HSz : Hid (wA.heap.size = w2.heap.size + 1) := Lib.hid (by rw [hwA, size1])
  have HBA : Hid (Below w.heap.size w wA) := Lib.hid (by rw [hwA]; exact HB2.out.alloc HB2.out.size _)
  have HGA := Lib.hid (HG.out.next HBA.out)
  have HK : Hid (∀ w', Below wA.heap.size wA w' → AdB w' w2.heap.size six hi lo) := Lib.hid (fun w' hb => Lies.next (by rw [hwA]; exact Lies.new w2 _ _) hb)
  have HR0 : Hid (CanRel s wA (w2.heap.size + 1) (.int .i64 0) w3) := Lib.hid ⟨0, rfl, Nat.zero_le _, HRow3.out, by rw [hwA]; exact HB3.out⟩
  clear hwA
  go_loopw [6] (fun i wr => CanRel s wA (w2.heap.size + 1) i wr) (fun i _ => s.size - (intOf i).toNat)
  case atStart => exact HR0.out
  case round =>
    clear HR0
    obtain ⟨k, rfl, hk, hrow, hbb⟩ := hrel
    have hlen : (upL ((bs s).take k) ++ (bs s).drop k).length = s.size := by rw [List.length_append, upL_len, List.length_take, List.length_drop, bs_length]; omega
    by_cases hlt : k < s.size
    · have hc0 := hrow.cell k (by rw [hlen]; exact hlt)
      rw [up_here s k hlt] at hc0
      have hcell : wr.cell? ⟨w2.heap.size + 1, k, none⟩ = some (.int .u8 s[k].toNat) := hc0
      have hfree := hrow.free k (by rw [hlen]; exact hlt)
      by_cases hu : 97 ≤ s[k].toNat ∧ s[k].toNat ≤ 102
      · have HS := Lib.hid (hrow.set (by rw [hlen]; exact hlt) (up1 s[k]))
        have HV : Hid (B (up1 s[k]) = .int .u8 ((s[k].toNat : Int) - 32)) := Lib.hid (by unfold B; rw [up_yes s[k] hu])
        have hu1 : (97 : Int) ≤ s[k].toNat := by omega
        have hu2 : (s[k].toNat : Int) ≤ 102 := by omega
        clear hc0 hlen hu
        have HRr := Lib.hid hrow
        clear hrow
        go_wp2
        rw [← HV.out]
        go_roundw
        case rel => exact ⟨k + 1, by go_num, by omega, by rw [← up_step s k hlt]; exact HS.out, hbb.setCell (by rw [HSz.out]; exact Nat.le_refl _) _⟩
        case measure => simp [intOf]; omega
      · have HS : Hid (Row wr (w2.heap.size + 1) (upL ((bs s).take (k + 1)) ++ (bs s).drop (k + 1))) := Lib.hid (by rw [← up_skip s k hlt (up_no _ hu)]; exact hrow)
        clear hc0 hlen hrow
        by_cases hu1 : 97 ≤ s[k].toNat
        · have hu1' : (97 : Int) ≤ s[k].toNat := by omega
          have hu2 : ¬ (s[k].toNat : Int) ≤ 102 := by omega
          clear hu hu1
          go_wp2
          go_roundw
          case rel => exact ⟨k + 1, by go_num, by omega, HS.out, hbb⟩
          case measure => simp [intOf]; omega
        · have hu1' : ¬ (97 : Int) ≤ s[k].toNat := by omega
          clear hu hu1
          go_wp2
          go_roundw
          case rel => exact ⟨k + 1, by go_num, by omega, HS.out, hbb⟩
          case measure => simp [intOf]; omega
    · have ht : upL ((bs s).take k) ++ (bs s).drop k = upL (bs s) := by rw [List.take_of_length_le (by rw [bs_length]; omega), drop_end s k (by omega), List.append_nil]
      rw [ht] at hrow
      have HRow := Lib.hid hrow
      have hkI : ¬ (k : Int) < s.size := by omega
      clear ht hlen hrow hlt hk
      obtain ⟨⟨ha0, ha1, ha2⟩, _⟩ := (HK.out _ hbb).facts
      go_wp2_with (first | (go_at_call 6; (with_reducible refine (HT.out.go _ (HGA.out.next hbb)).mono ?_); rintro e w6 ⟨rfl, hb'⟩; replace LB := Lib.hid (LB.out.next hb'); replace HRow := Lib.hid (HRow.out.below hb' (Nat.lt_of_lt_of_le HRow.out.lt (Nat.le_refl _))); replace hbb := next hbb hb'; clear hb'; have hcv := bt.conv_row HRow.out s.size cap (by rw [upL_len, bs_length]); rw [← HU.out] at hcv) | (go_at_call 6; (with_reducible refine (HT.out.go _ (HGA.out.next hbb)).mono ?_); rintro e w4 ⟨rfl, hb'⟩; replace HRow := Lib.hid (HRow.out.below hb' HRow.out.lt); replace hbb := next hbb hb'; clear hb') | (go_at_call 5; (with_reducible refine (HR2.out.go _ (HGA.out.next hbb)).mono ?_); rintro e w5 ⟨rfl, hb'⟩; replace HRow := Lib.hid ((HRow.out.below hb' HRow.out.lt).alloc (.cells #[.bool six, .int .u64 (hi : Int), .int .u64 (lo : Int)] 25)); have LB := Lib.hid (Lies.new w5 25 #[.bool six, .int .u64 (hi : Int), .int .u64 (lo : Int)]); replace hbb := (next hbb hb').alloc (Nat.le_trans hbb.size hb'.size) (.cells #[.bool six, .int .u64 (hi : Int), .int .u64 (lo : Int)] 25); clear hb') | (go_at_call 5; (with_reducible refine (HR3.out.go _ (HGA.out.next hbb)).mono ?_); rintro e w7 ⟨rfl, hb'⟩; replace LB := Lib.hid ((LB.out.next hb').alloc (.cells #[.bool six, .int .u64 (hi : Int), .int .u64 (lo : Int)] 25)); replace hbb := (next hbb hb').alloc (Nat.le_trans hbb.size hb'.size) (.cells #[.bool six, .int .u64 (hi : Int), .int .u64 (lo : Int)] 25); clear hb'; obtain ⟨⟨hx0, hx1, hx2⟩, _⟩ := (HK.out _ hbb).facts; obtain ⟨⟨hy0, hy1, hy2⟩, _⟩ := AdB.facts LB.out) | fail)
      go_ret
      exact ⟨rfl, next HBA.out hbb⟩
theorem AddrCanon_walk (s : ByteArray) (w0 : s.size ≤ maxLen) (w : World) (hG : Ground w) : Calls Tryd.prog 3 #[.string s] w fun e w' => e = .returned (.bool true) ∧ Below w.heap.size w w' := by
  by_cases h : 100 < s.size
  · exact can_long s w hG h w0
  · rcases rd_cases (bs s) with hr | ⟨⟨six, hi, lo⟩, hr, hf, hc⟩
    · exact can_none s w hG (by omega) hr
    · exact can_some s w hG (by omega) six hi lo hr hf hc
end Go.Proofs.YtpaocfjpnajonaaDoor
