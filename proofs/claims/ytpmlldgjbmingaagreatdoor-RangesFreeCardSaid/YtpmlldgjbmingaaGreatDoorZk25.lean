/-
  Numbers of at most three digits as the library writes them, and read: the walks of strconv.FormatUint at base 10, ranges.number. Conditions: the laid tables' cells and errors (Ground), texts of at most 2^48 octets.
-/
import Derived.Test.YtpmlldgjbmingaaGreatDoorZk23
import Derived.Test.YtpmlldgjbmingaaGreatDoorZk21
import Derived.Lib.AppendIntMem
import Derived.Lib.OwnBridge
namespace Go.Proofs.YtpmlldgjbmingaaGreatDoor
open Go.RowKit
open Go.Sort (putRow mapBlock cell?_putRow)
set_option linter.unusedVariables false

theorem nd3 {u : Nat} (h : 100 ≤ u) (h2 : u < 1000) : Lib.nDigits u = 3 := by
  rw [Lib.nDigits_big (by omega), Lib.nDigits_big (by omega), Lib.nDigits_small (by omega)]
theorem below_put {α : Type} [Inhabited α] {enc : α → Value} {n g o : Nat} {w0 w : World} {d : Array α} (h : Below n w0 w) (hg : n ≤ g) : Below n w0 (putRow enc w g o d) :=
  ⟨h.os, h.tape, h.output, by simpa [putRow, mapBlock] using h.size, fun k hk => by
    rw [← h.block k hk]
    simp [putRow, mapBlock, Array.getElem?_modify, show g ≠ k by omega]⟩
set_option maxRecDepth 100000 in
theorem fu_small (u : Nat) (w : World) (hu : u < 100) :
    Calls Tryz.prog 148 #[.int .u64 u, .int .i64 10] w fun e w' => e = .returned (.string ⟨(decT u).toArray⟩) ∧ Below w.heap.size w w' := by
  have HS := Lib.hid (Tryz.internal_strconv_small u hu)
  rw [show Lib.decDigits u = decT u from (Lib.itoa_nonneg u).symm] at HS
  go_enter Tryz.func148, Tryz.ntmps148
  go_wp2_with (first | (go_at_call 165; (with_reducible refine (HS.out _).mono ?_); rintro e w' ⟨rfl, rfl⟩) | fail)
  go_ret
  exact ⟨rfl, Below.refl _ _⟩
/-- What stands behind the digits: the row reads as the number's text. -/
theorem digs3 {w w' : World} {u k v' : Nat} {dk : Array UInt8} (h1 : 100 ≤ u) (h2 : u < 1000) (hF : Lib.FmtInv 3 u 0 v' dk) (hw : w' = (putRow (fun (b : UInt8) => Value.int .u8 (b.toNat : Int)) (w.alloc (.cells Lib.zeros24 178)) w.heap.size 0 dk).drewN k) :
    (convert 74 9 (.slice (some ⟨w.heap.size, 0, none⟩) 3 24)).run Tryz.prog w' = .ok (.string ⟨(decT u).toArray⟩) w' ∧ Below w.heap.size w w' := by
  have hn := nd3 h1 h2
  have hl : (Lib.decDigits u).length = 3 := by rw [Lib.decDigits_length, hn]
  have hH := Lib.holds_zero0 w 178 3 (by omega)
  have hF' : Lib.FmtInv (Lib.nDigits u) u 0 v' dk := by rw [hn]; exact hF
  refine ⟨?_, ?_⟩
  · rw [hw]
    have h := run_convert_bytes_back (P := Tryz.prog) ((putRow (fun (b : UInt8) => Value.int .u8 (b.toNat : Int)) (w.alloc (.cells Lib.zeros24 178)) w.heap.size 0 dk).drewN k) 74 9 5 ⟨w.heap.size, 0, none⟩ 24 (Lib.decDigits u) Tryz.underlying74 Tryz.underlying5 Tryz.underlying9 (fun j hj => by
      rw [Lib.row_is_numeral hF' j hj, Lib.add_plain, World.cell?_drewN]
      exact cell?_putRow (fun (b : UInt8) => Value.int .u8 (b.toNat : Int)) _ w.heap.size 0 _ dk hH (by rw [hF.size, Array.size_replicate]) j (by rw [hF.size]; omega))
    rw [hl] at h
    rw [show decT u = Lib.decDigits u from Lib.itoa_nonneg u]
    exact h
  · rw [hw]
    exact below_dN (below_put ((Below.refl _ _).alloc (Nat.le_refl _) _) (Nat.le_refl _)) k
set_option maxRecDepth 100000 in
set_option maxHeartbeats 2000000 in
theorem fu_big (u : Nat) (w : World) (h1 : 100 ≤ u) (h2 : u < 1000) (hG : Ground w) :
    Calls Tryz.prog 148 #[.int .u64 u, .int .i64 10] w fun e w' => e = .returned (.string ⟨(decT u).toArray⟩) ∧ Below w.heap.size w w' := by
  have hN := fun wx ht => Tryz.internal_strconv_numDigits u (by omega) (by omega) wx ht
  rw [nd3 h1 h2] at hN
  have HN := Lib.hid hN
  have hfmt := Tryz.internal_strconv_formatBase10 w.heap.size 0 24 u (Array.replicate 3 0) (w.alloc (.cells Lib.zeros24 178)) (Lib.holds_zero0 w 178 3 (by omega)) (by rw [Array.size_replicate]; omega) (by omega) (by rw [Array.size_replicate]; omega)
  rw [Array.size_replicate] at hfmt
  have HF := Lib.hid hfmt
  have HT := Lib.hid (Lib.tabIs_alloc hG.pow10 (.cells Lib.zeros24 178))
  have HD := Lib.hid (fun (w' : World) (k v' : Nat) (dk : Array UInt8) hF hw => digs3 (w := w) (w' := w') (k := k) (v' := v') (dk := dk) h1 h2 hF hw)
  unfold Lib.zeros24 at HF HT HD
  clear hN hfmt hG
  go_enter Tryz.func148, Tryz.ntmps148
  go_wp2_with (first | (go_at_call 166; (with_reducible refine (HN.out _ HT.out).mono ?_); rintro e w' ⟨rfl, rfl⟩) | (go_at_call 167; (with_reducible refine HF.out.mono ?_); rintro e w' ⟨rfl, k, v', dk, hw', hF⟩; obtain ⟨hcv, hb⟩ := HD.out _ _ _ _ hF hw'; have HB := Lib.hid hb; clear hw' hF hb) | fail)
  go_ret
  exact ⟨rfl, HB.out⟩
theorem fmtU_any (u : Nat) (w : World) (hu : u < 1000) (hG : Ground w) :
    Calls Tryz.prog 126 #[.int .u64 u, .int .i64 10] w fun e w' => e = .returned (.string ⟨(decT u).toArray⟩) ∧ Below w.heap.size w w' := by
  have HF : Hid (Calls Tryz.prog 148 #[.int .u64 u, .int .i64 10] w fun e w' => e = .returned (.string ⟨(decT u).toArray⟩) ∧ Below w.heap.size w w') := Lib.hid (by
    rcases Nat.lt_or_ge u 100 with h | h
    · exact fu_small u w h
    · exact fu_big u w h hu hG)
  clear hG
  go_enter Tryz.func126, Tryz.ntmps126
  go_wp2_with (first | (go_at_call 148; (with_reducible refine HF.out.mono ?_); rintro e w1 ⟨rfl, hb1⟩; have HB1 := Lib.hid hb1; clear hb1) | fail)
  go_ret
  exact ⟨rfl, HB1.out⟩
set_option maxHeartbeats 1000000 in
theorem rNumber_any (s : ByteArray) (w : World) (hs : s.size ≤ 281474976710656) (hG : Ground w) :
    Calls Tryz.prog 83 #[.string s] w fun e w' => e = .returned (optV .i64 (numG (bs s))) ∧ Below w.heap.size w w' := by
  have HG := Lib.hid hG
  cases h : Lib.parseUintB 16 s.data.toList with
  | «syntax» =>
    have e : numG (bs s) = none := by unfold numG; rw [show bs s = s.data.toList from rfl, h]
    rw [e]
    obtain ⟨tp, p, hv⟩ := hG.syn
    have HP := Lib.hid (Tryz.strconv_ParseUint_10_at16_syntax_var s hs h tp p w hv)
    clear hG
    go_enter Tryz.func83, Tryz.ntmps83
    go_wp2_with (first | (go_at_call 125; (with_reducible refine HP.out.mono ?_); rintro e w1 ⟨N, rfl, _, _, hb1⟩; have HB1 := Lib.hid hb1; clear hb1) | fail)
    go_ret2
    exact ⟨rfl, HB1.out⟩
  | range =>
    have e : numG (bs s) = none := by unfold numG; rw [show bs s = s.data.toList from rfl, h]
    rw [e]
    obtain ⟨tp, p, hv⟩ := hG.rng
    have HP := Lib.hid (Tryz.strconv_ParseUint_10_at16_range_var s hs h tp p w hv)
    clear hG
    go_enter Tryz.func83, Tryz.ntmps83
    go_wp2_with (first | (go_at_call 125; (with_reducible refine HP.out.mono ?_); rintro e w1 ⟨N, rfl, _, _, hb1⟩; have HB1 := Lib.hid hb1; clear hb1) | fail)
    go_ret2
    exact ⟨rfl, HB1.out⟩
  | ok u =>
    have hu := parse16_le h
    have e : numG (bs s) = if (bs s).length ≤ 3 ∧ decT u = bs s then some u else none := by unfold numG; rw [show bs s = s.data.toList from rfl, h]
    have HP : Hid (Calls Tryz.prog 125 #[.string s, .int .i64 10, .int .i64 16] w fun e w' => e = .returned (.tuple #[.int .u64 u, .nilIface]) ∧ Below w.heap.size w w') := Lib.hid ((Tryz.strconv_ParseUint_10_at16_ok s (by omega) u h w).mono (by
      rintro e w' ⟨rfl, rfl | rfl⟩
      · exact ⟨rfl, Below.refl _ _⟩
      · exact ⟨rfl, Joins.below_bytesWorld _ _ _ _ (Nat.le_refl _)⟩))
    rw [e, bs_length]
    clear e
    by_cases hl : s.size ≤ 3
    · have hu3 : u < 1000 := parse_small h (by rw [← bs_length] at hl; exact hl)
      have HD := Lib.hid (fun wx hg => fmtU_any u wx hu3 hg)
      have hgt : ¬ (3 : Int) < (s.size : Int) := by omega
      have hgd : decide ((3 : Int) < (s.size : Int)) = false := by simpa using (by omega : (s.size : Int) ≤ 3)
      clear hG h
      by_cases hd : decT u = bs s
      · rw [if_pos ⟨hl, hd⟩]
        have hq : (⟨(decT u).toArray⟩ : ByteArray) = s := bs_inj (by rw [bs_mk]; exact hd)
        rw [hq] at HD
        clear hd hq
        go_enter Tryz.func83, Tryz.ntmps83
        go_wp2_with (first | (go_at_call 125; (with_reducible refine HP.out.mono ?_); rintro e w1 ⟨rfl, hb1⟩; have HB1 := Lib.hid hb1; clear hb1) | (go_at_call 126; (with_reducible refine (HD.out _ (HG.out.next HB1.out)).mono ?_); rintro e w2 ⟨rfl, hb2⟩; have HB2 := Lib.hid hb2; clear hb2) | fail)
        go_ret2
        exact ⟨rfl, next HB1.out HB2.out⟩
      · rw [if_neg (fun x => hd x.2)]
        obtain ⟨D, hD⟩ : ∃ D : ByteArray, D = ⟨(decT u).toArray⟩ := ⟨_, rfl⟩
        have hq : (D.toList == s.toList) = false := beq_eq_false_iff_ne.2 (fun e => hd (by rw [bs_toList, bs_toList, hD, bs_mk] at e; exact e))
        have hq2 : (D.toList != s.toList) = true := by rw [bne, hq]; rfl
        rw [← hD] at HD
        clear hD hd
        go_enter Tryz.func83, Tryz.ntmps83
        go_wp2_with (first | (go_at_call 125; (with_reducible refine HP.out.mono ?_); rintro e w1 ⟨rfl, hb1⟩; have HB1 := Lib.hid hb1; clear hb1) | (go_at_call 126; (with_reducible refine (HD.out _ (HG.out.next HB1.out)).mono ?_); rintro e w2 ⟨rfl, hb2⟩; have HB2 := Lib.hid hb2; clear hb2) | fail)
        go_ret2
        exact ⟨rfl, next HB1.out HB2.out⟩
    · rw [if_neg (fun x => hl x.1)]
      have hgt : (3 : Int) < (s.size : Int) := by omega
      have hgd : decide ((3 : Int) < (s.size : Int)) = true := by simpa using hgt
      clear hG h
      go_enter Tryz.func83, Tryz.ntmps83
      go_wp2_with (first | (go_at_call 125; (with_reducible refine HP.out.mono ?_); rintro e w1 ⟨rfl, hb1⟩; have HB1 := Lib.hid hb1; clear hb1) | fail)
      go_ret2
      exact ⟨rfl, HB1.out⟩
end Go.Proofs.YtpmlldgjbmingaaGreatDoor
