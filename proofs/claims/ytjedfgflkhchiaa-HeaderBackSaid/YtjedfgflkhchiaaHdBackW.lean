/-
  HeaderBack: the walk. The header's numbers are such as their types bear.
-/
import Derived.Test.YtjedfgflkhchiaaHdBm
namespace Go.Proofs.Ytjedfgflkhchiaa
open Go.RowKit
set_option linter.unusedVariables false

theorem eq_same (a : Hd) (w : World) : (Op.equalIn 10000 26 (hv a) (hv a)).run Try.prog w = .ok true w := by rw [hd_equal]; simp
theorem eq_none (w : World) : (Op.equalIn 10000 26 (.agg #[.int .u16 0, .bool false, .int .i64 0, .bool false, .bool false, .bool false, .bool false, .bool false, .bool false, .int .i64 0, .int .i64 0, .int .i64 0, .int .i64 0, .int .i64 0]) (.agg #[.int .u16 0, .bool false, .int .i64 0, .bool false, .bool false, .bool false, .bool false, .bool false, .bool false, .int .i64 0, .int .i64 0, .int .i64 0, .int .i64 0, .int .i64 0])).run Try.prog w = .ok true w := eq_same noH w
theorem hv_noH : hv noH = .agg #[.int .u16 0, .bool false, .int .i64 0, .bool false, .bool false, .bool false, .bool false, .bool false, .bool false, .int .i64 0, .int .i64 0, .int .i64 0, .int .i64 0, .int .i64 0] := by kernel_rfl
set_option maxHeartbeats 1000000 in
theorem hbk_long1 (L : Hd) (a1 a2 : ByteArray) (w : World) (hid : L.id < 65536) (h300 : 300 < a1.size) : Calls Try.prog 5 #[hv L, .string a1, .string a2] w fun e w' => e = .returned (.bool true) ∧ Below w.heap.size w w' := by
  have HLv := Lib.hid lives_any
  have HP := Lib.hid (Put_any L hid)
  have HC := Lib.hid (Check_any L)
  have hd : decide (300 < a1.size) = true := by simp; omega
  unfold hv at *
  go_enter Try.func5, Try.ntmps5
  go_wp2_with fail
  refine (HLv.out _).mono ?_
  rintro e w1 ⟨rfl, hb⟩
  have HB1 := Lib.hid (((Below.refl w.heap.size w).alloc (Nat.le_refl _) _).trans (hb.mono (by simp)))
  obtain ⟨c1, f1⟩ := bcell hb
  clear hb
  go_wp2
  go_ret
  exact ⟨rfl, HB1.out⟩
set_option maxHeartbeats 1000000 in
theorem hbk_long2 (L : Hd) (a1 a2 : ByteArray) (w : World) (hid : L.id < 65536) (h300 : a1.size ≤ 300) (k300 : 300 < a2.size) : Calls Try.prog 5 #[hv L, .string a1, .string a2] w fun e w' => e = .returned (.bool true) ∧ Below w.heap.size w w' := by
  have HLv := Lib.hid lives_any
  have HP := Lib.hid (Put_any L hid)
  have HC := Lib.hid (Check_any L)
  have hd1 : decide (300 < a1.size) = false := by simp; omega
  have hd2 : decide (300 < a2.size) = true := by simp; omega
  unfold hv at *
  go_enter Try.func5, Try.ntmps5
  go_wp2_with fail
  refine (HLv.out _).mono ?_
  rintro e w1 ⟨rfl, hb⟩
  have HB1 := Lib.hid (((Below.refl w.heap.size w).alloc (Nat.le_refl _) _).trans (hb.mono (by simp)))
  obtain ⟨c1, f1⟩ := bcell hb
  clear hb
  go_wp2
  go_ret
  exact ⟨rfl, HB1.out⟩
set_option maxHeartbeats 1000000 in
theorem hbk_00 (L : Hd) (a1 a2 : ByteArray) (w : World) (hid : L.id < 65536) (h300 : a1.size ≤ 300) (k300 : a2.size ≤ 300) (hm : mayB L = false) (hr : 0 < rdE (bs a1)) : Calls Try.prog 5 #[hv L, .string a1, .string a2] w fun e w' => e = .returned (.bool true) ∧ Below w.heap.size w w' := by
  have HLv := Lib.hid lives_any
  have HP := Lib.hid (Put_any L hid)
  have HC := Lib.hid (Check_any L)
  have HR1 := Lib.hid (fun wx => Read_any a1 wx (by unfold maxLen; omega))
  rw [rdP_no (l := bs a1) (e := rdE (bs a1)) rfl (by omega), hv_noH] at HR1
  obtain ⟨E, hE⟩ : ∃ E, E = rdE (bs a1) := ⟨_, rfl⟩
  rw [← hE] at HR1 hr
  have hne : ((E : Int) != 0) = true := by rw [bne_iff_ne]; omega
  clear hE hr
  have E0 := eq_none
  rw [chkH_bad hm, show ptV L = [] by unfold ptV; rw [hm]; rfl] at HP
  rw [chkH_bad hm] at HC
  clear hm hid
  have hd1 : decide (300 < a1.size) = false := by simp; omega
  have hd2 : decide (300 < a2.size) = false := by simp; omega
  unfold hv at *
  go_enter Try.func5, Try.ntmps5
  go_wp2_with fail
  refine (HLv.out _).mono ?_
  rintro e w1 ⟨rfl, hb⟩
  have HB1 := Lib.hid (((Below.refl w.heap.size w).alloc (Nat.le_refl _) _).trans (hb.mono (by simp)))
  obtain ⟨c1, f1⟩ := bcell hb
  have z1a : w.heap.size < w1.heap.size := by have := hb.size; (try simp at this); omega
  clear hb
  go_wp2_with fail
  refine (HP.out _).mono ?_
  rintro e w2 ⟨rfl, hb⟩
  have HB2 := Lib.hid (HB1.out.trans (hb.mono HB1.out.size))
  obtain ⟨c2, f2⟩ := bcell hb
  have z2a : w.heap.size < w2.heap.size := by have := hb.size; (try simp at this); omega
  clear hb
  go_wp2_with fail
  refine (HR1.out _).mono ?_
  rintro e w4 ⟨rfl, hb⟩
  have HB4 := Lib.hid (HB2.out.trans (hb.mono HB2.out.size))
  obtain ⟨c4, f4⟩ := bcell hb
  have z4a : w.heap.size < w4.heap.size := by have := hb.size; (try simp at this); omega
  clear hb
  go_wp2_with fail
  refine (HC.out _).mono ?_
  rintro e w5 ⟨rfl, hb⟩
  have HB5 := Lib.hid ((HB4.out.alloc HB4.out.size _).trans (hb.mono (by have := HB4.out.size; simp; omega)))
  obtain ⟨c5, f5⟩ := bcell hb
  clear hb
  go_wp2
  go_ret
  exact ⟨rfl, HB5.out⟩
set_option maxHeartbeats 1000000 in
theorem hbk_01 (L : Hd) (a1 a2 : ByteArray) (w : World) (hid : L.id < 65536) (h300 : a1.size ≤ 300) (k300 : a2.size ≤ 300) (hm : mayB L = false) (hr : rdE (bs a1) = 0) : Calls Try.prog 5 #[hv L, .string a1, .string a2] w fun e w' => e = .returned (.bool true) ∧ Below w.heap.size w w' := by
  have HLv := Lib.hid lives_any
  have HP := Lib.hid (Put_any L hid)
  have HC := Lib.hid (Check_any L)
  have HR1 := Lib.hid (fun wx => Read_any a1 wx (by unfold maxLen; omega))
  obtain ⟨my, iy, hl, hp⟩ := read_put hr
  obtain ⟨Y, hY⟩ : ∃ Y, Y = rdV (bs a1) := ⟨_, rfl⟩
  have HP2 := Lib.hid (Put_any Y (by rw [hY]; exact iy))
  have he : rdP (bs a1) = .tuple #[hv Y, .int .i64 0] := by unfold rdP; rw [hr, hY]; rfl
  rw [he] at HR1
  rw [← hY] at my hp
  have hX : (⟨(ptV Y).toArray⟩ : ByteArray) = a1.extract 0 12 := by
    apply bs_inj
    rw [bs_mk, bs_extract, List.drop_zero]
    unfold ptV
    rw [if_pos (mayB_yes.2 my)]
    exact hp
  rw [hX, chkH_ok my] at HP2
  have hl' : 12 ≤ a1.size := by rw [bs_length] at hl; exact hl
  have hdl : decide (12 ≤ a1.size) = true := by simp; omega
  clear hr my iy hl hp hY he hX
  rw [chkH_bad hm, show ptV L = [] by unfold ptV; rw [hm]; rfl] at HP
  rw [chkH_bad hm] at HC
  clear hm hid
  have hd1 : decide (300 < a1.size) = false := by simp; omega
  have hd2 : decide (300 < a2.size) = false := by simp; omega
  unfold hv at *
  go_enter Try.func5, Try.ntmps5
  go_wp2_with fail
  refine (HLv.out _).mono ?_
  rintro e w1 ⟨rfl, hb⟩
  have HB1 := Lib.hid (((Below.refl w.heap.size w).alloc (Nat.le_refl _) _).trans (hb.mono (by simp)))
  obtain ⟨c1, f1⟩ := bcell hb
  have z1a : w.heap.size < w1.heap.size := by have := hb.size; (try simp at this); omega
  clear hb
  go_wp2_with fail
  refine (HP.out _).mono ?_
  rintro e w2 ⟨rfl, hb⟩
  have HB2 := Lib.hid (HB1.out.trans (hb.mono HB1.out.size))
  obtain ⟨c2, f2⟩ := bcell hb
  have z2a : w.heap.size < w2.heap.size := by have := hb.size; (try simp at this); omega
  clear hb
  go_wp2_with fail
  refine (HR1.out _).mono ?_
  rintro e w4 ⟨rfl, hb⟩
  have HB4 := Lib.hid (HB2.out.trans (hb.mono HB2.out.size))
  obtain ⟨c4, f4⟩ := bcell hb
  have z4a : w.heap.size < w4.heap.size := by have := hb.size; (try simp at this); omega
  clear hb
  go_wp2_with fail
  refine (HP2.out _).mono ?_
  rintro e w5 ⟨rfl, hb⟩
  have HB5 := Lib.hid ((HB4.out.alloc HB4.out.size _).trans (hb.mono (by have := HB4.out.size; simp; omega)))
  obtain ⟨c5, f5⟩ := bcell hb
  clear hb
  go_wp2
  go_ret
  exact ⟨rfl, HB5.out⟩
set_option maxHeartbeats 1000000 in
theorem hbk_10 (L : Hd) (a1 a2 : ByteArray) (w : World) (hid : L.id < 65536) (h300 : a1.size ≤ 300) (k300 : a2.size ≤ 300) (hm : mayB L = true) (hr : 0 < rdE (bs a1)) : Calls Try.prog 5 #[hv L, .string a1, .string a2] w fun e w' => e = .returned (.bool true) ∧ Below w.heap.size w w' := by
  have HLv := Lib.hid lives_any
  have HP := Lib.hid (Put_any L hid)
  have HC := Lib.hid (Check_any L)
  have HR1 := Lib.hid (fun wx => Read_any a1 wx (by unfold maxLen; omega))
  rw [rdP_no (l := bs a1) (e := rdE (bs a1)) rfl (by omega), hv_noH] at HR1
  obtain ⟨E, hE⟩ : ∃ E, E = rdE (bs a1) := ⟨_, rfl⟩
  rw [← hE] at HR1 hr
  have hne : ((E : Int) != 0) = true := by rw [bne_iff_ne]; omega
  clear hE hr
  have E0 := eq_none
  have m := mayB_yes.1 hm
  obtain ⟨S, hS⟩ : ∃ S : ByteArray, S = ⟨(ptV L).toArray⟩ := ⟨_, rfl⟩
  have hSb : bs S = ocH L := by rw [hS, bs_mk]; unfold ptV; rw [hm]; rfl
  rw [chkH_ok m, ← hS] at HP
  obtain ⟨r1, r2⟩ := put_read m hid (bs a2)
  have HR2 := Lib.hid (fun wx => Read_any (S ++ a2) wx (by unfold maxLen; rw [← bs_length, bs_append, List.length_append, hSb, ocH_length, bs_length]; omega))
  have he : rdP (bs (S ++ a2)) = .tuple #[hv L, .int .i64 0] := by rw [bs_append, hSb]; unfold rdP; rw [r1, r2]; rfl
  rw [he] at HR2
  have hs12 : S.size = 12 := by rw [← bs_length, hSb, ocH_length]
  have hn12 : ((S.size : Int) != 12) = false := by rw [hs12]; rfl
  have hcat : ¬ 9223372036854775807 < S.size + a2.size := by omega
  have EL := eq_same L
  clear hm hid m hS hSb r1 r2 he hs12 HC
  have hd1 : decide (300 < a1.size) = false := by simp; omega
  have hd2 : decide (300 < a2.size) = false := by simp; omega
  unfold hv at *
  go_enter Try.func5, Try.ntmps5
  go_wp2_with fail
  refine (HLv.out _).mono ?_
  rintro e w1 ⟨rfl, hb⟩
  have HB1 := Lib.hid (((Below.refl w.heap.size w).alloc (Nat.le_refl _) _).trans (hb.mono (by simp)))
  obtain ⟨c1, f1⟩ := bcell hb
  have z1a : w.heap.size < w1.heap.size := by have := hb.size; (try simp at this); omega
  clear hb
  go_wp2_with fail
  refine (HP.out _).mono ?_
  rintro e w2 ⟨rfl, hb⟩
  have HB2 := Lib.hid (HB1.out.trans (hb.mono HB1.out.size))
  obtain ⟨c2, f2⟩ := bcell hb
  have z2a : w.heap.size < w2.heap.size := by have := hb.size; (try simp at this); omega
  clear hb
  go_wp2_with fail
  refine (HR2.out _).mono ?_
  rintro e w3 ⟨rfl, hb⟩
  have HB3 := Lib.hid (HB2.out.trans (hb.mono HB2.out.size))
  obtain ⟨c3, f3⟩ := bcell hb
  have z3a : w.heap.size < w3.heap.size := by have := hb.size; (try simp at this); omega
  clear hb
  go_wp2_with fail
  refine (HR1.out _).mono ?_
  rintro e w4 ⟨rfl, hb⟩
  have HB4 := Lib.hid ((HB3.out.alloc HB3.out.size _).trans (hb.mono (by have := HB3.out.size; simp; omega)))
  obtain ⟨c4, f4⟩ := bcell hb
  have z4a : w.heap.size < w4.heap.size := by have := hb.size; (try simp at this); omega
  have z4b : w3.heap.size < w4.heap.size := by have := hb.size; (try simp at this); omega
  clear hb
  go_wp2
  go_ret
  exact ⟨rfl, HB4.out.alloc HB4.out.size _⟩
set_option maxHeartbeats 1000000 in
theorem hbk_11 (L : Hd) (a1 a2 : ByteArray) (w : World) (hid : L.id < 65536) (h300 : a1.size ≤ 300) (k300 : a2.size ≤ 300) (hm : mayB L = true) (hr : rdE (bs a1) = 0) : Calls Try.prog 5 #[hv L, .string a1, .string a2] w fun e w' => e = .returned (.bool true) ∧ Below w.heap.size w w' := by
  have HLv := Lib.hid lives_any
  have HP := Lib.hid (Put_any L hid)
  have HC := Lib.hid (Check_any L)
  have HR1 := Lib.hid (fun wx => Read_any a1 wx (by unfold maxLen; omega))
  obtain ⟨my, iy, hl, hp⟩ := read_put hr
  obtain ⟨Y, hY⟩ : ∃ Y, Y = rdV (bs a1) := ⟨_, rfl⟩
  have HP2 := Lib.hid (Put_any Y (by rw [hY]; exact iy))
  have he : rdP (bs a1) = .tuple #[hv Y, .int .i64 0] := by unfold rdP; rw [hr, hY]; rfl
  rw [he] at HR1
  rw [← hY] at my hp
  have hX : (⟨(ptV Y).toArray⟩ : ByteArray) = a1.extract 0 12 := by
    apply bs_inj
    rw [bs_mk, bs_extract, List.drop_zero]
    unfold ptV
    rw [if_pos (mayB_yes.2 my)]
    exact hp
  rw [hX, chkH_ok my] at HP2
  have hl' : 12 ≤ a1.size := by rw [bs_length] at hl; exact hl
  have hdl : decide (12 ≤ a1.size) = true := by simp; omega
  clear hr my iy hl hp hY he hX
  have m := mayB_yes.1 hm
  obtain ⟨S, hS⟩ : ∃ S : ByteArray, S = ⟨(ptV L).toArray⟩ := ⟨_, rfl⟩
  have hSb : bs S = ocH L := by rw [hS, bs_mk]; unfold ptV; rw [hm]; rfl
  rw [chkH_ok m, ← hS] at HP
  obtain ⟨r1, r2⟩ := put_read m hid (bs a2)
  have HR2 := Lib.hid (fun wx => Read_any (S ++ a2) wx (by unfold maxLen; rw [← bs_length, bs_append, List.length_append, hSb, ocH_length, bs_length]; omega))
  have he : rdP (bs (S ++ a2)) = .tuple #[hv L, .int .i64 0] := by rw [bs_append, hSb]; unfold rdP; rw [r1, r2]; rfl
  rw [he] at HR2
  have hs12 : S.size = 12 := by rw [← bs_length, hSb, ocH_length]
  have hn12 : ((S.size : Int) != 12) = false := by rw [hs12]; rfl
  have hcat : ¬ 9223372036854775807 < S.size + a2.size := by omega
  have EL := eq_same L
  clear hm hid m hS hSb r1 r2 he hs12 HC
  have hd1 : decide (300 < a1.size) = false := by simp; omega
  have hd2 : decide (300 < a2.size) = false := by simp; omega
  unfold hv at *
  go_enter Try.func5, Try.ntmps5
  go_wp2_with fail
  refine (HLv.out _).mono ?_
  rintro e w1 ⟨rfl, hb⟩
  have HB1 := Lib.hid (((Below.refl w.heap.size w).alloc (Nat.le_refl _) _).trans (hb.mono (by simp)))
  obtain ⟨c1, f1⟩ := bcell hb
  have z1a : w.heap.size < w1.heap.size := by have := hb.size; (try simp at this); omega
  clear hb
  go_wp2_with fail
  refine (HP.out _).mono ?_
  rintro e w2 ⟨rfl, hb⟩
  have HB2 := Lib.hid (HB1.out.trans (hb.mono HB1.out.size))
  obtain ⟨c2, f2⟩ := bcell hb
  have z2a : w.heap.size < w2.heap.size := by have := hb.size; (try simp at this); omega
  clear hb
  go_wp2_with fail
  refine (HR2.out _).mono ?_
  rintro e w3 ⟨rfl, hb⟩
  have HB3 := Lib.hid (HB2.out.trans (hb.mono HB2.out.size))
  obtain ⟨c3, f3⟩ := bcell hb
  have z3a : w.heap.size < w3.heap.size := by have := hb.size; (try simp at this); omega
  clear hb
  go_wp2_with fail
  refine (HR1.out _).mono ?_
  rintro e w4 ⟨rfl, hb⟩
  have HB4 := Lib.hid ((HB3.out.alloc HB3.out.size _).trans (hb.mono (by have := HB3.out.size; simp; omega)))
  obtain ⟨c4, f4⟩ := bcell hb
  have z4a : w.heap.size < w4.heap.size := by have := hb.size; (try simp at this); omega
  have z4b : w3.heap.size < w4.heap.size := by have := hb.size; (try simp at this); omega
  clear hb
  go_wp2_with fail
  refine (HP2.out _).mono ?_
  rintro e w5 ⟨rfl, hb⟩
  have HB5 := Lib.hid ((HB4.out.alloc HB4.out.size _).trans (hb.mono (by have := HB4.out.size; simp; omega)))
  obtain ⟨c5, f5⟩ := bcell hb
  clear hb
  go_wp2
  go_ret
  exact ⟨rfl, HB5.out⟩
theorem HeaderBack_walk (v0 : Value) (a1 a2 : ByteArray) (w1 : a1.size ≤ maxLen) (w2 : a2.size ≤ maxLen) (w : World) (L : Hd) (hrow : v0 = hv L ∧ L.fits) :
    Calls Try.prog 5 #[v0, .string a1, .string a2] w fun e w' => e = .returned (.bool true) ∧ Below w.heap.size w w' := by
  obtain ⟨rfl, hf⟩ := hrow
  rcases Nat.lt_or_ge 300 a1.size with h | h
  · exact hbk_long1 L a1 a2 w hf.id h
  rcases Nat.lt_or_ge 300 a2.size with k | k
  · exact hbk_long2 L a1 a2 w hf.id h k
  rcases hm : mayB L with _ | _ <;> rcases Nat.eq_zero_or_pos (rdE (bs a1)) with hr | hr
  · exact hbk_01 L a1 a2 w hf.id h k hm hr
  · exact hbk_00 L a1 a2 w hf.id h k hm hr
  · exact hbk_11 L a1 a2 w hf.id h k hm hr
  · exact hbk_10 L a1 a2 w hf.id h k hm hr
end Go.Proofs.Ytjedfgflkhchiaa
