/-
  The walk of the law OctetsNames. No condition.
-/
import Derived.Test.YthdkceodoflnkaaOcTwo
namespace Go.Proofs.Ythdkceodoflnkaa
open Go.RowKit
set_option linter.unusedVariables false

def S5 : ByteArray := ⟨#[1, 2, 3, 4, 5]⟩
theorem on0 : numR (bs S5) 0 4 = ⟨[1, 2, 3, 4], 0, 4⟩ := by kernel_rfl
theorem oc0 (gr : Nat) (wx : World) (h : RD wx gr S5 0) : Calls Try.prog 12 #[.pointer (some ⟨gr, 0, none⟩), .int .i64 4] wx (Rdr wx gr S5 4 (.tuple #[.int .u32 16909060, .int .i64 0])) := by
  have := rNumber_any 4 h (by decide) (by decide)
  rw [on0] at this
  exact this
theorem on1 : numR (bs S5) 4 2 = ⟨[], 8, 4⟩ := by kernel_rfl
theorem oc1 (gr : Nat) (wx : World) (h : RD wx gr S5 4) : Calls Try.prog 12 #[.pointer (some ⟨gr, 0, none⟩), .int .i64 2] wx (Rdr wx gr S5 4 (.tuple #[.int .u32 0, .int .i64 8])) := by
  have := rNumber_any 2 h (by decide) (by decide)
  rw [on1] at this
  exact this
theorem on2 : numR (bs S5) 4 5 = ⟨[], 2, 4⟩ := by kernel_rfl
theorem oc2 (gr : Nat) (wx : World) (h : RD wx gr S5 4) : Calls Try.prog 12 #[.pointer (some ⟨gr, 0, none⟩), .int .i64 5] wx (Rdr wx gr S5 4 (.tuple #[.int .u32 0, .int .i64 2])) := by
  have := rNumber_any 5 h (by decide) (by decide)
  rw [on2] at this
  exact this
theorem on3 : takR (bs S5) 4 1 = ⟨[5], 0, 5⟩ := by kernel_rfl
theorem oc3 (gr : Nat) (wx : World) (h : RD wx gr S5 4) : Calls Try.prog 13 #[.pointer (some ⟨gr, 0, none⟩), .int .i64 1] wx (Rdr wx gr S5 5 (.tuple #[.string ⟨#[5]⟩, .int .i64 0])) := by
  have := rTake_any 1 h (by decide) (by decide)
  rw [on3] at this
  exact this
theorem on4 : takR (bs S5) 5 (-1) = ⟨[], 2, 5⟩ := by kernel_rfl
theorem oc4 (gr : Nat) (wx : World) (h : RD wx gr S5 5) : Calls Try.prog 13 #[.pointer (some ⟨gr, 0, none⟩), .int .i64 (-1)] wx (Rdr wx gr S5 5 (.tuple #[.string ⟨#[]⟩, .int .i64 2])) := by
  have := rTake_any (-1) h (by decide) (by decide)
  rw [on4] at this
  exact this
theorem on5 : seekR (bs S5) 5 6 = (2, 5) := by kernel_rfl
theorem oc5 (gr : Nat) (wx : World) (h : RD wx gr S5 5) : Calls Try.prog 14 #[.pointer (some ⟨gr, 0, none⟩), .int .i64 6] wx (Rdr wx gr S5 5 (.int .i64 2)) := by
  have := rSeek_any 6 h (by decide) (by decide)
  rw [on5] at this
  exact this
theorem on6 : seekR (bs S5) 5 1 = (0, 1) := by kernel_rfl
theorem oc6 (gr : Nat) (wx : World) (h : RD wx gr S5 5) : Calls Try.prog 14 #[.pointer (some ⟨gr, 0, none⟩), .int .i64 1] wx (Rdr wx gr S5 1 (.int .i64 0)) := by
  have := rSeek_any 1 h (by decide) (by decide)
  rw [on6] at this
  exact this
theorem on7 : numW 4 [] 0 256 1 = ⟨2, [], 0⟩ := by kernel_rfl
theorem oc7 (gw : Nat) (wx : World) (h : WR wx gw gw 4 [] 0) : Calls Try.prog 15 #[.pointer (some ⟨gw, 0, none⟩), .int .u32 256, .int .i64 1] wx (Wtr wx gw gw 4 [] 0 (.int .i64 2)) := by
  have := wNumber_any 256 1 h (by decide) (Nat.le_refl _) (by decide) (by decide) (by decide)
  rw [on7] at this
  exact this
theorem on8 : putW 4 [] 0 (bs ⟨#[97, 98, 99]⟩) = ⟨0, [97, 98, 99], 0⟩ := by kernel_rfl
theorem oc8 (gw : Nat) (wx : World) (h : WR wx gw gw 4 [] 0) : Calls Try.prog 16 #[.pointer (some ⟨gw, 0, none⟩), .string ⟨#[97, 98, 99]⟩] wx (Wtr wx gw gw 4 [97, 98, 99] 0 (.int .i64 0)) := by
  have := wPut_any ⟨#[97, 98, 99]⟩ h (Nat.le_refl _) (by decide) (by decide) (by decide) (by decide)
  rw [on8] at this
  exact this
theorem on9 : patW [97, 98, 99] 0 1 7 2 = ⟨0, [97, 0, 7], 0⟩ := by kernel_rfl
theorem oc9 (gw : Nat) (wx : World) (h : WR wx gw gw 4 [97, 98, 99] 0) : Calls Try.prog 17 #[.pointer (some ⟨gw, 0, none⟩), .int .i64 1, .int .u32 7, .int .i64 2] wx (Wtr wx gw gw 4 [97, 0, 7] 0 (.int .i64 0)) := by
  have := wPatch_any 1 7 2 h (by decide) (Nat.le_refl _) (by decide)
  rw [on9] at this
  exact this
theorem on10 : patW [97, 0, 7] 0 2 7 2 = ⟨2, [97, 0, 7], 0⟩ := by kernel_rfl
theorem oc10 (gw : Nat) (wx : World) (h : WR wx gw gw 4 [97, 0, 7] 0) : Calls Try.prog 17 #[.pointer (some ⟨gw, 0, none⟩), .int .i64 2, .int .u32 7, .int .i64 2] wx (Wtr wx gw gw 4 [97, 0, 7] 0 (.int .i64 2)) := by
  have := wPatch_any 2 7 2 h (by decide) (Nat.le_refl _) (by decide)
  rw [on10] at this
  exact this
theorem on11 : putW 4 [97, 0, 7] 0 (bs ⟨#[100, 101]⟩) = ⟨3, [97, 0, 7], 3⟩ := by kernel_rfl
theorem oc11 (gw : Nat) (wx : World) (h : WR wx gw gw 4 [97, 0, 7] 0) : Calls Try.prog 16 #[.pointer (some ⟨gw, 0, none⟩), .string ⟨#[100, 101]⟩] wx (Wtr wx gw gw 4 [97, 0, 7] 3 (.int .i64 3)) := by
  have := wPut_any ⟨#[100, 101]⟩ h (Nat.le_refl _) (by decide) (by decide) (by decide) (by decide)
  rw [on11] at this
  exact this
theorem on12 : patW [97, 0, 7] 3 0 1 1 = ⟨3, [97, 0, 7], 3⟩ := by kernel_rfl
theorem oc12 (gw : Nat) (wx : World) (h : WR wx gw gw 4 [97, 0, 7] 3) : Calls Try.prog 17 #[.pointer (some ⟨gw, 0, none⟩), .int .i64 0, .int .u32 1, .int .i64 1] wx (Wtr wx gw gw 4 [97, 0, 7] 3 (.int .i64 3)) := by
  have := wPatch_any 0 1 1 h (by decide) (Nat.le_refl _) (by decide)
  rw [on12] at this
  exact this
theorem on_z : putW 0 [] 0 (bs ⟨#[]⟩) = ⟨0, [], 0⟩ := by kernel_rfl
theorem oc_z (g : Nat) (wx : World) (h : WR wx g g 0 [] 0) : Calls Try.prog 16 #[.pointer (some ⟨g, 0, none⟩), .string ⟨#[]⟩] wx (Wtr wx g g 0 [] 0 (.int .i64 0)) := by
  have := wPut_any ⟨#[]⟩ h (Nat.le_refl _) (by decide) (by decide) (by decide) (by decide)
  rw [on_z] at this
  exact this
set_option maxHeartbeats 4000000 in
set_option maxRecDepth 100000 in
theorem OctetsNames_walk (w : World) : Calls Try.prog 3 #[] w fun e w' => e = .returned (.bool true) ∧ Below w.heap.size w w' := by
  have HN4 : Hid (∀ wx : World, Calls Try.prog 11 #[.int .i64 4] wx (NewW wx 4)) := Lib.hid fun wx => NewWriter_any 4 wx (by decide)
  have HNZ : Hid (∀ wx : World, Calls Try.prog 11 #[.int .i64 (-1)] wx (NewW wx 0)) := Lib.hid fun wx => NewWriter_any (-1) wx (by decide)
  go_enter Try.func3, Try.ntmps3
  go_wp2_with fail
  refine (lives_any _).mono ?_
  rintro e w1 ⟨rfl, hb1⟩
  have HB1 := Lib.hid hb1
  clear hb1
  go_wp2_with fail
  refine (NewReader_any S5 _).mono ?_
  rintro e w2 ⟨rfl, hr2, hb2⟩
  have HR2 := Lib.hid hr2
  have HB2 := Lib.hid (kp_first HB1.out hb2)
  clear hr2 hb2
  go_wp2_with fail
  refine (HN4.out _).mono ?_
  rintro e w3 ⟨rfl, hw3, _, hb3⟩
  obtain ⟨gr, hgr⟩ : ∃ gr, gr = w1.heap.size := ⟨_, rfl⟩
  obtain ⟨gw, hgw⟩ : ∃ gw, gw = w2.heap.size := ⟨_, rfl⟩
  have H0 : Hid (Two w w3 gr S5 0 gw 4 [] 0) := Lib.hid (by
    rw [hgr, hgw]
    exact ⟨Lies.next HR2.out hb3, hw3, kp_first HB2.out hb3, HB1.out.size, HB2.out.size, Nat.ne_of_lt HR2.out.lt⟩)
  rw [← hgr, ← hgw]
  clear hw3 hb3 HR2 HB2 HB1 hgr hgw
  go_wp2_with fail
  refine (oc0 gr _ H0.out.rd).mono ?_
  rintro e w4 ⟨rfl, hr, hg⟩
  have H1 := Lib.hid (H0.out.read hr hg)
  clear hr hg
  go_wp2_with fail
  refine (oc1 gr _ H1.out.rd).mono ?_
  rintro e w5 ⟨rfl, hr, hg⟩
  have H2 := Lib.hid (H1.out.read hr hg)
  clear hr hg
  go_wp2_with fail
  refine (oc2 gr _ H2.out.rd).mono ?_
  rintro e w6 ⟨rfl, hr, hg⟩
  have H3 := Lib.hid (H2.out.read hr hg)
  clear hr hg
  go_wp2_with fail
  refine (oc3 gr _ H3.out.rd).mono ?_
  rintro e w7 ⟨rfl, hr, hg⟩
  have H4 := Lib.hid (H3.out.read hr hg)
  clear hr hg
  go_wp2_with fail
  refine (oc4 gr _ H4.out.rd).mono ?_
  rintro e w8 ⟨rfl, hr, hg⟩
  have H5 := Lib.hid (H4.out.read hr hg)
  clear hr hg
  go_wp2_with fail
  refine (oc5 gr _ H5.out.rd).mono ?_
  rintro e w9 ⟨rfl, hr, hg⟩
  have H6 := Lib.hid (H5.out.read hr hg)
  clear hr hg
  go_wp2_with fail
  refine (oc6 gr _ H6.out.rd).mono ?_
  rintro e w10 ⟨rfl, hr, hg⟩
  have H7 := Lib.hid (H6.out.read hr hg)
  clear hr hg
  go_wp2_with fail
  refine (oc7 gw _ H7.out.wr).mono ?_
  rintro e w11 ⟨rfl, hw, hk⟩
  have H8 := Lib.hid (H7.out.write hw hk)
  clear hw hk
  go_wp2_with fail
  refine (oc8 gw _ H8.out.wr).mono ?_
  rintro e w12 ⟨rfl, hw, hk⟩
  have H9 := Lib.hid (H8.out.write hw hk)
  clear hw hk
  go_wp2_with fail
  refine (oc9 gw _ H9.out.wr).mono ?_
  rintro e w13 ⟨rfl, hw, hk⟩
  have H10 := Lib.hid (H9.out.write hw hk)
  clear hw hk
  go_wp2_with fail
  refine (oc10 gw _ H10.out.wr).mono ?_
  rintro e w14 ⟨rfl, hw, hk⟩
  have H11 := Lib.hid (H10.out.write hw hk)
  clear hw hk
  go_wp2_with fail
  refine (oc11 gw _ H11.out.wr).mono ?_
  rintro e w15 ⟨rfl, hw, hk⟩
  have H12 := Lib.hid (H11.out.write hw hk)
  clear hw hk
  go_wp2_with fail
  refine (rAt_any H12.out.rd).mono ?_
  rintro e w' ⟨rfl, rfl⟩
  go_wp2_with fail
  refine (rLeft_any H12.out.rd (by decide) (by decide)).mono ?_
  rintro e w' ⟨rfl, nd, rfl⟩
  have HD := Lib.hid (H12.out.drewN nd)
  go_wp2_with fail
  refine (wErr_any HD.out.wr).mono ?_
  rintro e w' ⟨rfl, rfl⟩
  go_wp2_with fail
  refine (wText_any HD.out.wr).mono ?_
  rintro e w' ⟨rfl, rfl⟩
  go_wp2_with fail
  refine (wLen_any HD.out.wr).mono ?_
  rintro e w' ⟨rfl, rfl⟩
  go_wp2_with fail
  refine (oc12 gw _ HD.out.wr).mono ?_
  rintro e wp ⟨rfl, hw, hk⟩
  have HP := Lib.hid (HD.out.write hw hk)
  clear hw hk
  go_wp2_with fail
  refine (HNZ.out _).mono ?_
  rintro e wz ⟨rfl, hw, _, hb⟩
  have HZ := Lib.hid hw
  have HBZ := Lib.hid (kp_first HP.out.below hb)
  have HSZ := Lib.hid HP.out.below.size
  clear hw hb
  go_wp2_with fail
  refine (oc_z _ _ HZ.out).mono ?_
  rintro e wl ⟨rfl, _, hk⟩
  have HBL := Lib.hid (HBZ.out.trans (hk.below.mono HSZ.out))
  clear hk
  go_wp2
  go_ret
  exact ⟨rfl, HBL.out⟩
end Go.Proofs.Ythdkceodoflnkaa
