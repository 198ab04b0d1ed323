/-
  header.Read, header.Reply, the chapter's example: the walks. The octets that are read are at most 2^46, a header's ID is one that its type bears.
-/
import Derived.Test.YtjedfgflkhchiaaHdOf
import Derived.Test.YtjedfgflkhchiaaHdPt
import Derived.Test.YtjedfgflkhchiaaHdEq
import Derived.Deep.DeepCutAuto
namespace Go.Proofs.Ytjedfgflkhchiaa
open Go.RowKit
set_option linter.unusedVariables false

/-- The cells of a header of noughts. -/
def hzc : Array Value := #[.int .u16 0, .bool false, .int .i64 0, .bool false, .bool false, .bool false, .bool false, .bool false, .bool false, .int .i64 0, .int .i64 0, .int .i64 0, .int .i64 0, .int .i64 0]
theorem hzc_eq : hcs noH = hzc := by kernel_rfl
theorem hz_set {w : World} {g : Nat} (h : Lies w g 26 hzc) : Lies ((((((((((((((w.setCell ⟨g, 0, none⟩ (.int .u16 0)).setCell ⟨g, 1, none⟩ (.bool false)).setCell ⟨g, 2, none⟩ (.int .i64 0)).setCell ⟨g, 3, none⟩ (.bool false)).setCell ⟨g, 4, none⟩ (.bool false)).setCell ⟨g, 5, none⟩ (.bool false)).setCell ⟨g, 6, none⟩ (.bool false)).setCell ⟨g, 7, none⟩ (.bool false)).setCell ⟨g, 8, none⟩ (.bool false)).setCell ⟨g, 9, none⟩ (.int .i64 0)).setCell ⟨g, 10, none⟩ (.int .i64 0)).setCell ⟨g, 11, none⟩ (.int .i64 0)).setCell ⟨g, 12, none⟩ (.int .i64 0)).setCell ⟨g, 13, none⟩ (.int .i64 0)) g 26 (hcs noH) := by
  have e : hcs noH = ((((((((((((((hzc).setIfInBounds 0 (.int .u16 0)).setIfInBounds 1 (.bool false)).setIfInBounds 2 (.int .i64 0)).setIfInBounds 3 (.bool false)).setIfInBounds 4 (.bool false)).setIfInBounds 5 (.bool false)).setIfInBounds 6 (.bool false)).setIfInBounds 7 (.bool false)).setIfInBounds 8 (.bool false)).setIfInBounds 9 (.int .i64 0)).setIfInBounds 10 (.int .i64 0)).setIfInBounds 11 (.int .i64 0)).setIfInBounds 12 (.int .i64 0)).setIfInBounds 13 (.int .i64 0) := by kernel_rfl
  rw [e]
  exact (((((((((((((h.set 0 _).set 1 _).set 2 _).set 3 _).set 4 _).set 5 _).set 6 _).set 7 _).set 8 _).set 9 _).set 10 _).set 11 _).set 12 _).set 13 _
theorem hz_below {w w1 : World} {g k : Nat} (h : Below k w w1) (hg : k ≤ g) : Below k w ((((((((((((((w1.setCell ⟨g, 0, none⟩ (.int .u16 0)).setCell ⟨g, 1, none⟩ (.bool false)).setCell ⟨g, 2, none⟩ (.int .i64 0)).setCell ⟨g, 3, none⟩ (.bool false)).setCell ⟨g, 4, none⟩ (.bool false)).setCell ⟨g, 5, none⟩ (.bool false)).setCell ⟨g, 6, none⟩ (.bool false)).setCell ⟨g, 7, none⟩ (.bool false)).setCell ⟨g, 8, none⟩ (.bool false)).setCell ⟨g, 9, none⟩ (.int .i64 0)).setCell ⟨g, 10, none⟩ (.int .i64 0)).setCell ⟨g, 11, none⟩ (.int .i64 0)).setCell ⟨g, 12, none⟩ (.int .i64 0)).setCell ⟨g, 13, none⟩ (.int .i64 0)) :=
  (((((((((((((h.setCell hg _).setCell hg _).setCell hg _).setCell hg _).setCell hg _).setCell hg _).setCell hg _).setCell hg _).setCell hg _).setCell hg _).setCell hg _).setCell hg _).setCell hg _).setCell hg _
theorem hz_cells {w : World} {g : Nat} (h : Lies w g 26 hzc) :
    (w.cell? ⟨g, 0, none⟩ = some (.int .u16 0) ∧ w.cell? ⟨g, 1, none⟩ = some (.bool false) ∧ w.cell? ⟨g, 2, none⟩ = some (.int .i64 0) ∧ w.cell? ⟨g, 3, none⟩ = some (.bool false) ∧ w.cell? ⟨g, 4, none⟩ = some (.bool false) ∧ w.cell? ⟨g, 5, none⟩ = some (.bool false) ∧ w.cell? ⟨g, 6, none⟩ = some (.bool false) ∧ w.cell? ⟨g, 7, none⟩ = some (.bool false) ∧ w.cell? ⟨g, 8, none⟩ = some (.bool false) ∧ w.cell? ⟨g, 9, none⟩ = some (.int .i64 0) ∧ w.cell? ⟨g, 10, none⟩ = some (.int .i64 0) ∧ w.cell? ⟨g, 11, none⟩ = some (.int .i64 0) ∧ w.cell? ⟨g, 12, none⟩ = some (.int .i64 0) ∧ w.cell? ⟨g, 13, none⟩ = some (.int .i64 0)) ∧
    w.frozen? ⟨g, 0, none⟩ = false ∧ w.frozen? ⟨g, 1, none⟩ = false ∧ w.frozen? ⟨g, 2, none⟩ = false ∧ w.frozen? ⟨g, 3, none⟩ = false ∧ w.frozen? ⟨g, 4, none⟩ = false ∧ w.frozen? ⟨g, 5, none⟩ = false ∧ w.frozen? ⟨g, 6, none⟩ = false ∧ w.frozen? ⟨g, 7, none⟩ = false ∧ w.frozen? ⟨g, 8, none⟩ = false ∧ w.frozen? ⟨g, 9, none⟩ = false ∧ w.frozen? ⟨g, 10, none⟩ = false ∧ w.frozen? ⟨g, 11, none⟩ = false ∧ w.frozen? ⟨g, 12, none⟩ = false ∧ w.frozen? ⟨g, 13, none⟩ = false :=
  ⟨⟨h.cell 0, h.cell 1, h.cell 2, h.cell 3, h.cell 4, h.cell 5, h.cell 6, h.cell 7, h.cell 8, h.cell 9, h.cell 10, h.cell 11, h.cell 12, h.cell 13⟩, h.free 0, h.free 1, h.free 2, h.free 3, h.free 4, h.free 5, h.free 6, h.free 7, h.free 8, h.free 9, h.free 10, h.free 11, h.free 12, h.free 13⟩
/-- What Read answers. -/
def rdP (l : List UInt8) : Value := .tuple #[hv (rdV l), .int .i64 (rdE l)]
theorem rdE_more {l : List UInt8} (h : l.length < 12) : rdE l = 8 := by unfold rdE; rw [if_pos h]
theorem rdE_bad {l : List UInt8} (h : 12 ≤ l.length) (hb : bit (wdAt l 1) 64 = true) : rdE l = 4 := by
  have : wdAt l 1 / 64 % 2 = 1 := by simpa [bit] using hb
  unfold rdE; rw [if_neg (by omega), if_pos this]
theorem rdE_ok {l : List UInt8} (h : 12 ≤ l.length) (hb : bit (wdAt l 1) 64 = false) : rdE l = 0 := by
  have : ¬ wdAt l 1 / 64 % 2 = 1 := by simpa [bit] using hb
  unfold rdE; rw [if_neg (by omega), if_neg this]
theorem rdP_no {l : List UInt8} {e : Nat} (h : rdE l = e) (he : e ≠ 0) : rdP l = .tuple #[hv noH, .int .i64 e] := by
  unfold rdP rdV
  rw [h, if_neg he]
theorem rdP_ok {l : List UInt8} (h : rdE l = 0) : rdP l = .tuple #[hv (ofW (wdAt l 0) (wdAt l 1) (wdAt l 2) (wdAt l 3) (wdAt l 4) (wdAt l 5)), .int .i64 0] := by
  unfold rdP rdV
  rw [h, if_pos rfl]
  rfl
theorem and_64 (f : Nat) (hf : f < 65536) : (bits BinOp.and IntKind.u32 (f : Int) 64 != 0) = bit f 64 := and_bit f 6 (by omega) (by decide)
set_option maxHeartbeats 600000 in
theorem Read_any (s : ByteArray) (w : World) (hs : s.size ≤ maxLen) :
    Calls Try.prog 10 #[.string s] w fun e w' => e = .returned (rdP (bs s)) ∧ Below w.heap.size w w' := by
  have HW := Lib.hid (fun wx => readWords_any s wx hs)
  obtain ⟨V, hV⟩ : ∃ V, V = rdP (bs s) := ⟨_, rfl⟩
  rw [← hV]
  rcases Nat.lt_or_ge s.size 12 with hno | hyes
  · rw [rwV_no hno] at HW
    rw [rdP_no (rdE_more (l := bs s) (by rw [bs_length]; exact hno)) (by decide)] at hV
    have HV := Lib.hid hV
    unfold ics at HW
    clear hs hno hV
    go_enter Try.func10, Try.ntmps10
    go_wp2_with fail
    refine (HW.out _).mono ?_
    rintro e w1 ⟨rfl, hb⟩
    have HL := Lib.hid ((Lies.new w 26 hzc).next hb)
    have HB := Lib.hid (((Below.refl w.heap.size w).alloc (Nat.le_refl _) _).trans (hb.mono (by simp)))
    clear hb
    go_upto_region 3 with (fail)
    obtain ⟨w2, hw2⟩ : ∃ w2, w2 = w1.alloc (.cells #[.int .u32 0, .int .u32 0, .int .u32 0, .int .u32 0, .int .u32 0, .int .u32 0] 45) := ⟨_, rfl⟩
    rw [← hw2]
    have hl := HL.out.alloc (.cells #[.int .u32 0, .int .u32 0, .int .u32 0, .int .u32 0, .int .u32 0, .int .u32 0] 45)
    have hb := HB.out.alloc (by have := HB.out.size; omega) (.cells #[.int .u32 0, .int .u32 0, .int .u32 0, .int .u32 0, .int .u32 0, .int .u32 0] 45)
    rw [← hw2] at hl hb
    obtain ⟨⟨c0, c1, c2, c3, c4, c5, c6, c7, c8, c9, c10, c11, c12, c13⟩, f0, f1, f2, f3, f4, f5, f6, f7, f8, f9, f10, f11, f12, f13⟩ := hz_cells hl
    have HL2 := Lib.hid (hz_set hl)
    have HB2 := Lib.hid (hz_below (g := w.heap.size) hb (Nat.le_refl _))
    clear hb hl hw2
    go_wp2
    refine bodyPost_ret (hd_two rfl _ _ w.heap.size noH rfl HL2.out) rfl ⟨?_, HB2.out⟩
    rw [HV.out]
    rfl
  · rw [rwV_yes hyes] at HW
    have k0 := wdAt_lt (bs s) 0
    have k1 := wdAt_lt (bs s) 1
    have k2 := wdAt_lt (bs s) 2
    have k3 := wdAt_lt (bs s) 3
    have k4 := wdAt_lt (bs s) 4
    have k5 := wdAt_lt (bs s) 5
    have h64 := and_64 (wdAt (bs s) 1) k1
    have HO := Lib.hid (fun wx => ofWords_any (wdAt (bs s) 0) (wdAt (bs s) 1) (wdAt (bs s) 2) (wdAt (bs s) 3) (wdAt (bs s) 4) (wdAt (bs s) 5) wx k0 k1 k2 k3 k4 k5)
    clear k0 k1 k2 k3 k4 k5
    rcases hbit : bit (wdAt (bs s) 1) 64 with _ | _
    · rw [rdP_ok (rdE_ok (l := bs s) (by rw [bs_length]; exact hyes) hbit)] at hV
      rw [hbit] at h64
      obtain ⟨X, hX⟩ : ∃ X, X = ofW (wdAt (bs s) 0) (wdAt (bs s) 1) (wdAt (bs s) 2) (wdAt (bs s) 3) (wdAt (bs s) 4) (wdAt (bs s) 5) := ⟨_, rfl⟩
      rw [← hX] at hV HO
      have HV := Lib.hid hV
      unfold hv at HO
      unfold ics at HW HO
      clear hs hyes hV hbit hX
      go_enter Try.func10, Try.ntmps10
      go_wp2_with fail
      refine (HW.out _).mono ?_
      rintro e w1 ⟨rfl, hb⟩
      have HL := Lib.hid ((Lies.new w 26 hzc).next hb)
      have HB := Lib.hid (((Below.refl w.heap.size w).alloc (Nat.le_refl _) _).trans (hb.mono (by simp)))
      clear hb
      go_wp2_with (go_at_call 20; refine (HO.out _).mono ?_; rintro e w3 ⟨rfl, hb⟩; have hl := (HL.out.alloc (.cells #[.int .u32 (wdAt (bs s) 0), .int .u32 (wdAt (bs s) 1), .int .u32 (wdAt (bs s) 2), .int .u32 (wdAt (bs s) 3), .int .u32 (wdAt (bs s) 4), .int .u32 (wdAt (bs s) 5)] 45)).next hb; obtain ⟨⟨c0, c1, c2, c3, c4, c5, c6, c7, c8, c9, c10, c11, c12, c13⟩, f0, f1, f2, f3, f4, f5, f6, f7, f8, f9, f10, f11, f12, f13⟩ := hz_cells hl; have HL2 := Lib.hid (hd_set (a := noH) (by rw [hzc_eq]; exact hl) X); have HB2 := Lib.hid (hd_below (g := w.heap.size) ((HB.out.alloc HB.out.size (.cells #[.int .u32 (wdAt (bs s) 0), .int .u32 (wdAt (bs s) 1), .int .u32 (wdAt (bs s) 2), .int .u32 (wdAt (bs s) 3), .int .u32 (wdAt (bs s) 4), .int .u32 (wdAt (bs s) 5)] 45)).trans (hb.mono (by have := HB.out.size; simp; omega))) (Nat.le_refl _) X); clear hb hl)
      refine bodyPost_ret (hd_two rfl _ _ w.heap.size X rfl HL2.out) rfl ⟨?_, HB2.out⟩
      rw [HV.out]
      rfl
    · rw [rdP_no (rdE_bad (l := bs s) (by rw [bs_length]; exact hyes) hbit) (by decide)] at hV
      rw [hbit] at h64
      have HV := Lib.hid hV
      unfold ics at HW
      clear hs hyes hV hbit HO
      go_enter Try.func10, Try.ntmps10
      go_wp2_with fail
      refine (HW.out _).mono ?_
      rintro e w1 ⟨rfl, hb⟩
      have HL := Lib.hid ((Lies.new w 26 hzc).next hb)
      have HB := Lib.hid (((Below.refl w.heap.size w).alloc (Nat.le_refl _) _).trans (hb.mono (by simp)))
      clear hb
      go_upto_region 5 with (fail)
      obtain ⟨w2, hw2⟩ : ∃ w2, w2 = w1.alloc (.cells #[.int .u32 (wdAt (bs s) 0), .int .u32 (wdAt (bs s) 1), .int .u32 (wdAt (bs s) 2), .int .u32 (wdAt (bs s) 3), .int .u32 (wdAt (bs s) 4), .int .u32 (wdAt (bs s) 5)] 45) := ⟨_, rfl⟩
      rw [← hw2]
      have hl := HL.out.alloc (.cells #[.int .u32 (wdAt (bs s) 0), .int .u32 (wdAt (bs s) 1), .int .u32 (wdAt (bs s) 2), .int .u32 (wdAt (bs s) 3), .int .u32 (wdAt (bs s) 4), .int .u32 (wdAt (bs s) 5)] 45)
      have hb := HB.out.alloc HB.out.size (.cells #[.int .u32 (wdAt (bs s) 0), .int .u32 (wdAt (bs s) 1), .int .u32 (wdAt (bs s) 2), .int .u32 (wdAt (bs s) 3), .int .u32 (wdAt (bs s) 4), .int .u32 (wdAt (bs s) 5)] 45)
      rw [← hw2] at hl hb
      obtain ⟨⟨c0, c1, c2, c3, c4, c5, c6, c7, c8, c9, c10, c11, c12, c13⟩, f0, f1, f2, f3, f4, f5, f6, f7, f8, f9, f10, f11, f12, f13⟩ := hz_cells hl
      have HL2 := Lib.hid (hz_set hl)
      have HB2 := Lib.hid (hz_below (g := w.heap.size) hb (Nat.le_refl _))
      clear hb hl hw2
      go_wp2
      refine bodyPost_ret (hd_two rfl _ _ w.heap.size noH rfl HL2.out) rfl ⟨?_, HB2.out⟩
      rw [HV.out]
      rfl

theorem i64_and15 (n : Int) : bits .and .i64 n 15 = n % 16 := by
  have h15 : (BitVec.ofInt 64 15).toNat = 2 ^ 4 - 1 := by decide
  have key : (BitVec.ofInt 64 n &&& BitVec.ofInt 64 15).toNat = (n % ((2 ^ 64 : Nat) : Int)).toNat % 2 ^ 4 := by
    rw [BitVec.toNat_and, BitVec.toNat_ofInt, h15, Nat.and_two_pow_sub_one_eq_mod]
  show IntKind.i64.wrap ((BitVec.ofInt 64 n &&& BitVec.ofInt 64 15).toNat : Nat) = n % 16
  rw [key, IntKind.wrap_i64]
  omega
theorem Reply_any (h : Hd) (r : Int) (w : World) :
    Calls Try.prog 12 #[hv h, .int .i64 r] w fun e w' => e = .returned (hv (repH h r)) ∧ Below w.heap.size w w' := by
  obtain ⟨X, hX⟩ : ∃ X, X = repH h r := ⟨_, rfl⟩
  rw [← hX]
  have HX := Lib.hid hX
  have ha := i64_and15 r
  have HL : Hid (Lies ((w.alloc (.cells (hcs h) 26)).alloc (.cells (hcs X) 26)) (w.heap.size + 1) 26 (hcs X)) := Lib.hid (by
    have := Lies.new (w.alloc (.cells (hcs h) 26)) 26 (hcs X)
    rw [show (w.alloc (.cells (hcs h) 26)).heap.size = w.heap.size + 1 by simp] at this
    exact this)
  clear hX
  unfold hv
  go_enter Try.func12, Try.ntmps12
  go_wp2
  have hx := HX.out
  subst hx
  refine bodyPost_ret (hd_one rfl _ _ (w.heap.size + 1) (repH h r) rfl HL.out) rfl ⟨rfl, ?_⟩
  exact ((Below.refl _ _).alloc (Nat.le_refl _) _).alloc (by simp) _

/-! ### The chapter's example -/
def exH : Hd := ⟨1, false, 0, false, false, true, false, false, false, 0, 1, 0, 0, 0⟩
theorem lives_any (w : World) : Calls Try.prog 9 #[] w fun e w' => e = .returned (.bool true) ∧ Below w.heap.size w w' := by
  have HP := Lib.hid (fun wx => Put_any exH (by decide) wx)
  rw [show chkH exH = 0 by decide, show ptV exH = [0, 1, 1, 0, 0, 1, 0, 0, 0, 0, 0, 0] by decide] at HP
  replace HP : Hid (∀ wx : World, Calls Try.prog 11 #[.agg #[.int .u16 1, .bool false, .int .i64 0, .bool false, .bool false, .bool true, .bool false, .bool false, .bool false, .int .i64 0, .int .i64 1, .int .i64 0, .int .i64 0, .int .i64 0]] wx fun e w' => e = .returned (.tuple #[.string ⟨#[0, 1, 1, 0, 0, 1, 0, 0, 0, 0, 0, 0]⟩, .int .i64 0]) ∧ Below wx.heap.size wx w') := HP
  go_enter Try.func9, Try.ntmps9
  go_wp2_with (go_at_call 11; refine (HP.out _).mono ?_; rintro e w1 ⟨rfl, hb⟩)
  go_ret
  exact ⟨rfl, hb⟩
end Go.Proofs.Ytjedfgflkhchiaa
