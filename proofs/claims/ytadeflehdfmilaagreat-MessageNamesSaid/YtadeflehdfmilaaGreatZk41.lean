/-
  header.Read, header.Reply, the chapter's example: the walks. The octets that are read are at most 2^46, a header's ID is one that its type bears. HeaderBack: the mathematics and the walk. The header's ID is one that its type bears.
-/
import Derived.Test.YtadeflehdfmilaaGreatZk40
import Derived.Test.YtadeflehdfmilaaGreatZk39
import Derived.Deep.DeepCutAuto
import Derived.Test.YtadeflehdfmilaaGreatZk4
import Derived.Test.YtadeflehdfmilaaGreatQui
namespace Go.Proofs.YtadeflehdfmilaaGreat
open Go.RowKit
set_option linter.unusedVariables false

/-- The cells of a header of noughts. -/
def hzc : Array Value := #[.int .u16 0, .bool false, .int .i64 0, .bool false, .bool false, .bool false, .bool false, .bool false, .bool false, .int .i64 0, .int .i64 0, .int .i64 0, .int .i64 0, .int .i64 0]
theorem hzc_eq : hcs noH = hzc := by kernel_rfl
theorem hz_set {w : World} {g : Nat} (h : Lies w g 50 hzc) : Lies ((((((((((((((w.setCell ⟨g, 0, none⟩ (.int .u16 0)).setCell ⟨g, 1, none⟩ (.bool false)).setCell ⟨g, 2, none⟩ (.int .i64 0)).setCell ⟨g, 3, none⟩ (.bool false)).setCell ⟨g, 4, none⟩ (.bool false)).setCell ⟨g, 5, none⟩ (.bool false)).setCell ⟨g, 6, none⟩ (.bool false)).setCell ⟨g, 7, none⟩ (.bool false)).setCell ⟨g, 8, none⟩ (.bool false)).setCell ⟨g, 9, none⟩ (.int .i64 0)).setCell ⟨g, 10, none⟩ (.int .i64 0)).setCell ⟨g, 11, none⟩ (.int .i64 0)).setCell ⟨g, 12, none⟩ (.int .i64 0)).setCell ⟨g, 13, none⟩ (.int .i64 0)) g 50 (hcs noH) := by
  have e : hcs noH = ((((((((((((((hzc).setIfInBounds 0 (.int .u16 0)).setIfInBounds 1 (.bool false)).setIfInBounds 2 (.int .i64 0)).setIfInBounds 3 (.bool false)).setIfInBounds 4 (.bool false)).setIfInBounds 5 (.bool false)).setIfInBounds 6 (.bool false)).setIfInBounds 7 (.bool false)).setIfInBounds 8 (.bool false)).setIfInBounds 9 (.int .i64 0)).setIfInBounds 10 (.int .i64 0)).setIfInBounds 11 (.int .i64 0)).setIfInBounds 12 (.int .i64 0)).setIfInBounds 13 (.int .i64 0) := by kernel_rfl
  rw [e]
  exact (((((((((((((h.set 0 _).set 1 _).set 2 _).set 3 _).set 4 _).set 5 _).set 6 _).set 7 _).set 8 _).set 9 _).set 10 _).set 11 _).set 12 _).set 13 _
theorem hz_below {w w1 : World} {g k : Nat} (h : Below k w w1) (hg : k ≤ g) : Below k w ((((((((((((((w1.setCell ⟨g, 0, none⟩ (.int .u16 0)).setCell ⟨g, 1, none⟩ (.bool false)).setCell ⟨g, 2, none⟩ (.int .i64 0)).setCell ⟨g, 3, none⟩ (.bool false)).setCell ⟨g, 4, none⟩ (.bool false)).setCell ⟨g, 5, none⟩ (.bool false)).setCell ⟨g, 6, none⟩ (.bool false)).setCell ⟨g, 7, none⟩ (.bool false)).setCell ⟨g, 8, none⟩ (.bool false)).setCell ⟨g, 9, none⟩ (.int .i64 0)).setCell ⟨g, 10, none⟩ (.int .i64 0)).setCell ⟨g, 11, none⟩ (.int .i64 0)).setCell ⟨g, 12, none⟩ (.int .i64 0)).setCell ⟨g, 13, none⟩ (.int .i64 0)) :=
  (((((((((((((h.setCell hg _).setCell hg _).setCell hg _).setCell hg _).setCell hg _).setCell hg _).setCell hg _).setCell hg _).setCell hg _).setCell hg _).setCell hg _).setCell hg _).setCell hg _).setCell hg _
theorem hz_cells {w : World} {g : Nat} (h : Lies w g 50 hzc) :
    (w.cell? ⟨g, 0, none⟩ = some (.int .u16 0) ∧ w.cell? ⟨g, 1, none⟩ = some (.bool false) ∧ w.cell? ⟨g, 2, none⟩ = some (.int .i64 0) ∧ w.cell? ⟨g, 3, none⟩ = some (.bool false) ∧ w.cell? ⟨g, 4, none⟩ = some (.bool false) ∧ w.cell? ⟨g, 5, none⟩ = some (.bool false) ∧ w.cell? ⟨g, 6, none⟩ = some (.bool false) ∧ w.cell? ⟨g, 7, none⟩ = some (.bool false) ∧ w.cell? ⟨g, 8, none⟩ = some (.bool false) ∧ w.cell? ⟨g, 9, none⟩ = some (.int .i64 0) ∧ w.cell? ⟨g, 10, none⟩ = some (.int .i64 0) ∧ w.cell? ⟨g, 11, none⟩ = some (.int .i64 0) ∧ w.cell? ⟨g, 12, none⟩ = some (.int .i64 0) ∧ w.cell? ⟨g, 13, none⟩ = some (.int .i64 0)) ∧
    w.frozen? ⟨g, 0, none⟩ = false ∧ w.frozen? ⟨g, 1, none⟩ = false ∧ w.frozen? ⟨g, 2, none⟩ = false ∧ w.frozen? ⟨g, 3, none⟩ = false ∧ w.frozen? ⟨g, 4, none⟩ = false ∧ w.frozen? ⟨g, 5, none⟩ = false ∧ w.frozen? ⟨g, 6, none⟩ = false ∧ w.frozen? ⟨g, 7, none⟩ = false ∧ w.frozen? ⟨g, 8, none⟩ = false ∧ w.frozen? ⟨g, 9, none⟩ = false ∧ w.frozen? ⟨g, 10, none⟩ = false ∧ w.frozen? ⟨g, 11, none⟩ = false ∧ w.frozen? ⟨g, 12, none⟩ = false ∧ w.frozen? ⟨g, 13, none⟩ = false :=
  ⟨⟨h.cell 0, h.cell 1, h.cell 2, h.cell 3, h.cell 4, h.cell 5, h.cell 6, h.cell 7, h.cell 8, h.cell 9, h.cell 10, h.cell 11, h.cell 12, h.cell 13⟩, h.free 0, h.free 1, h.free 2, h.free 3, h.free 4, h.free 5, h.free 6, h.free 7, h.free 8, h.free 9, h.free 10, h.free 11, h.free 12, h.free 13⟩
/-- What Read answers. -/
def hrdP (l : List UInt8) : Value := .tuple #[hv (rdV l), .int .i64 (rdE l)]
theorem rdE_more {l : List UInt8} (h : l.length < 12) : rdE l = 8 := by unfold rdE; rw [if_pos h]
theorem rdE_bad {l : List UInt8} (h : 12 ≤ l.length) (hb : bit (wdAt l 1) 64 = true) : rdE l = 4 := by
  have : wdAt l 1 / 64 % 2 = 1 := by simpa [bit] using hb
  unfold rdE; rw [if_neg (by omega), if_pos this]
theorem rdE_ok {l : List UInt8} (h : 12 ≤ l.length) (hb : bit (wdAt l 1) 64 = false) : rdE l = 0 := by
  have : ¬ wdAt l 1 / 64 % 2 = 1 := by simpa [bit] using hb
  unfold rdE; rw [if_neg (by omega), if_neg this]
theorem hrdP_no {l : List UInt8} {e : Nat} (h : rdE l = e) (he : e ≠ 0) : hrdP l = .tuple #[hv noH, .int .i64 e] := by
  unfold hrdP rdV
  rw [h, if_neg he]
theorem hrdP_ok {l : List UInt8} (h : rdE l = 0) : hrdP l = .tuple #[hv (ofW (wdAt l 0) (wdAt l 1) (wdAt l 2) (wdAt l 3) (wdAt l 4) (wdAt l 5)), .int .i64 0] := by
  unfold hrdP rdV
  rw [h, if_pos rfl]
  rfl
theorem and_64 (f : Nat) (hf : f < 65536) : (bits BinOp.and IntKind.u32 (f : Int) 64 != 0) = bit f 64 := and_bit f 6 (by omega) (by decide)
set_option maxHeartbeats 600000 in
theorem Read_any (s : ByteArray) (w : World) (hs : s.size ≤ maxLen) :
    Calls Tryz.prog 56 #[.string s] w fun e w' => e = .returned (hrdP (bs s)) ∧ Below w.heap.size w w' := by
  have HW := Lib.hid (fun wx => readWords_any s wx hs)
  obtain ⟨V, hV⟩ : ∃ V, V = hrdP (bs s) := ⟨_, rfl⟩
  rw [← hV]
  rcases Nat.lt_or_ge s.size 12 with hno | hyes
  · rw [rwV_no hno] at HW
    rw [hrdP_no (rdE_more (l := bs s) (by rw [bs_length]; exact hno)) (by decide)] at hV
    have HV := Lib.hid hV
    unfold ics at HW
    clear hs hno hV
    go_enter Tryz.func56, Tryz.ntmps56
    go_wp2_with fail
    refine (HW.out _).mono ?_
    rintro e w1 ⟨rfl, hb⟩
    have HL := Lib.hid ((Lies.new w 50 hzc).next hb)
    have HB := Lib.hid (((Below.refl w.heap.size w).alloc (Nat.le_refl _) _).trans (hb.mono (by simp)))
    clear hb
    go_upto_region 3 with (fail)
    obtain ⟨w2, hw2⟩ : ∃ w2, w2 = w1.alloc (.cells #[.int .u32 0, .int .u32 0, .int .u32 0, .int .u32 0, .int .u32 0, .int .u32 0] 155) := ⟨_, rfl⟩
    rw [← hw2]
    have hl := HL.out.alloc (.cells #[.int .u32 0, .int .u32 0, .int .u32 0, .int .u32 0, .int .u32 0, .int .u32 0] 155)
    have hb := HB.out.alloc (by have := HB.out.size; omega) (.cells #[.int .u32 0, .int .u32 0, .int .u32 0, .int .u32 0, .int .u32 0, .int .u32 0] 155)
    rw [← hw2] at hl hb
    obtain ⟨⟨c0, c1, c2, c3, c4, c5, c6, c7, c8, c9, c10, c11, c12, c13⟩, f0, f1, f2, f3, f4, f5, f6, f7, f8, f9, f10, f11, f12, f13⟩ := hz_cells hl
    have HL2 := Lib.hid (hz_set hl)
    have HB2 := Lib.hid (hz_below (g := w.heap.size) hb (Nat.le_refl _))
    clear hb hl hw2
    go_wp2
    refine bodyPost_ret (hd_two rfl _ _ w.heap.size noH rfl HL2.out) rfl ⟨?_, HB2.out⟩
    rw [HV.out]
    rfl
  · rw [rwV_yes hyes] at HW
    have k0 := wdAt_lt (bs s) 0
    have k1 := wdAt_lt (bs s) 1
    have k2 := wdAt_lt (bs s) 2
    have k3 := wdAt_lt (bs s) 3
    have k4 := wdAt_lt (bs s) 4
    have k5 := wdAt_lt (bs s) 5
    have h64 := and_64 (wdAt (bs s) 1) k1
    have HO := Lib.hid (fun wx => ofWords_any (wdAt (bs s) 0) (wdAt (bs s) 1) (wdAt (bs s) 2) (wdAt (bs s) 3) (wdAt (bs s) 4) (wdAt (bs s) 5) wx k0 k1 k2 k3 k4 k5)
    clear k0 k1 k2 k3 k4 k5
    rcases hbit : bit (wdAt (bs s) 1) 64 with _ | _
    · rw [hrdP_ok (rdE_ok (l := bs s) (by rw [bs_length]; exact hyes) hbit)] at hV
      rw [hbit] at h64
      obtain ⟨X, hX⟩ : ∃ X, X = ofW (wdAt (bs s) 0) (wdAt (bs s) 1) (wdAt (bs s) 2) (wdAt (bs s) 3) (wdAt (bs s) 4) (wdAt (bs s) 5) := ⟨_, rfl⟩
      rw [← hX] at hV HO
      have HV := Lib.hid hV
      unfold hv at HO
      unfold ics at HW HO
      clear hs hyes hV hbit hX
      go_enter Tryz.func56, Tryz.ntmps56
      go_wp2_with fail
      refine (HW.out _).mono ?_
      rintro e w1 ⟨rfl, hb⟩
      have HL := Lib.hid ((Lies.new w 50 hzc).next hb)
      have HB := Lib.hid (((Below.refl w.heap.size w).alloc (Nat.le_refl _) _).trans (hb.mono (by simp)))
      clear hb
      go_wp2_with (go_at_call 101; refine (HO.out _).mono ?_; rintro e w3 ⟨rfl, hb⟩; have hl := (HL.out.alloc (.cells #[.int .u32 (wdAt (bs s) 0), .int .u32 (wdAt (bs s) 1), .int .u32 (wdAt (bs s) 2), .int .u32 (wdAt (bs s) 3), .int .u32 (wdAt (bs s) 4), .int .u32 (wdAt (bs s) 5)] 155)).next hb; obtain ⟨⟨c0, c1, c2, c3, c4, c5, c6, c7, c8, c9, c10, c11, c12, c13⟩, f0, f1, f2, f3, f4, f5, f6, f7, f8, f9, f10, f11, f12, f13⟩ := hz_cells hl; have HL2 := Lib.hid (hd_set (a := noH) (by rw [hzc_eq]; exact hl) X); have HB2 := Lib.hid (hd_below (g := w.heap.size) ((HB.out.alloc HB.out.size (.cells #[.int .u32 (wdAt (bs s) 0), .int .u32 (wdAt (bs s) 1), .int .u32 (wdAt (bs s) 2), .int .u32 (wdAt (bs s) 3), .int .u32 (wdAt (bs s) 4), .int .u32 (wdAt (bs s) 5)] 155)).trans (hb.mono (by have := HB.out.size; simp; omega))) (Nat.le_refl _) X); clear hb hl)
      refine bodyPost_ret (hd_two rfl _ _ w.heap.size X rfl HL2.out) rfl ⟨?_, HB2.out⟩
      rw [HV.out]
      rfl
    · rw [hrdP_no (rdE_bad (l := bs s) (by rw [bs_length]; exact hyes) hbit) (by decide)] at hV
      rw [hbit] at h64
      have HV := Lib.hid hV
      unfold ics at HW
      clear hs hyes hV hbit HO
      go_enter Tryz.func56, Tryz.ntmps56
      go_wp2_with fail
      refine (HW.out _).mono ?_
      rintro e w1 ⟨rfl, hb⟩
      have HL := Lib.hid ((Lies.new w 50 hzc).next hb)
      have HB := Lib.hid (((Below.refl w.heap.size w).alloc (Nat.le_refl _) _).trans (hb.mono (by simp)))
      clear hb
      go_upto_region 5 with (fail)
      obtain ⟨w2, hw2⟩ : ∃ w2, w2 = w1.alloc (.cells #[.int .u32 (wdAt (bs s) 0), .int .u32 (wdAt (bs s) 1), .int .u32 (wdAt (bs s) 2), .int .u32 (wdAt (bs s) 3), .int .u32 (wdAt (bs s) 4), .int .u32 (wdAt (bs s) 5)] 155) := ⟨_, rfl⟩
      rw [← hw2]
      have hl := HL.out.alloc (.cells #[.int .u32 (wdAt (bs s) 0), .int .u32 (wdAt (bs s) 1), .int .u32 (wdAt (bs s) 2), .int .u32 (wdAt (bs s) 3), .int .u32 (wdAt (bs s) 4), .int .u32 (wdAt (bs s) 5)] 155)
      have hb := HB.out.alloc HB.out.size (.cells #[.int .u32 (wdAt (bs s) 0), .int .u32 (wdAt (bs s) 1), .int .u32 (wdAt (bs s) 2), .int .u32 (wdAt (bs s) 3), .int .u32 (wdAt (bs s) 4), .int .u32 (wdAt (bs s) 5)] 155)
      rw [← hw2] at hl hb
      obtain ⟨⟨c0, c1, c2, c3, c4, c5, c6, c7, c8, c9, c10, c11, c12, c13⟩, f0, f1, f2, f3, f4, f5, f6, f7, f8, f9, f10, f11, f12, f13⟩ := hz_cells hl
      have HL2 := Lib.hid (hz_set hl)
      have HB2 := Lib.hid (hz_below (g := w.heap.size) hb (Nat.le_refl _))
      clear hb hl hw2
      go_wp2
      refine bodyPost_ret (hd_two rfl _ _ w.heap.size noH rfl HL2.out) rfl ⟨?_, HB2.out⟩
      rw [HV.out]
      rfl

/-! ### The chapter's example -/
end Go.Proofs.YtadeflehdfmilaaGreat
namespace Go.Proofs.YtadeflehdfmilaaGreat
open Go.RowKit
set_option linter.unusedVariables false

/-! ### Octets put are read, octets read are put -/
theorem octs_two (v : Nat) : octs v 2 = [UInt8.ofNat (v / 256), UInt8.ofNat v] := by
  simp [octs]
theorem num_pair (x y : UInt8) : num [x, y] = x.toNat * 256 + y.toNat := by simp [num]
theorem octs_pair (x y : UInt8) : octs (x.toNat * 256 + y.toNat) 2 = [x, y] := by
  have h1 := x.toNat_lt
  have h2 := y.toNat_lt
  rw [octs_two]
  have e1 : UInt8.ofNat ((x.toNat * 256 + y.toNat) / 256) = x := by
    apply UInt8.toNat_inj.1
    rw [ofNat_val]
    omega
  have e2 : UInt8.ofNat (x.toNat * 256 + y.toNat) = y := by
    apply UInt8.toNat_inj.1
    rw [ofNat_val]
    omega
  rw [e1, e2]
theorem twelve {l : List UInt8} (h : 12 ≤ l.length) : ∃ a0 a1 b0 b1 c0 c1 d0 d1 e0 e1 f0 f1 t, l = a0 :: a1 :: b0 :: b1 :: c0 :: c1 :: d0 :: d1 :: e0 :: e1 :: f0 :: f1 :: t := by
  match l, h with
  | a0 :: a1 :: b0 :: b1 :: c0 :: c1 :: d0 :: d1 :: e0 :: e1 :: f0 :: f1 :: t, _ => exact ⟨a0, a1, b0, b1, c0, c1, d0, d1, e0, e1, f0, f1, t, rfl⟩
theorem words_of {a0 a1 b0 b1 c0 c1 d0 d1 e0 e1 f0 f1 : UInt8} {t : List UInt8} : 
    wdAt (a0 :: a1 :: b0 :: b1 :: c0 :: c1 :: d0 :: d1 :: e0 :: e1 :: f0 :: f1 :: t) 0 = num [a0, a1] ∧
    wdAt (a0 :: a1 :: b0 :: b1 :: c0 :: c1 :: d0 :: d1 :: e0 :: e1 :: f0 :: f1 :: t) 1 = num [b0, b1] ∧
    wdAt (a0 :: a1 :: b0 :: b1 :: c0 :: c1 :: d0 :: d1 :: e0 :: e1 :: f0 :: f1 :: t) 2 = num [c0, c1] ∧
    wdAt (a0 :: a1 :: b0 :: b1 :: c0 :: c1 :: d0 :: d1 :: e0 :: e1 :: f0 :: f1 :: t) 3 = num [d0, d1] ∧
    wdAt (a0 :: a1 :: b0 :: b1 :: c0 :: c1 :: d0 :: d1 :: e0 :: e1 :: f0 :: f1 :: t) 4 = num [e0, e1] ∧
    wdAt (a0 :: a1 :: b0 :: b1 :: c0 :: c1 :: d0 :: d1 :: e0 :: e1 :: f0 :: f1 :: t) 5 = num [f0, f1] := ⟨rfl, rfl, rfl, rfl, rfl, rfl⟩
theorem read_put {l : List UInt8} (h : rdE l = 0) : (rdV l).may ∧ (rdV l).id < 65536 ∧ 12 ≤ l.length ∧ ocH (rdV l) = l.take 12 := by
  have hl : 12 ≤ l.length := by
    rcases Nat.lt_or_ge l.length 12 with hh | hh
    · rw [rdE_more hh] at h; cases h
    · exact hh
  have hb : bit (wdAt l 1) 64 = false := by
    cases hb : bit (wdAt l 1) 64
    · rfl
    · rw [rdE_bad hl hb] at h; cases h
  have k0 := wdAt_lt l 0
  have k1 := wdAt_lt l 1
  have k2 := wdAt_lt l 2
  have k3 := wdAt_lt l 3
  have k4 := wdAt_lt l 4
  have k5 := wdAt_lt l 5
  have hv : rdV l = ofW (wdAt l 0) (wdAt l 1) (wdAt l 2) (wdAt l 3) (wdAt l 4) (wdAt l 5) := by unfold rdV; rw [if_pos h]
  have h6 : wdAt l 1 / 64 % 2 = 0 := by
    have : ¬ wdAt l 1 / 64 % 2 = 1 := by simpa [bit] using hb
    omega
  rw [hv]
  refine ⟨ofW_may k2 k3 k4 k5, k0, hl, ?_⟩
  have hf := fwd_ofW (wdAt l 0) (wdAt l 1) (wdAt l 2) (wdAt l 3) (wdAt l 4) (wdAt l 5) k1 h6
  unfold ocH
  rw [hf]
  obtain ⟨a0, a1, b0, b1, c0, c1, d0, d1, e0, e1, f0, f1, t, rfl⟩ := twelve hl
  obtain ⟨p0, p1, p2, p3, p4, p5⟩ := words_of (a0 := a0) (a1 := a1) (b0 := b0) (b1 := b1) (c0 := c0) (c1 := c1) (d0 := d0) (d1 := d1) (e0 := e0) (e1 := e1) (f0 := f0) (f1 := f1) (t := t)
  simp only [ofW, Int.toNat_natCast, p0, p1, p2, p3, p4, p5, num_pair, octs_pair]
  rfl
end Go.Proofs.YtadeflehdfmilaaGreat
