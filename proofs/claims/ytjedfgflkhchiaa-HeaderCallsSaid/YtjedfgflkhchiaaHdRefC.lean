/-
  The document's own answer for headers: Read: the walk. The octets are at most 2^46.
-/
import Derived.Test.YtjedfgflkhchiaaHdRefA
import Derived.Test.YtjedfgflkhchiaaOcRefR
import Derived.Deep.DeepCutAuto
namespace Go.Proofs.Ytjedfgflkhchiaa
open Go.RowKit
set_option linter.unusedVariables false

theorem fnum_two {g k : Nat} {s : ByteArray} {w : World} (h : RF w g s (2 * k)) (hs : s.size ≤ maxLen) (hk : 2 * k + 2 ≤ s.size) :
    Calls Try.prog 29 #[.pointer (some ⟨g, 0, none⟩), .int .i64 2] w (Rfr w g s (2 * (k + 1)) (.tuple #[.int .u32 (wdAt (bs s) k), .int .i64 0])) := by
  have := fNumber_any 2 h hs (by omega)
  rw [numR_two (by rw [bs_length]; exact hk)] at this
  exact this
theorem u32_bit1 (f m : Nat) (hf : f < 65536) : (bits .and .u32 ((f : Int) / (m : Int)) 1 == 1) = bit f m := by
  have e : (f : Int) / (m : Int) = ((f / m : Nat) : Int) := rfl
  have hl : f / m ≤ f := Nat.div_le_self _ _
  rw [e, show (1 : Int) = ((1 : Nat) : Int) from rfl, u32_and_nat (f / m) 1 (by omega) (by decide), Nat.and_one_is_mod]
  unfold bit
  rw [Bool.eq_iff_iff, beq_iff_eq, decide_eq_true_iff]
  omega
/-- What holds behind k counts. -/
structure RcRel (s : ByteArray) (w wr : World) (g g9 k : Nat) : Prop where
  rf : RF wr g s (2 * (2 + k))
  hd : Lies wr g9 26 (hcs (ofK (wdAt (bs s) 0) (wdAt (bs s) 1) (wdAt (bs s) 2) (wdAt (bs s) 3) (wdAt (bs s) 4) (wdAt (bs s) 5) 7 k))
  res : Lies wr w.heap.size 26 hzc
  below : Below w.heap.size w wr
  ge : w.heap.size < g
  ge9 : g < g9
theorem RcRel.num {s : ByteArray} {w wr w' : World} {g g9 k : Nat} (r : RcRel s w wr g g9 k) (hr : RF w' g s (2 * (2 + (k + 1)))) (hg : wr.grownBy w' (some g)) :
    RF w' g s (2 * (2 + (k + 1))) ∧ Lies w' g9 26 (hcs (ofK (wdAt (bs s) 0) (wdAt (bs s) 1) (wdAt (bs s) 2) (wdAt (bs s) 3) (wdAt (bs s) 4) (wdAt (bs s) 5) 7 k)) ∧ Lies w' w.heap.size 26 hzc ∧ Below w.heap.size w w' := by
  have h1 := r.ge
  have h2 := r.ge9
  exact ⟨hr, r.hd.grown hg (by simp; omega), r.res.grown hg (by simp; omega), r.below.grown hg r.below.size (fun j hj => by injection hj with hj; omega)⟩
theorem rc_step0 {s : ByteArray} {w w' : World} {g g9 : Nat} (h1 : w.heap.size < g) (h2 : g < g9) (q : RF w' g s (2 * (2 + (0 + 1))) ∧ Lies w' g9 26 (hcs (ofK (wdAt (bs s) 0) (wdAt (bs s) 1) (wdAt (bs s) 2) (wdAt (bs s) 3) (wdAt (bs s) 4) (wdAt (bs s) 5) 7 0)) ∧ Lies w' w.heap.size 26 hzc ∧ Below w.heap.size w w') :
    RcRel s w (w'.setCell ⟨g9, 10, none⟩ (.int .i64 (wdAt (bs s) 2))) g g9 (0 + 1) :=
  ⟨Lies.setOther q.1 (by omega) _, q.2.1.set 10 _, q.2.2.1.setOther (by omega) _, q.2.2.2.setCell (by simp; omega) _, h1, h2⟩
theorem rc_step1 {s : ByteArray} {w w' : World} {g g9 : Nat} (h1 : w.heap.size < g) (h2 : g < g9) (q : RF w' g s (2 * (2 + (1 + 1))) ∧ Lies w' g9 26 (hcs (ofK (wdAt (bs s) 0) (wdAt (bs s) 1) (wdAt (bs s) 2) (wdAt (bs s) 3) (wdAt (bs s) 4) (wdAt (bs s) 5) 7 1)) ∧ Lies w' w.heap.size 26 hzc ∧ Below w.heap.size w w') :
    RcRel s w (w'.setCell ⟨g9, 11, none⟩ (.int .i64 (wdAt (bs s) 3))) g g9 (1 + 1) :=
  ⟨Lies.setOther q.1 (by omega) _, q.2.1.set 11 _, q.2.2.1.setOther (by omega) _, q.2.2.2.setCell (by simp; omega) _, h1, h2⟩
theorem rc_step2 {s : ByteArray} {w w' : World} {g g9 : Nat} (h1 : w.heap.size < g) (h2 : g < g9) (q : RF w' g s (2 * (2 + (2 + 1))) ∧ Lies w' g9 26 (hcs (ofK (wdAt (bs s) 0) (wdAt (bs s) 1) (wdAt (bs s) 2) (wdAt (bs s) 3) (wdAt (bs s) 4) (wdAt (bs s) 5) 7 2)) ∧ Lies w' w.heap.size 26 hzc ∧ Below w.heap.size w w') :
    RcRel s w (w'.setCell ⟨g9, 12, none⟩ (.int .i64 (wdAt (bs s) 4))) g g9 (2 + 1) :=
  ⟨Lies.setOther q.1 (by omega) _, q.2.1.set 12 _, q.2.2.1.setOther (by omega) _, q.2.2.2.setCell (by simp; omega) _, h1, h2⟩
theorem rc_step3 {s : ByteArray} {w w' : World} {g g9 : Nat} (h1 : w.heap.size < g) (h2 : g < g9) (q : RF w' g s (2 * (2 + (3 + 1))) ∧ Lies w' g9 26 (hcs (ofK (wdAt (bs s) 0) (wdAt (bs s) 1) (wdAt (bs s) 2) (wdAt (bs s) 3) (wdAt (bs s) 4) (wdAt (bs s) 5) 7 3)) ∧ Lies w' w.heap.size 26 hzc ∧ Below w.heap.size w w') :
    RcRel s w (w'.setCell ⟨g9, 13, none⟩ (.int .i64 (wdAt (bs s) 5))) g g9 (3 + 1) :=
  ⟨Lies.setOther q.1 (by omega) _, q.2.1.set 13 _, q.2.2.1.setOther (by omega) _, q.2.2.2.setCell (by simp; omega) _, h1, h2⟩
theorem rd_box {s : ByteArray} {w w' : World} (k : Nat) (hr : RF w' (w.heap.size + 1) s k) (hg : ((w.alloc (.cells hzc 26)).alloc (.cells #[.string s, .int .i64 0] 62)).grownBy w' (some (w.heap.size + 1))) :
    Lies w' w.heap.size 26 hzc ∧ Below w.heap.size w w' := by
  refine ⟨((Lies.new w 26 hzc).alloc _).grown hg (by simp), ?_⟩
  exact (((Below.refl w.heap.size w).alloc (Nat.le_refl _) _).alloc (by simp) _).grown hg (by simp; omega) (fun j hj => by injection hj with hj; omega)
theorem rc_start {s : ByteArray} {w w2 : World} {cs : Array Value} (hr : RF w2 (w.heap.size + 1) s (2 * (0 + 1 + 1))) (hl : Lies w2 w.heap.size 26 hzc) (hb : Below w.heap.size w w2)
    (hc : cs = hcs (ofK (wdAt (bs s) 0) (wdAt (bs s) 1) (wdAt (bs s) 2) (wdAt (bs s) 3) (wdAt (bs s) 4) (wdAt (bs s) 5) 7 0)) : RcRel s w (w2.alloc (.cells cs 26)) (w.heap.size + 1) w2.heap.size 0 := by
  subst hc
  exact ⟨Lies.alloc hr _, Lies.new w2 26 _, hl.alloc _, hb.alloc hb.size _, by omega, Lies.lt hr⟩
set_option maxHeartbeats 1000000 in
theorem fRead_short (s : ByteArray) (w : World) (hno : s.size < 12) :
    Calls Try.prog 15 #[.string s] w fun e w' => e = .returned (.tuple #[hv noH, .int .i64 8]) ∧ Below w.heap.size w w' := by
  have HL : Hid (Lies (w.alloc (.cells hzc 26)) w.heap.size 26 (hcs noH)) := Lib.hid (by rw [hzc_eq]; exact Lies.new w 26 hzc)
  unfold hzc at HL
  have hd12 : decide ((s.size : Int) < 12) = true := by simp; omega
  go_enter Try.func15, Try.ntmps15
  go_wp2
  refine bodyPost_ret (hd_two rfl _ _ w.heap.size noH rfl HL.out) rfl ⟨rfl, (Below.refl _ _).alloc (Nat.le_refl _) _⟩
set_option maxHeartbeats 1000000 in
theorem fRead_bad (s : ByteArray) (w : World) (hs : s.size ≤ maxLen) (hyes : 12 ≤ s.size) (hb : bit (wdAt (bs s) 1) 64 = true) :
    Calls Try.prog 15 #[.string s] w fun e w' => e = .returned (.tuple #[hv noH, .int .i64 4]) ∧ Below w.heap.size w w' := by
  obtain ⟨V, hV⟩ : ∃ V : Value, V = .tuple #[hv noH, .int .i64 4] := ⟨_, rfl⟩
  rw [← hV]
  have HV := Lib.hid hV
  clear hV
  have HS := Lib.hid hs
  have hd12 : decide ((s.size : Int) < 12) = false := by simp; omega
  have hk1 := wdAt_lt (bs s) 1
  have hk0 := wdAt_lt (bs s) 0
  obtain ⟨F, hF⟩ : ∃ F, F = wdAt (bs s) 1 := ⟨_, rfl⟩
  rw [← hF] at hk1
  have h64 : (bits .and .u32 ((F : Int) / 64) 1 == 1) = bit F 64 := u32_bit1 F 64 hk1
  have HB0 : Hid (RF ((w.alloc (.cells hzc 26)).alloc (.cells #[.string s, .int .i64 0] 62)) (w.heap.size + 1) s (2 * 0)) := Lib.hid (by
    have := Lies.new (w.alloc (.cells hzc 26)) 62 #[.string s, .int .i64 0]
    rw [show (w.alloc (.cells hzc 26)).heap.size = w.heap.size + 1 by simp] at this
    exact this)
  have HN0 := Lib.hid (fnum_two HB0.out hs (by omega))
  unfold hzc at HN0
  rw [← hF] at hb
  rw [hb] at h64
  clear hs hb
  go_enter Try.func15, Try.ntmps15
  go_wp2_with fail
  (with_reducible refine HN0.out.mono ?_)
  rintro e w1 ⟨rfl, hr, hg⟩
  have HG1 := Lib.hid hg
  have HN1 := Lib.hid (fnum_two hr HS.out (by omega))
  rw [← hF] at HN1
  clear hr hg
  go_wp2_with fail
  (with_reducible refine HN1.out.mono ?_)
  rintro e w2 ⟨rfl, hr, hg⟩
  obtain ⟨hl, hb⟩ := rd_box _ hr (grown_next HG1.out hg)
  have HR2 := Lib.hid hr
  have HL2 := Lib.hid hl
  have HB2 := Lib.hid hb
  clear hr hg hl hb
  clear hF
  obtain ⟨⟨c0, c1, c2, c3, c4, c5, c6, c7, c8, c9, c10, c11, c12, c13⟩, f0, f1, f2, f3, f4, f5, f6, f7, f8, f9, f10, f11, f12, f13⟩ := hz_cells HL2.out
  have HL3 := Lib.hid (hz_set HL2.out)
  have HB3 := Lib.hid (hz_below (g := w.heap.size) HB2.out (Nat.le_refl _))
  go_wp2
  refine bodyPost_ret (hd_two rfl _ _ w.heap.size noH rfl HL3.out) rfl ⟨?_, HB3.out⟩
  rw [HV.out]
  rfl
set_option maxHeartbeats 2000000 in
theorem fRead_ok (s : ByteArray) (w : World) (hs : s.size ≤ maxLen) (hyes : 12 ≤ s.size) (hb : bit (wdAt (bs s) 1) 64 = false) :
    Calls Try.prog 15 #[.string s] w fun e w' => e = .returned (.tuple #[hv (ofW (wdAt (bs s) 0) (wdAt (bs s) 1) (wdAt (bs s) 2) (wdAt (bs s) 3) (wdAt (bs s) 4) (wdAt (bs s) 5)), .int .i64 0]) ∧ Below w.heap.size w w' := by
  have HS := Lib.hid hs
  have hd12 : decide ((s.size : Int) < 12) = false := by simp; omega
  have hk1 := wdAt_lt (bs s) 1
  have hk0 := wdAt_lt (bs s) 0
  obtain ⟨F, hF⟩ : ∃ F, F = wdAt (bs s) 1 := ⟨_, rfl⟩
  rw [← hF] at hk1
  have h64 : (bits .and .u32 ((F : Int) / 64) 1 == 1) = bit F 64 := u32_bit1 F 64 hk1
  have HB0 : Hid (RF ((w.alloc (.cells hzc 26)).alloc (.cells #[.string s, .int .i64 0] 62)) (w.heap.size + 1) s (2 * 0)) := Lib.hid (by
    have := Lies.new (w.alloc (.cells hzc 26)) 62 #[.string s, .int .i64 0]
    rw [show (w.alloc (.cells hzc 26)).heap.size = w.heap.size + 1 by simp] at this
    exact this)
  have HN0 := Lib.hid (fnum_two HB0.out hs (by omega))
  unfold hzc at HN0
  rw [← hF] at hb
  rw [hb] at h64
  have T0 : (bits .and .u32 ((F : Int) / 32768) 1 == 1) = bit F 32768 := u32_bit1 F 32768 hk1
  have T1 : (bits .and .u32 ((F : Int) / 1024) 1 == 1) = bit F 1024 := u32_bit1 F 1024 hk1
  have T2 : (bits .and .u32 ((F : Int) / 512) 1 == 1) = bit F 512 := u32_bit1 F 512 hk1
  have T3 : (bits .and .u32 ((F : Int) / 256) 1 == 1) = bit F 256 := u32_bit1 F 256 hk1
  have T4 : (bits .and .u32 ((F : Int) / 128) 1 == 1) = bit F 128 := u32_bit1 F 128 hk1
  have T5 : (bits .and .u32 ((F : Int) / 32) 1 == 1) = bit F 32 := u32_bit1 F 32 hk1
  have T6 : (bits .and .u32 ((F : Int) / 16) 1 == 1) = bit F 16 := u32_bit1 F 16 hk1
  have A1 : bits .and .u32 ((F : Int) / 2048) 15 = ((F / 2048 % 16 : Nat) : Int) := and_15 (F / 2048) (by omega)
  have A2 : bits .and .u32 (F : Int) 15 = ((F % 16 : Nat) : Int) := and_15 F (by omega)
  obtain ⟨p, hp⟩ : ∃ p, p = F / 2048 % 16 := ⟨_, rfl⟩
  obtain ⟨q, hq⟩ : ∃ q, q = F % 16 := ⟨_, rfl⟩
  rw [← hp] at A1
  rw [← hq] at A2
  have hp16 : p < 16 := by omega
  have hq16 : q < 16 := by omega
  have HPQ := Lib.hid (And.intro hp (And.intro hq hF))
  clear hs hb hp hq
  go_enter Try.func15, Try.ntmps15
  go_wp2_with fail
  (with_reducible refine HN0.out.mono ?_)
  rintro e w1 ⟨rfl, hr, hg⟩
  have HG1 := Lib.hid hg
  have HN1 := Lib.hid (fnum_two hr HS.out (by omega))
  rw [← hF] at HN1
  clear hr hg
  go_wp2_with fail
  (with_reducible refine HN1.out.mono ?_)
  rintro e w2 ⟨rfl, hr, hg⟩
  obtain ⟨hl, hb⟩ := rd_box _ hr (grown_next HG1.out hg)
  have HR2 := Lib.hid hr
  have HL2 := Lib.hid hl
  have HB2 := Lib.hid hb
  clear hr hg hl hb
  have k2 := wdAt_lt (bs s) 2
  have k3 := wdAt_lt (bs s) 3
  have k4 := wdAt_lt (bs s) 4
  have k5 := wdAt_lt (bs s) 5
  clear hF
  go_wp2
  obtain ⟨g9, hg9⟩ : ∃ g, g = w2.heap.size := ⟨_, rfl⟩
  rw [← hg9]
  have HG9 := Lib.hid hg9
  clear hg9 T0 T1 T2 T3 T4 T5 T6 A1 A2 h64
  go_loopw [10] (fun x wr => ∃ k : Nat, x = .int .i64 k ∧ k ≤ 4 ∧ RcRel s w wr (w.heap.size + 1) g9 k) (fun x _ => 4 - (intOf x).toNat)
  case atStart =>
    refine ⟨0, rfl, by omega, ?_⟩
    rw [HG9.out]
    exact rc_start HR2.out HL2.out HB2.out (by obtain ⟨e1, e2, e3⟩ := HPQ.out; subst e1 e2 e3; rfl)
  case round =>
    obtain ⟨k, rfl, hk, hr⟩ := hrel
    have HR := Lib.hid hr
    clear hr
    rcases Nat.lt_or_ge k 4 with hlt | hge
    · have HN := Lib.hid (fnum_two HR.out.rf HS.out (by omega))
      have h1 := HR.out.ge
      have h2 := HR.out.ge9
      obtain rfl | rfl | rfl | rfl : k = 0 ∨ k = 1 ∨ k = 2 ∨ k = 3 := by omega
      · go_wp2_with (go_at_call 29; (with_reducible refine HN.out.mono ?_); rintro e w' ⟨rfl, hrd, hg⟩; have HQ := Lib.hid (HR.out.num hrd hg); have hc : w'.cell? ⟨g9, 10, none⟩ = some (.int .i64 0) := HQ.out.2.1.cell 10; have hf := HQ.out.2.1.free 10; clear hrd hg)
        go_roundw
        case rel => exact ⟨0 + 1, rfl, by omega, rc_step0 h1 h2 HQ.out⟩
        case measure => simp [intOf]
      · go_wp2_with (go_at_call 29; (with_reducible refine HN.out.mono ?_); rintro e w' ⟨rfl, hrd, hg⟩; have HQ := Lib.hid (HR.out.num hrd hg); have hc : w'.cell? ⟨g9, 11, none⟩ = some (.int .i64 0) := HQ.out.2.1.cell 11; have hf := HQ.out.2.1.free 11; clear hrd hg)
        go_roundw
        case rel => exact ⟨1 + 1, rfl, by omega, rc_step1 h1 h2 HQ.out⟩
        case measure => simp [intOf]
      · go_wp2_with (go_at_call 29; (with_reducible refine HN.out.mono ?_); rintro e w' ⟨rfl, hrd, hg⟩; have HQ := Lib.hid (HR.out.num hrd hg); have hc : w'.cell? ⟨g9, 12, none⟩ = some (.int .i64 0) := HQ.out.2.1.cell 12; have hf := HQ.out.2.1.free 12; clear hrd hg)
        go_roundw
        case rel => exact ⟨2 + 1, rfl, by omega, rc_step2 h1 h2 HQ.out⟩
        case measure => simp [intOf]
      · go_wp2_with (go_at_call 29; (with_reducible refine HN.out.mono ?_); rintro e w' ⟨rfl, hrd, hg⟩; have HQ := Lib.hid (HR.out.num hrd hg); have hc : w'.cell? ⟨g9, 13, none⟩ = some (.int .i64 0) := HQ.out.2.1.cell 13; have hf := HQ.out.2.1.free 13; clear hrd hg)
        go_roundw
        case rel => exact ⟨3 + 1, rfl, by omega, rc_step3 h1 h2 HQ.out⟩
        case measure => simp [intOf]
    · obtain rfl : k = 4 := by omega
      obtain ⟨⟨c0, c1, c2, c3, c4, c5, c6, c7, c8, c9, c10, c11, c12, c13⟩, f0, f1, f2, f3, f4, f5, f6, f7, f8, f9, f10, f11, f12, f13⟩ := hz_cells HR.out.res
      obtain ⟨X, hX⟩ : ∃ X, X = ofK (wdAt (bs s) 0) (wdAt (bs s) 1) (wdAt (bs s) 2) (wdAt (bs s) 3) (wdAt (bs s) 4) (wdAt (bs s) 5) 7 4 := ⟨_, rfl⟩
      have hd := HR.out.hd
      rw [← hX] at hd
      rw [ofK_all] at hX
      have HX := Lib.hid hX
      obtain ⟨⟨e0, e1, e2, e3, e4, e5, e6, e7, e8, e9, e10, e11, e12, e13⟩, _⟩ := hd_cells hd
      have HL3 := Lib.hid (hd_set (a := noH) (by rw [hzc_eq]; exact HR.out.res) X)
      have HB3 := Lib.hid (hd_below (g := w.heap.size) HR.out.below (Nat.le_refl _) X)
      clear hd hX
      go_wp2
      refine bodyPost_ret (hd_two rfl _ _ w.heap.size X rfl HL3.out) rfl ⟨?_, HB3.out⟩
      rw [HX.out]
      rfl
theorem fRead_any (s : ByteArray) (w : World) (hs : s.size ≤ maxLen) :
    Calls Try.prog 15 #[.string s] w fun e w' => e = .returned (rdP (bs s)) ∧ Below w.heap.size w w' := by
  rcases Nat.lt_or_ge s.size 12 with hno | hyes
  · rw [rdP_no (rdE_more (l := bs s) (by rw [bs_length]; exact hno)) (by decide)]
    exact fRead_short s w hno
  · rcases hbit : bit (wdAt (bs s) 1) 64 with _ | _
    · rw [rdP_ok (rdE_ok (l := bs s) (by rw [bs_length]; exact hyes) hbit)]
      exact fRead_ok s w hs hyes hbit
    · rw [rdP_no (rdE_bad (l := bs s) (by rw [bs_length]; exact hyes) hbit) (by decide)]
      exact fRead_bad s w hs hyes hbit
end Go.Proofs.Ytjedfgflkhchiaa
