/-
  HeaderBits: the walk. The header's ID is one that its type bears.
-/
import Derived.Test.YtjedfgflkhchiaaHdBm
namespace Go.Proofs.Ytjedfgflkhchiaa
open Go.RowKit
set_option linter.unusedVariables false

-- MATH
theorem idx_at (S : ByteArray) (i v : Nat) (x : UInt8) (hx : (bs S)[i]? = some x) (hv : x.toNat = v) (w : World) : (Instr.index 9 (.string S) (.int .i64 (i : Int))).run Try.prog w = .ok (.int .u8 v) w := by
  obtain ⟨h1, h2⟩ := List.getElem?_eq_some_iff.1 hx
  rw [bs_length] at h1
  rw [run_index_string w 9 S .i64 i Try.underlying9, dif_pos ⟨by omega, by omega⟩]
  have : S[(i : Int).toNat]'(by omega) = x := by
    rw [← h2]
    rfl
  rw [this, hv]
theorem i64_and1 (n : Int) : bits .and .i64 n 1 = n % 2 := by
  have h15 : (BitVec.ofInt 64 1).toNat = 2 ^ 1 - 1 := by decide
  have key : (BitVec.ofInt 64 n &&& BitVec.ofInt 64 1).toNat = (n % ((2 ^ 64 : Nat) : Int)).toNat % 2 ^ 1 := by
    rw [BitVec.toNat_and, BitVec.toNat_ofInt, h15, Nat.and_two_pow_sub_one_eq_mod]
  show IntKind.i64.wrap ((BitVec.ofInt 64 n &&& BitVec.ofInt 64 1).toNat : Nat) = n % 2
  rw [key, IntKind.wrap_i64]
  omega
theorem bit_and1 (f m : Nat) (b : Bool) (h : bit f m = b) : (bits .and .i64 ((f : Int) / (m : Int)) 1 == 1) = b := by
  rw [i64_and1, ← h]
  unfold bit
  rw [Bool.eq_iff_iff, beq_iff_eq, decide_eq_true_iff]
  have : (f : Int) / (m : Int) = ((f / m : Nat) : Int) := rfl
  omega
/-- The relation of the loops. -/
structure BtRel (L : Hd) (w wr : World) (g : Nat) : Prop where
  fl : Lies wr g 4 #[.bool L.re, .bool L.aa, .bool L.tc, .bool L.rd, .bool L.ra, .bool L.ad, .bool L.cd]
  pl : Lies wr (g + 1) 3 #[.int .i64 15, .int .i64 10, .int .i64 9, .int .i64 8, .int .i64 7, .int .i64 5, .int .i64 4]
  hd : Lies wr w.heap.size 26 (hcs L)
  below : Below w.heap.size w wr
theorem below_drN {n : Nat} {w w' : World} (h : Below n w w') (k : Nat) : Below n w (w'.drewN k) := ⟨h.os, h.tape, h.output, h.size, h.block⟩
theorem BtRel.drewN {L : Hd} {w wr : World} {g : Nat} (r : BtRel L w wr g) (n : Nat) : BtRel L w (wr.drewN n) g := ⟨r.fl.drewN n, r.pl.drewN n, r.hd.drewN n, below_drN r.below n⟩
theorem bt_start {L : Hd} {w w2 W : World} (n : Nat) (hW : W = ((w2.drewN n).alloc (.cells #[.bool L.re, .bool L.aa, .bool L.tc, .bool L.rd, .bool L.ra, .bool L.ad, .bool L.cd] 4)).alloc (.cells #[.int .i64 15, .int .i64 10, .int .i64 9, .int .i64 8, .int .i64 7, .int .i64 5, .int .i64 4] 3))
    (hl : Lies w2 w.heap.size 26 (hcs L)) (hb : Below w.heap.size w w2) : BtRel L w W w2.heap.size := by
  subst hW
  have l2 := Lies.new ((w2.drewN n).alloc (.cells #[.bool L.re, .bool L.aa, .bool L.tc, .bool L.rd, .bool L.ra, .bool L.ad, .bool L.cd] 4)) 3 #[.int .i64 15, .int .i64 10, .int .i64 9, .int .i64 8, .int .i64 7, .int .i64 5, .int .i64 4]
  rw [show ((w2.drewN n).alloc (.cells #[.bool L.re, .bool L.aa, .bool L.tc, .bool L.rd, .bool L.ra, .bool L.ad, .bool L.cd] 4)).heap.size = w2.heap.size + 1 by simp] at l2
  exact ⟨(Lies.new (w2.drewN n) 4 _).alloc _, l2, ((hl.drewN n).alloc _).alloc _, ((below_drN hb n).alloc hb.size _).alloc (by simp; have := hb.size; omega) _⟩
/-- The bits of the flags' word of a header that may be. -/
theorem word_bits {h : Hd} (m : h.may) : bit (fwd h) 32768 = h.re ∧ bit (fwd h) 1024 = h.aa ∧ bit (fwd h) 512 = h.tc ∧ bit (fwd h) 256 = h.rd ∧ bit (fwd h) 128 = h.ra ∧ bit (fwd h) 32 = h.ad ∧ bit (fwd h) 16 = h.cd ∧ ((fwd h / 2048 % 16 : Nat) : Int) = h.op ∧ ((fwd h % 16 : Nat) : Int) = h.rc := by
  have e := ofW_fwd m
  have g := fun {α : Type} (f : Hd → α) => congrArg f e
  exact ⟨g Hd.re, g Hd.aa, g Hd.tc, g Hd.rd, g Hd.ra, g Hd.ad, g Hd.cd, g Hd.op, g Hd.rc⟩
theorem of_small {v : Nat} (h : v < 65536) : (UInt8.ofNat (v / 256)).toNat = v / 256 ∧ (UInt8.ofNat v).toNat = v % 256 := by
  rw [ofNat_val, ofNat_val]
  omega
set_option maxHeartbeats 1000000 in
theorem hbt_no (L : Hd) (hid : L.id < 65536) (w : World) (hm : mayB L = false) : Calls Try.prog 7 #[hv L] w fun e w' => e = .returned (.bool true) ∧ Below w.heap.size w w' := by
  have HLv := Lib.hid lives_any
  have HP := Lib.hid (Put_any L hid)
  rw [chkH_bad hm, show ptV L = [] by unfold ptV; rw [hm]; rfl] at HP
  clear hm
  unfold hv at *
  go_enter Try.func7, Try.ntmps7
  go_wp2_with fail
  refine (HLv.out _).mono ?_
  rintro e w1 ⟨rfl, hb⟩
  have HB1 := Lib.hid (((Below.refl w.heap.size w).alloc (Nat.le_refl _) _).trans (hb.mono (by simp)))
  obtain ⟨c1, f1⟩ := bcell hb
  have z1 : w.heap.size < w1.heap.size := by have := hb.size; (try simp at this); omega
  clear hb
  go_wp2_with fail
  refine (HP.out _).mono ?_
  rintro e w2 ⟨rfl, hb⟩
  have HB2 := Lib.hid (HB1.out.trans (hb.mono HB1.out.size))
  clear hb
  go_wp2
  go_ret
  exact ⟨rfl, HB2.out⟩
set_option maxHeartbeats 2000000 in
theorem hbt_yes (L : Hd) (hid : L.id < 65536) (w : World) (hm : mayB L = true) : Calls Try.prog 7 #[hv L] w fun e w' => e = .returned (.bool true) ∧ Below w.heap.size w w' := by
  have HLv := Lib.hid lives_any
  have HP := Lib.hid (Put_any L hid)
  have m := mayB_yes.1 hm
  obtain ⟨S, hS⟩ : ∃ S : ByteArray, S = ⟨(ptV L).toArray⟩ := ⟨_, rfl⟩
  have hSb : bs S = ocH L := by rw [hS, bs_mk]; unfold ptV; rw [hm]; rfl
  rw [chkH_ok m, ← hS] at HP
  have hlt : fwd L < 65536 := fW_lt m 7
  obtain ⟨B0, B1, B2, B3, B4, B5, B6, B7, B8⟩ := word_bits m
  have b6 := fwd_64 m
  obtain ⟨_, _, ⟨n0, m0⟩, ⟨n1, m1⟩, ⟨n2, m2⟩, ⟨n3, m3⟩⟩ := m
  have hSl : bs S = [UInt8.ofNat (L.id / 256), UInt8.ofNat L.id, UInt8.ofNat (fwd L / 256), UInt8.ofNat (fwd L), UInt8.ofNat (L.n0.toNat / 256), UInt8.ofNat L.n0.toNat, UInt8.ofNat (L.n1.toNat / 256), UInt8.ofNat L.n1.toNat, UInt8.ofNat (L.n2.toNat / 256), UInt8.ofNat L.n2.toNat, UInt8.ofNat (L.n3.toNat / 256), UInt8.ofNat L.n3.toNat] := by
    rw [hSb]
    unfold ocH
    simp only [octs_two, List.cons_append, List.nil_append]
  obtain ⟨p0, hp0⟩ : ∃ p, p = L.id / 256 := ⟨_, rfl⟩
  have I0 : ∀ wx : World, (Instr.index 9 (.string S) (.int .i64 0)).run Try.prog wx = .ok (.int .u8 p0) wx := idx_at S 0 p0 _ (by rw [hSl]; rfl) (by rw [(of_small hid).1, hp0])
  have u0 : p0 < 256 := by rw [hp0]; omega
  obtain ⟨p1, hp1⟩ : ∃ p, p = L.id % 256 := ⟨_, rfl⟩
  have I1 : ∀ wx : World, (Instr.index 9 (.string S) (.int .i64 1)).run Try.prog wx = .ok (.int .u8 p1) wx := idx_at S 1 p1 _ (by rw [hSl]; rfl) (by rw [(of_small hid).2, hp1])
  have u1 : p1 < 256 := by rw [hp1]; omega
  obtain ⟨p2, hp2⟩ : ∃ p, p = (fwd L) / 256 := ⟨_, rfl⟩
  have I2 : ∀ wx : World, (Instr.index 9 (.string S) (.int .i64 2)).run Try.prog wx = .ok (.int .u8 p2) wx := idx_at S 2 p2 _ (by rw [hSl]; rfl) (by rw [(of_small hlt).1, hp2])
  have u2 : p2 < 256 := by rw [hp2]; omega
  obtain ⟨p3, hp3⟩ : ∃ p, p = (fwd L) % 256 := ⟨_, rfl⟩
  have I3 : ∀ wx : World, (Instr.index 9 (.string S) (.int .i64 3)).run Try.prog wx = .ok (.int .u8 p3) wx := idx_at S 3 p3 _ (by rw [hSl]; rfl) (by rw [(of_small hlt).2, hp3])
  have u3 : p3 < 256 := by rw [hp3]; omega
  obtain ⟨p4, hp4⟩ : ∃ p, p = L.n0.toNat / 256 := ⟨_, rfl⟩
  have I4 : ∀ wx : World, (Instr.index 9 (.string S) (.int .i64 4)).run Try.prog wx = .ok (.int .u8 p4) wx := idx_at S 4 p4 _ (by rw [hSl]; rfl) (by rw [(of_small (show L.n0.toNat < 65536 by omega)).1, hp4])
  have u4 : p4 < 256 := by rw [hp4]; omega
  obtain ⟨p5, hp5⟩ : ∃ p, p = L.n0.toNat % 256 := ⟨_, rfl⟩
  have I5 : ∀ wx : World, (Instr.index 9 (.string S) (.int .i64 5)).run Try.prog wx = .ok (.int .u8 p5) wx := idx_at S 5 p5 _ (by rw [hSl]; rfl) (by rw [(of_small (show L.n0.toNat < 65536 by omega)).2, hp5])
  have u5 : p5 < 256 := by rw [hp5]; omega
  obtain ⟨p6, hp6⟩ : ∃ p, p = L.n1.toNat / 256 := ⟨_, rfl⟩
  have I6 : ∀ wx : World, (Instr.index 9 (.string S) (.int .i64 6)).run Try.prog wx = .ok (.int .u8 p6) wx := idx_at S 6 p6 _ (by rw [hSl]; rfl) (by rw [(of_small (show L.n1.toNat < 65536 by omega)).1, hp6])
  have u6 : p6 < 256 := by rw [hp6]; omega
  obtain ⟨p7, hp7⟩ : ∃ p, p = L.n1.toNat % 256 := ⟨_, rfl⟩
  have I7 : ∀ wx : World, (Instr.index 9 (.string S) (.int .i64 7)).run Try.prog wx = .ok (.int .u8 p7) wx := idx_at S 7 p7 _ (by rw [hSl]; rfl) (by rw [(of_small (show L.n1.toNat < 65536 by omega)).2, hp7])
  have u7 : p7 < 256 := by rw [hp7]; omega
  obtain ⟨p8, hp8⟩ : ∃ p, p = L.n2.toNat / 256 := ⟨_, rfl⟩
  have I8 : ∀ wx : World, (Instr.index 9 (.string S) (.int .i64 8)).run Try.prog wx = .ok (.int .u8 p8) wx := idx_at S 8 p8 _ (by rw [hSl]; rfl) (by rw [(of_small (show L.n2.toNat < 65536 by omega)).1, hp8])
  have u8 : p8 < 256 := by rw [hp8]; omega
  obtain ⟨p9, hp9⟩ : ∃ p, p = L.n2.toNat % 256 := ⟨_, rfl⟩
  have I9 : ∀ wx : World, (Instr.index 9 (.string S) (.int .i64 9)).run Try.prog wx = .ok (.int .u8 p9) wx := idx_at S 9 p9 _ (by rw [hSl]; rfl) (by rw [(of_small (show L.n2.toNat < 65536 by omega)).2, hp9])
  have u9 : p9 < 256 := by rw [hp9]; omega
  obtain ⟨p10, hp10⟩ : ∃ p, p = L.n3.toNat / 256 := ⟨_, rfl⟩
  have I10 : ∀ wx : World, (Instr.index 9 (.string S) (.int .i64 10)).run Try.prog wx = .ok (.int .u8 p10) wx := idx_at S 10 p10 _ (by rw [hSl]; rfl) (by rw [(of_small (show L.n3.toNat < 65536 by omega)).1, hp10])
  have u10 : p10 < 256 := by rw [hp10]; omega
  obtain ⟨p11, hp11⟩ : ∃ p, p = L.n3.toNat % 256 := ⟨_, rfl⟩
  have I11 : ∀ wx : World, (Instr.index 9 (.string S) (.int .i64 11)).run Try.prog wx = .ok (.int .u8 p11) wx := idx_at S 11 p11 _ (by rw [hSl]; rfl) (by rw [(of_small (show L.n3.toNat < 65536 by omega)).2, hp11])
  have u11 : p11 < 256 := by rw [hp11]; omega
  obtain ⟨F, hF⟩ : ∃ F, F = fwd L := ⟨_, rfl⟩
  rw [← hF] at B0 B1 B2 B3 B4 B5 B6 B7 B8 b6 hlt hp2 hp3
  have eF : (p2 : Int) * 256 + p3 = F := by omega
  have e0 : (p0 : Int) * 256 + p1 = L.id := by omega
  have e4 : (p4 : Int) * 256 + p5 = L.n0 := by omega
  have e6 : (p6 : Int) * 256 + p7 = L.n1 := by omega
  have e8 : (p8 : Int) * 256 + p9 = L.n2 := by omega
  have e10 : (p10 : Int) * 256 + p11 = L.n3 := by omega
  have T0 : (bits .and .i64 ((F : Int) / 32768) 1 == 1) = L.re := bit_and1 F 32768 _ B0
  have T1 : (bits .and .i64 ((F : Int) / 1024) 1 == 1) = L.aa := bit_and1 F 1024 _ B1
  have T2 : (bits .and .i64 ((F : Int) / 512) 1 == 1) = L.tc := bit_and1 F 512 _ B2
  have T3 : (bits .and .i64 ((F : Int) / 256) 1 == 1) = L.rd := bit_and1 F 256 _ B3
  have T4 : (bits .and .i64 ((F : Int) / 128) 1 == 1) = L.ra := bit_and1 F 128 _ B4
  have T5 : (bits .and .i64 ((F : Int) / 32) 1 == 1) = L.ad := bit_and1 F 32 _ B5
  have T6 : (bits .and .i64 ((F : Int) / 16) 1 == 1) = L.cd := bit_and1 F 16 _ B6
  have A1 : bits .and .i64 ((F : Int) / 2048) 15 = L.op := by rw [i64_and15, ← B7]; omega
  have A2 : bits .and .i64 (F : Int) 15 = L.rc := by rw [i64_and15, ← B8]; omega
  have A3 : bits .and .i64 ((F : Int) / 64) 1 = 0 := by rw [i64_and1]; omega
  clear B0 B1 B2 B3 B4 B5 B6 B7 B8 b6 hm hS hSb hSl hF hp0 hp1 hp2 hp3 hp4 hp5 hp6 hp7 hp8 hp9 hp10 hp11
  unfold hv at *
  go_enter Try.func7, Try.ntmps7
  go_wp2_with fail
  refine (HLv.out _).mono ?_
  rintro e w1 ⟨rfl, hb⟩
  have HB1 := Lib.hid (((Below.refl w.heap.size w).alloc (Nat.le_refl _) _).trans (hb.mono (by simp)))
  obtain ⟨c1, f1⟩ := bcell hb
  have z1 : w.heap.size < w1.heap.size := by have := hb.size; (try simp at this); omega
  have HL1 := Lib.hid ((Lies.new w 26 (hcs L)).next hb)
  clear hb
  go_wp2_with fail
  refine (HP.out _).mono ?_
  rintro e w2 ⟨rfl, hb⟩
  have HB2 := Lib.hid (HB1.out.trans (hb.mono HB1.out.size))
  obtain ⟨c2, f2⟩ := bcell hb
  have z2 : w.heap.size < w2.heap.size := by have := hb.size; (try simp at this); omega
  have HL2 := Lib.hid (HL1.out.next hb)
  clear hb
  go_wp2
  go_quiet (fail)
  go_wp2
  have HR0 := Lib.hid (bt_start (L := L) nq rfl HL2.out HB2.out)
  clear c1 f1 c2 f2 z1 z2 I2 I3 u2 u3 eF
  obtain ⟨g, hg⟩ : ∃ g, g = w2.heap.size := ⟨_, rfl⟩
  rw [← hg] at HR0 ⊢
  clear hg
  have HA := Lib.hid (And.intro A1 (And.intro A2 A3))
  have HE := Lib.hid (And.intro e0 (And.intro e4 (And.intro e6 (And.intro e8 e10))))
  clear A1 A2 A3 e0 e4 e6 e8 e10
  go_loopw [8] (fun x wr => ∃ k : Nat, x = .int .i64 k ∧ k ≤ 7 ∧ BtRel L w wr g) (fun x _ => 7 - (intOf x).toNat)
  case atStart => exact ⟨0, rfl, by omega, HR0.out⟩
  case round =>
    clear HR0
    obtain ⟨k, rfl, hk, hr⟩ := hrel
    have HR := Lib.hid hr
    clear hr
    rcases Nat.lt_or_ge k 7 with hlt7 | hge
    · obtain rfl | rfl | rfl | rfl | rfl | rfl | rfl : k = 0 ∨ k = 1 ∨ k = 2 ∨ k = 3 ∨ k = 4 ∨ k = 5 ∨ k = 6 := by omega
      · have x1 : wr.cell? ⟨g, 0, none⟩ = some (.bool L.re) := HR.out.fl.cell 0
        have x2 : wr.cell? ⟨g + 1, 0, none⟩ = some (.int .i64 15) := HR.out.pl.cell 0
        have TT := T0
        clear T0 T1 T2 T3 T4 T5 T6
        go_wp2
        go_quiet (fail)
        go_wp2
        go_roundw
        case rel => exact ⟨0 + 1, rfl, by omega, HR.out.drewN _⟩
        case measure => simp [intOf]
      · have x1 : wr.cell? ⟨g, 1, none⟩ = some (.bool L.aa) := HR.out.fl.cell 1
        have x2 : wr.cell? ⟨g + 1, 1, none⟩ = some (.int .i64 10) := HR.out.pl.cell 1
        have TT := T1
        clear T0 T1 T2 T3 T4 T5 T6
        go_wp2
        go_quiet (fail)
        go_wp2
        go_roundw
        case rel => exact ⟨1 + 1, rfl, by omega, HR.out.drewN _⟩
        case measure => simp [intOf]
      · have x1 : wr.cell? ⟨g, 2, none⟩ = some (.bool L.tc) := HR.out.fl.cell 2
        have x2 : wr.cell? ⟨g + 1, 2, none⟩ = some (.int .i64 9) := HR.out.pl.cell 2
        have TT := T2
        clear T0 T1 T2 T3 T4 T5 T6
        go_wp2
        go_quiet (fail)
        go_wp2
        go_roundw
        case rel => exact ⟨2 + 1, rfl, by omega, HR.out.drewN _⟩
        case measure => simp [intOf]
      · have x1 : wr.cell? ⟨g, 3, none⟩ = some (.bool L.rd) := HR.out.fl.cell 3
        have x2 : wr.cell? ⟨g + 1, 3, none⟩ = some (.int .i64 8) := HR.out.pl.cell 3
        have TT := T3
        clear T0 T1 T2 T3 T4 T5 T6
        go_wp2
        go_quiet (fail)
        go_wp2
        go_roundw
        case rel => exact ⟨3 + 1, rfl, by omega, HR.out.drewN _⟩
        case measure => simp [intOf]
      · have x1 : wr.cell? ⟨g, 4, none⟩ = some (.bool L.ra) := HR.out.fl.cell 4
        have x2 : wr.cell? ⟨g + 1, 4, none⟩ = some (.int .i64 7) := HR.out.pl.cell 4
        have TT := T4
        clear T0 T1 T2 T3 T4 T5 T6
        go_wp2
        go_quiet (fail)
        go_wp2
        go_roundw
        case rel => exact ⟨4 + 1, rfl, by omega, HR.out.drewN _⟩
        case measure => simp [intOf]
      · have x1 : wr.cell? ⟨g, 5, none⟩ = some (.bool L.ad) := HR.out.fl.cell 5
        have x2 : wr.cell? ⟨g + 1, 5, none⟩ = some (.int .i64 5) := HR.out.pl.cell 5
        have TT := T5
        clear T0 T1 T2 T3 T4 T5 T6
        go_wp2
        go_quiet (fail)
        go_wp2
        go_roundw
        case rel => exact ⟨5 + 1, rfl, by omega, HR.out.drewN _⟩
        case measure => simp [intOf]
      · have x1 : wr.cell? ⟨g, 6, none⟩ = some (.bool L.cd) := HR.out.fl.cell 6
        have x2 : wr.cell? ⟨g + 1, 6, none⟩ = some (.int .i64 4) := HR.out.pl.cell 6
        have TT := T6
        clear T0 T1 T2 T3 T4 T5 T6
        go_wp2
        go_quiet (fail)
        go_wp2
        go_roundw
        case rel => exact ⟨6 + 1, rfl, by omega, HR.out.drewN _⟩
        case measure => simp [intOf]
    · obtain rfl : k = 7 := by omega
      clear T0 T1 T2 T3 T4 T5 T6
      go_wp2
      obtain ⟨wo, rfl⟩ : ∃ wo : World, wo = wr := ⟨_, rfl⟩
      go_loopw [9] (fun x wr => ∃ k : Nat, x = .int .i64 k ∧ k ≤ 4 ∧ BtRel L w wr g) (fun x _ => 4 - (intOf x).toNat)
      case atStart => exact ⟨0, rfl, by omega, HR.out⟩
      case round =>
        clear HR
        obtain ⟨k, rfl, hk, hr⟩ := hrel
        have HR := Lib.hid hr
        clear hr
        rcases Nat.lt_or_ge k 4 with hlt4 | hge
        · obtain ⟨e0, e4, e6, e8, e10⟩ := HE.out
          obtain rfl | rfl | rfl | rfl : k = 0 ∨ k = 1 ∨ k = 2 ∨ k = 3 := by omega
          · have x1 : wr.cell? ⟨w.heap.size, 10, none⟩ = some (.int .i64 L.n0) := HR.out.hd.cell 10
            go_wp2
            go_quiet (fail)
            go_wp2
            go_roundw
            case rel => exact ⟨0 + 1, rfl, by omega, HR.out.drewN _⟩
            case measure => simp [intOf]
          · have x1 : wr.cell? ⟨w.heap.size, 11, none⟩ = some (.int .i64 L.n1) := HR.out.hd.cell 11
            go_wp2
            go_quiet (fail)
            go_wp2
            go_roundw
            case rel => exact ⟨1 + 1, rfl, by omega, HR.out.drewN _⟩
            case measure => simp [intOf]
          · have x1 : wr.cell? ⟨w.heap.size, 12, none⟩ = some (.int .i64 L.n2) := HR.out.hd.cell 12
            go_wp2
            go_quiet (fail)
            go_wp2
            go_roundw
            case rel => exact ⟨2 + 1, rfl, by omega, HR.out.drewN _⟩
            case measure => simp [intOf]
          · have x1 : wr.cell? ⟨w.heap.size, 13, none⟩ = some (.int .i64 L.n3) := HR.out.hd.cell 13
            go_wp2
            go_quiet (fail)
            go_wp2
            go_roundw
            case rel => exact ⟨3 + 1, rfl, by omega, HR.out.drewN _⟩
            case measure => simp [intOf]
        · obtain rfl : k = 4 := by omega
          obtain ⟨e0, _, _, _, _⟩ := HE.out
          obtain ⟨A1, A2, A3⟩ := HA.out
          have x1 : wr.cell? ⟨w.heap.size, 0, none⟩ = some (.int .u16 L.id) := HR.out.hd.cell 0
          have x2 : wr.cell? ⟨w.heap.size, 2, none⟩ = some (.int .i64 L.op) := HR.out.hd.cell 2
          have x3 : wr.cell? ⟨w.heap.size, 9, none⟩ = some (.int .i64 L.rc) := HR.out.hd.cell 9
          go_wp2
          go_quiet (fail)
          go_wp2
          go_ret
          exact ⟨rfl, below_drN HR.out.below _⟩
theorem HeaderBits_walk (v0 : Value) (w : World) (L : Hd) (hrow : v0 = hv L ∧ L.fits) : Calls Try.prog 7 #[v0] w fun e w' => e = .returned (.bool true) ∧ Below w.heap.size w w' := by
  obtain ⟨rfl, hf⟩ := hrow
  rcases hm : mayB L with _ | _
  · exact hbt_no L hf.id w hm
  · exact hbt_yes L hf.id w hm
end Go.Proofs.Ytjedfgflkhchiaa
