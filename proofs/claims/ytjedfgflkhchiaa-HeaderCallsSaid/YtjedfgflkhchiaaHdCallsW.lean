/-
  HeaderCalls: the walk. The header's ID is one that its type bears.
-/
import Derived.Test.YtjedfgflkhchiaaHdRefB
import Derived.Test.YtjedfgflkhchiaaHdRefC
import Derived.Test.YtjedfgflkhchiaaHdOpen
namespace Go.Proofs.Ytjedfgflkhchiaa
open Go.RowKit
set_option linter.unusedVariables false

theorem eq_one (a : Hd) (w : World) : (Op.equalIn 10000 26 (hv a) (hv a)).run Try.prog w = .ok true w := by rw [hd_equal]; simp
set_option maxHeartbeats 1000000 in
theorem hcl_long (L : Hd) (s : ByteArray) (r : Int) (w : World) (hl : 300 < s.size) : Calls Try.prog 4 #[hv L, .string s, .int .i64 r] w fun e w' => e = .returned (.bool true) ∧ Below w.heap.size w w' := by
  have HLv := Lib.hid lives_any
  have hd : decide ((300 : Int) < (s.size : Int)) = true := by simp; omega
  have hd2 : decide (300 < s.size) = true := by simp; omega
  unfold hv at *
  go_enter Try.func4, Try.ntmps4
  go_wp2_with fail
  refine (HLv.out _).mono ?_
  rintro e w1 ⟨rfl, hb⟩
  have HB1 := Lib.hid (((Below.refl w.heap.size w).alloc (Nat.le_refl _) _).trans (hb.mono (by simp)))
  clear hb
  go_wp2
  go_ret
  exact ⟨rfl, HB1.out⟩
set_option maxHeartbeats 2000000 in
theorem hcl_main (L : Hd) (s : ByteArray) (r : Int) (w : World) (hid : L.id < 65536) (hl : s.size ≤ 300) : Calls Try.prog 4 #[hv L, .string s, .int .i64 r] w fun e w' => e = .returned (.bool true) ∧ Below w.heap.size w w' := by
  have HLv := Lib.hid lives_any
  have HP := Lib.hid (Put_any L hid)
  have HP2 := Lib.hid (fPut_all L hid)
  have HR := Lib.hid (fun wx => Read_any s wx (by unfold maxLen; omega))
  have HR2 := Lib.hid (fun wx => fRead_any s wx (by unfold maxLen; omega))
  have HC := Lib.hid (Check_any L)
  have HC2 := Lib.hid (fCheck_any L)
  have HY := Lib.hid (Reply_any L r)
  have HY2 := Lib.hid (fReply_any L r)
  have hd : decide ((300 : Int) < (s.size : Int)) = false := by simp; omega
  have hd2 : decide (300 < s.size) = false := by simp; omega
  obtain ⟨X, E, hX⟩ : ∃ (X : Hd) (E : Nat), rdP (bs s) = .tuple #[hv X, .int .i64 E] := ⟨_, _, rfl⟩
  rw [hX] at HR HR2
  obtain ⟨S, hS⟩ : ∃ S : ByteArray, S = ⟨(ptV L).toArray⟩ := ⟨_, rfl⟩
  obtain ⟨K, hK⟩ : ∃ K, K = chkH L := ⟨_, rfl⟩
  obtain ⟨Y, hY⟩ : ∃ Y, Y = repH L r := ⟨_, rfl⟩
  rw [← hS, ← hK] at HP HP2
  rw [← hK] at HC HC2
  rw [← hY] at HY HY2
  have EX := eq_one X
  have EY := eq_one Y
  clear hX hS hK hY hl hid
  have HLn := Lib.hid (Lies.new w 26 (hcs L))
  have HXn : Hid (∀ wx : World, Lies (wx.alloc (.cells (hcs X) 26)) wx.heap.size 26 (hcs X)) := Lib.hid (fun wx => Lies.new wx 26 (hcs X))
  unfold hcs at HLn HXn
  unfold hv at *
  go_enter Try.func4, Try.ntmps4
  go_wp2_with fail
  refine (HLv.out _).mono ?_
  rintro e w1 ⟨rfl, hb⟩
  have HB1 := Lib.hid (((Below.refl w.heap.size w).alloc (Nat.le_refl _) _).trans (hb.mono (by simp)))
  obtain ⟨c1, f1⟩ := bcell hb
  have z1a : w.heap.size < w1.heap.size := by have := hb.size; (try simp at this); omega
  have HA1 := Lib.hid (HLn.out.next hb)
  clear hb
  go_wp2_with fail
  refine (HP.out _).mono ?_
  rintro e w2 ⟨rfl, hb⟩
  have HB2 := Lib.hid (HB1.out.trans (hb.mono HB1.out.size))
  obtain ⟨c2, f2⟩ := bcell hb
  have z2a : w.heap.size < w2.heap.size := by have := hb.size; (try simp at this); omega
  have HA2 := Lib.hid (HA1.out.next hb)
  clear hb
  go_wp2_with fail
  refine (HP2.out _).mono ?_
  rintro e w3 ⟨rfl, hb⟩
  have HB3 := Lib.hid (HB2.out.trans (hb.mono HB2.out.size))
  obtain ⟨c3, f3⟩ := bcell hb
  have z3a : w.heap.size < w3.heap.size := by have := hb.size; (try simp at this); omega
  have HA3 := Lib.hid (HA2.out.next hb)
  clear hb
  go_wp2_with fail
  refine (HR.out _).mono ?_
  rintro e w4 ⟨rfl, hb⟩
  have HB4 := Lib.hid (HB3.out.trans (hb.mono HB3.out.size))
  obtain ⟨c4, f4⟩ := bcell hb
  have z4a : w.heap.size < w4.heap.size := by have := hb.size; (try simp at this); omega
  have HA4 := Lib.hid (HA3.out.next hb)
  clear hb
  go_wp2_with fail
  refine (HR2.out _).mono ?_
  rintro e w5 ⟨rfl, hb⟩
  have HB5 := Lib.hid ((HB4.out.alloc HB4.out.size _).trans (hb.mono (by have := HB4.out.size; simp; omega)))
  obtain ⟨c5, f5⟩ := bcell hb
  have z5a : w4.heap.size < w5.heap.size := by have := hb.size; (try simp at this); omega
  have HA5 := Lib.hid ((HA4.out.alloc _).next hb)
  have HX5 := Lib.hid ((HXn.out w4).next hb)
  clear hb
  clear c1 f1 c2 f2 c3 f3 c4 f4 c5 f5
  go_wp2_with fail
  obtain ⟨w6, hw6⟩ : ∃ w6, w6 = w5.alloc (.cells #[.int .u16 X.id, .bool X.re, .int .i64 X.op, .bool X.aa, .bool X.tc, .bool X.rd, .bool X.ra, .bool X.ad, .bool X.cd, .int .i64 X.rc, .int .i64 X.n0, .int .i64 X.n1, .int .i64 X.n2, .int .i64 X.n3] 26) := ⟨_, rfl⟩
  rw [← hw6]
  have HA6 := Lib.hid (HA5.out.alloc (.cells #[.int .u16 X.id, .bool X.re, .int .i64 X.op, .bool X.aa, .bool X.tc, .bool X.rd, .bool X.ra, .bool X.ad, .bool X.cd, .int .i64 X.rc, .int .i64 X.n0, .int .i64 X.n1, .int .i64 X.n2, .int .i64 X.n3] 26))
  have HX6 := Lib.hid (HX5.out.alloc (.cells #[.int .u16 X.id, .bool X.re, .int .i64 X.op, .bool X.aa, .bool X.tc, .bool X.rd, .bool X.ra, .bool X.ad, .bool X.cd, .int .i64 X.rc, .int .i64 X.n0, .int .i64 X.n1, .int .i64 X.n2, .int .i64 X.n3] 26))
  have HZ6 := Lib.hid (HXn.out w5)
  have HB6 := Lib.hid (HB5.out.alloc HB5.out.size (.cells #[.int .u16 X.id, .bool X.re, .int .i64 X.op, .bool X.aa, .bool X.tc, .bool X.rd, .bool X.ra, .bool X.ad, .bool X.cd, .int .i64 X.rc, .int .i64 X.n0, .int .i64 X.n1, .int .i64 X.n2, .int .i64 X.n3] 26))
  rw [← hw6] at HA6 HX6 HZ6 HB6
  clear hw6
  obtain ⟨Ix, f, i0, hf0, hCn', hstep'⟩ : ∃ (Ix : Type) (f : Ix → World) (i0 : Ix), w6.drew = f i0 ∧ (∀ n, Below w6.heap.size w6 (f n)) ∧ (∀ n w'', Below (f n).heap.size (f n) w'' → ∃ m, w'' = f m) := ⟨{w' // Below w6.heap.size w6 w'}, Subtype.val, ⟨w6.drew, ⟨rfl, rfl, rfl, Nat.le_refl _, fun _ _ => rfl⟩⟩, rfl, fun n => n.2, fun n w'' h => ⟨⟨w'', next n.2 h⟩, rfl⟩⟩
  have HCn := Lib.hid hCn'
  have Hstep := Lib.hid hstep'
  clear hCn' hstep'
  haveI : Nonempty Ix := ⟨i0⟩
  have ha0 : ∀ n, (f n).cell? ⟨w.heap.size, 0, none⟩ = some (.int .u16 L.id) := fun n => (HA6.out.next (HCn.out n)).cell 0
  have ha1 : ∀ n, (f n).cell? ⟨w.heap.size, 1, none⟩ = some (.bool L.re) := fun n => (HA6.out.next (HCn.out n)).cell 1
  have ha2 : ∀ n, (f n).cell? ⟨w.heap.size, 2, none⟩ = some (.int .i64 L.op) := fun n => (HA6.out.next (HCn.out n)).cell 2
  have ha3 : ∀ n, (f n).cell? ⟨w.heap.size, 3, none⟩ = some (.bool L.aa) := fun n => (HA6.out.next (HCn.out n)).cell 3
  have ha4 : ∀ n, (f n).cell? ⟨w.heap.size, 4, none⟩ = some (.bool L.tc) := fun n => (HA6.out.next (HCn.out n)).cell 4
  have ha5 : ∀ n, (f n).cell? ⟨w.heap.size, 5, none⟩ = some (.bool L.rd) := fun n => (HA6.out.next (HCn.out n)).cell 5
  have ha6 : ∀ n, (f n).cell? ⟨w.heap.size, 6, none⟩ = some (.bool L.ra) := fun n => (HA6.out.next (HCn.out n)).cell 6
  have ha7 : ∀ n, (f n).cell? ⟨w.heap.size, 7, none⟩ = some (.bool L.ad) := fun n => (HA6.out.next (HCn.out n)).cell 7
  have ha8 : ∀ n, (f n).cell? ⟨w.heap.size, 8, none⟩ = some (.bool L.cd) := fun n => (HA6.out.next (HCn.out n)).cell 8
  have ha9 : ∀ n, (f n).cell? ⟨w.heap.size, 9, none⟩ = some (.int .i64 L.rc) := fun n => (HA6.out.next (HCn.out n)).cell 9
  have ha10 : ∀ n, (f n).cell? ⟨w.heap.size, 10, none⟩ = some (.int .i64 L.n0) := fun n => (HA6.out.next (HCn.out n)).cell 10
  have ha11 : ∀ n, (f n).cell? ⟨w.heap.size, 11, none⟩ = some (.int .i64 L.n1) := fun n => (HA6.out.next (HCn.out n)).cell 11
  have ha12 : ∀ n, (f n).cell? ⟨w.heap.size, 12, none⟩ = some (.int .i64 L.n2) := fun n => (HA6.out.next (HCn.out n)).cell 12
  have ha13 : ∀ n, (f n).cell? ⟨w.heap.size, 13, none⟩ = some (.int .i64 L.n3) := fun n => (HA6.out.next (HCn.out n)).cell 13
  have hx0 : ∀ n, (f n).cell? ⟨w4.heap.size, 0, none⟩ = some (.int .u16 X.id) := fun n => (HX6.out.next (HCn.out n)).cell 0
  have hx1 : ∀ n, (f n).cell? ⟨w4.heap.size, 1, none⟩ = some (.bool X.re) := fun n => (HX6.out.next (HCn.out n)).cell 1
  have hx2 : ∀ n, (f n).cell? ⟨w4.heap.size, 2, none⟩ = some (.int .i64 X.op) := fun n => (HX6.out.next (HCn.out n)).cell 2
  have hx3 : ∀ n, (f n).cell? ⟨w4.heap.size, 3, none⟩ = some (.bool X.aa) := fun n => (HX6.out.next (HCn.out n)).cell 3
  have hx4 : ∀ n, (f n).cell? ⟨w4.heap.size, 4, none⟩ = some (.bool X.tc) := fun n => (HX6.out.next (HCn.out n)).cell 4
  have hx5 : ∀ n, (f n).cell? ⟨w4.heap.size, 5, none⟩ = some (.bool X.rd) := fun n => (HX6.out.next (HCn.out n)).cell 5
  have hx6 : ∀ n, (f n).cell? ⟨w4.heap.size, 6, none⟩ = some (.bool X.ra) := fun n => (HX6.out.next (HCn.out n)).cell 6
  have hx7 : ∀ n, (f n).cell? ⟨w4.heap.size, 7, none⟩ = some (.bool X.ad) := fun n => (HX6.out.next (HCn.out n)).cell 7
  have hx8 : ∀ n, (f n).cell? ⟨w4.heap.size, 8, none⟩ = some (.bool X.cd) := fun n => (HX6.out.next (HCn.out n)).cell 8
  have hx9 : ∀ n, (f n).cell? ⟨w4.heap.size, 9, none⟩ = some (.int .i64 X.rc) := fun n => (HX6.out.next (HCn.out n)).cell 9
  have hx10 : ∀ n, (f n).cell? ⟨w4.heap.size, 10, none⟩ = some (.int .i64 X.n0) := fun n => (HX6.out.next (HCn.out n)).cell 10
  have hx11 : ∀ n, (f n).cell? ⟨w4.heap.size, 11, none⟩ = some (.int .i64 X.n1) := fun n => (HX6.out.next (HCn.out n)).cell 11
  have hx12 : ∀ n, (f n).cell? ⟨w4.heap.size, 12, none⟩ = some (.int .i64 X.n2) := fun n => (HX6.out.next (HCn.out n)).cell 12
  have hx13 : ∀ n, (f n).cell? ⟨w4.heap.size, 13, none⟩ = some (.int .i64 X.n3) := fun n => (HX6.out.next (HCn.out n)).cell 13
  have hy0 : ∀ n, (f n).cell? ⟨w5.heap.size, 0, none⟩ = some (.int .u16 X.id) := fun n => (HZ6.out.next (HCn.out n)).cell 0
  have hy1 : ∀ n, (f n).cell? ⟨w5.heap.size, 1, none⟩ = some (.bool X.re) := fun n => (HZ6.out.next (HCn.out n)).cell 1
  have hy2 : ∀ n, (f n).cell? ⟨w5.heap.size, 2, none⟩ = some (.int .i64 X.op) := fun n => (HZ6.out.next (HCn.out n)).cell 2
  have hy3 : ∀ n, (f n).cell? ⟨w5.heap.size, 3, none⟩ = some (.bool X.aa) := fun n => (HZ6.out.next (HCn.out n)).cell 3
  have hy4 : ∀ n, (f n).cell? ⟨w5.heap.size, 4, none⟩ = some (.bool X.tc) := fun n => (HZ6.out.next (HCn.out n)).cell 4
  have hy5 : ∀ n, (f n).cell? ⟨w5.heap.size, 5, none⟩ = some (.bool X.rd) := fun n => (HZ6.out.next (HCn.out n)).cell 5
  have hy6 : ∀ n, (f n).cell? ⟨w5.heap.size, 6, none⟩ = some (.bool X.ra) := fun n => (HZ6.out.next (HCn.out n)).cell 6
  have hy7 : ∀ n, (f n).cell? ⟨w5.heap.size, 7, none⟩ = some (.bool X.ad) := fun n => (HZ6.out.next (HCn.out n)).cell 7
  have hy8 : ∀ n, (f n).cell? ⟨w5.heap.size, 8, none⟩ = some (.bool X.cd) := fun n => (HZ6.out.next (HCn.out n)).cell 8
  have hy9 : ∀ n, (f n).cell? ⟨w5.heap.size, 9, none⟩ = some (.int .i64 X.rc) := fun n => (HZ6.out.next (HCn.out n)).cell 9
  have hy10 : ∀ n, (f n).cell? ⟨w5.heap.size, 10, none⟩ = some (.int .i64 X.n0) := fun n => (HZ6.out.next (HCn.out n)).cell 10
  have hy11 : ∀ n, (f n).cell? ⟨w5.heap.size, 11, none⟩ = some (.int .i64 X.n1) := fun n => (HZ6.out.next (HCn.out n)).cell 11
  have hy12 : ∀ n, (f n).cell? ⟨w5.heap.size, 12, none⟩ = some (.int .i64 X.n2) := fun n => (HZ6.out.next (HCn.out n)).cell 12
  have hy13 : ∀ n, (f n).cell? ⟨w5.heap.size, 13, none⟩ = some (.int .i64 X.n3) := fun n => (HZ6.out.next (HCn.out n)).cell 13
  have V0 := Lib.hid (fun n => (HC.out (f n)).mono (fun _ _ h => (⟨h.1, Hstep.out n _ h.2⟩ : _ ∧ ∃ m, _ = f m)))
  have V1 := Lib.hid (fun n => (HC2.out (f n)).mono (fun _ _ h => (⟨h.1, Hstep.out n _ h.2⟩ : _ ∧ ∃ m, _ = f m)))
  have V2 := Lib.hid (fun n => (HY.out (f n)).mono (fun _ _ h => (⟨h.1, Hstep.out n _ h.2⟩ : _ ∧ ∃ m, _ = f m)))
  have V3 := Lib.hid (fun n => (HY2.out (f n)).mono (fun _ _ h => (⟨h.1, Hstep.out n _ h.2⟩ : _ ∧ ∃ m, _ = f m)))
  have hnothing := True.intro
  refine wp_region_class f (by kernel_rfl) (lexB_of (by kernel_rfl) (by as_aux_lemma => kernel_rfl)) i0 hf0 ?_
  clear hf0
  repeat (go_big_quiet_step (first | (with_reducible exact V0.out _) | (with_reducible exact V1.out _) | (with_reducible exact V2.out _) | (with_reducible exact V3.out _)))
  all_goals
    refine wpQuiet_nil ?_
    intro _ hw'
    obtain ⟨nE, hw''⟩ := hw'
    subst hw''
    have hbE := next HB6.out (HCn.out nE)
    go_wp2
    go_ret
    exact ⟨rfl, hbE⟩
theorem HeaderCalls_walk (v0 : Value) (a1 : ByteArray) (a2 : Int) (w1 : a1.size ≤ maxLen) (w2 : (Lit.int .i64 a2).wf = true) (w : World) (L0 : Hd) (hrow0 : v0 = hv L0 ∧ L0.fits) :
    Calls Try.prog 4 #[v0, .string a1, .int .i64 a2] w fun e w' => e = .returned (.bool true) ∧ Below w.heap.size w w' := by
  obtain ⟨rfl, hf⟩ := hrow0
  rcases Nat.lt_or_ge 300 a1.size with h | h
  · exact hcl_long L0 a1 a2 w h
  · exact hcl_main L0 a1 a2 w hf.id h
end Go.Proofs.Ytjedfgflkhchiaa
