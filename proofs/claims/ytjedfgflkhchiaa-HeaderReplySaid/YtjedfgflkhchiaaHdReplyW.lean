/-
  HeaderReply: the walk. The header's ID is one that its type bears.
-/
import Derived.Test.YtjedfgflkhchiaaHdRd
import Derived.Test.YtjedfgflkhchiaaHdOpen
import Derived.Test.YtjedfgflkhchiaaPick
import Derived.Test.YtjedfgflkhchiaaQui
namespace Go.Proofs.Ytjedfgflkhchiaa
open Go.RowKit
set_option linter.unusedVariables false

theorem pick_16 (n : Int) : pick n 16 = n % 16 := by
  unfold pick
  rw [if_neg (by decide)]
  have h := Int.tmod_eq_emod (a := n) (b := 16)
  rw [h]
  split <;> split <;> omega
set_option maxHeartbeats 1000000 in
theorem HeaderReply_walk (v0 : Value) (a1 : Int) (w1 : (Lit.int .i64 a1).wf = true) (w : World) (L : Hd) (hrow : v0 = hv L ∧ L.fits) :
    Calls Try.prog 6 #[v0, .int .i64 a1] w fun e w' => e = .returned (.bool true) ∧ Below w.heap.size w w' := by
  obtain ⟨rfl, hf⟩ := hrow
  have HL := Lib.hid lives_any
  have HR := Lib.hid (Reply_any L a1)
  have HR2 := Lib.hid (Reply_any (repH L a1) a1)
  have HC := Lib.hid (Check_any L)
  have HC2 := Lib.hid (Check_any (repH L a1))
  have HP := Lib.hid (fun wx => Pick_any a1 16 wx (by decide) (by decide))
  rw [pick_16] at HP
  have h0 : 0 ≤ a1 % 16 := by omega
  have h16 : a1 % 16 < 16 := by omega
  have EQ : ∀ wx, (Op.equalIn 10000 26 (hv (repH L a1)) (hv (repH L a1))).run Try.prog wx = .ok true wx := fun wx => by rw [hd_equal]; simp
  have EZ : ∀ wx, (Op.equalIn 10000 24 (.agg #[.int .i64 0, .int .i64 0, .int .i64 0, .int .i64 0]) (.agg #[.int .i64 0, .int .i64 0, .int .i64 0, .int .i64 0])).run Try.prog wx = .ok true wx := fun wx => by rw [ints_four]; simp
  have HM := Lib.hid (fun (m : L.may) => chkH_ok (h := repH L a1) ⟨m.op, ⟨h0, by show a1 % 16 ≤ 15; omega⟩, ⟨by simp [repH], by simp [repH]⟩, ⟨by simp [repH], by simp [repH]⟩, ⟨by simp [repH], by simp [repH]⟩, ⟨by simp [repH], by simp [repH]⟩⟩)
  have hrr : repH (repH L a1) a1 = repH L a1 := rfl
  rw [hrr] at HR2
  clear w1 hf hrr
  rcases hm : mayB L with _ | _
  · rw [chkH_bad hm] at HC
    clear HM hm HC2
    have HLn := Lib.hid (Lies.new w 26 (hcs L))
    have HRn : Hid (∀ wx : World, Lies (wx.alloc (.cells (hcs (repH L a1)) 26)) wx.heap.size 26 (hcs (repH L a1))) := Lib.hid (fun wx => Lies.new wx 26 (hcs (repH L a1)))
    unfold hcs at HLn HRn
    unfold repH at HRn
    unfold hv repH at *
    go_enter Try.func6, Try.ntmps6
    go_wp2_with fail
    refine (HL.out _).mono ?_
    rintro e w1 ⟨rfl, hb⟩
    have HB1 := Lib.hid (((Below.refl w.heap.size w).alloc (Nat.le_refl _) _).trans (hb.mono (by simp)))
    obtain ⟨c1, f1⟩ := bcell hb
    have z1 : w.heap.size < w1.heap.size := by have := hb.size; (try simp at this); omega
    have HA1 := Lib.hid (HLn.out.next hb)
    clear hb
    go_wp2_with fail
    refine (HR.out _).mono ?_
    rintro e w2 ⟨rfl, hb⟩
    have HB2 := Lib.hid (HB1.out.trans (hb.mono HB1.out.size))
    obtain ⟨c2, f2⟩ := bcell hb
    have z2 : w.heap.size < w2.heap.size := by have := hb.size; (try simp at this); omega
    have HA2 := Lib.hid (HA1.out.next hb)
    clear hb
    go_wp2_with fail
    refine (HC.out _).mono ?_
    rintro e w3 ⟨rfl, hb⟩
    have HB3 := Lib.hid ((HB2.out.alloc HB2.out.size _).trans (hb.mono (by have := HB2.out.size; simp; omega)))
    obtain ⟨c3, f3⟩ := bcell hb
    have z3 : w2.heap.size < w3.heap.size := by have := hb.size; (try simp at this); omega
    have HA3 := Lib.hid ((HA2.out.alloc _).next hb)
    have HX3 := Lib.hid ((HRn.out w2).next hb)
    clear hb
    go_wp2_with fail
    obtain ⟨Ix, f, i0, hf0, hCn', hstep'⟩ : ∃ (Ix : Type) (f : Ix → World) (i0 : Ix), w3.drew = f i0 ∧ (∀ n, Below w3.heap.size w3 (f n)) ∧ (∀ n w'', Below (f n).heap.size (f n) w'' → ∃ m, w'' = f m) := ⟨{w' // Below w3.heap.size w3 w'}, Subtype.val, ⟨w3.drew, ⟨rfl, rfl, rfl, Nat.le_refl _, fun _ _ => rfl⟩⟩, rfl, fun n => n.2, fun n w'' h => ⟨⟨w'', next n.2 h⟩, rfl⟩⟩
    have HCn := Lib.hid hCn'
    have Hstep := Lib.hid hstep'
    clear hCn' hstep'
    haveI : Nonempty Ix := ⟨i0⟩
    have ha0 := fun n => (HA3.out.next (HCn.out n)).cell 0
    have ha2 := fun n => (HA3.out.next (HCn.out n)).cell 2
    have ha5 := fun n => (HA3.out.next (HCn.out n)).cell 5
    have ha8 := fun n => (HA3.out.next (HCn.out n)).cell 8
    have hx0 := fun n => (HX3.out.next (HCn.out n)).cell 0
    have hx1 := fun n => (HX3.out.next (HCn.out n)).cell 1
    have hx2 := fun n => (HX3.out.next (HCn.out n)).cell 2
    have hx3 := fun n => (HX3.out.next (HCn.out n)).cell 3
    have hx4 := fun n => (HX3.out.next (HCn.out n)).cell 4
    have hx5 := fun n => (HX3.out.next (HCn.out n)).cell 5
    have hx6 := fun n => (HX3.out.next (HCn.out n)).cell 6
    have hx7 := fun n => (HX3.out.next (HCn.out n)).cell 7
    have hx8 := fun n => (HX3.out.next (HCn.out n)).cell 8
    have hx9 := fun n => (HX3.out.next (HCn.out n)).cell 9
    have hx10 := fun n => (HX3.out.next (HCn.out n)).cell 10
    have hx11 := fun n => (HX3.out.next (HCn.out n)).cell 11
    have hx12 := fun n => (HX3.out.next (HCn.out n)).cell 12
    have hx13 := fun n => (HX3.out.next (HCn.out n)).cell 13
    replace ha0 : ∀ n, (f n).cell? ⟨w.heap.size, 0, none⟩ = some (.int .u16 L.id) := ha0
    replace ha2 : ∀ n, (f n).cell? ⟨w.heap.size, 2, none⟩ = some (.int .i64 L.op) := ha2
    replace ha5 : ∀ n, (f n).cell? ⟨w.heap.size, 5, none⟩ = some (.bool L.rd) := ha5
    replace ha8 : ∀ n, (f n).cell? ⟨w.heap.size, 8, none⟩ = some (.bool L.cd) := ha8
    replace hx0 : ∀ n, (f n).cell? ⟨w2.heap.size, 0, none⟩ = some (.int .u16 L.id) := hx0
    replace hx1 : ∀ n, (f n).cell? ⟨w2.heap.size, 1, none⟩ = some (.bool true) := hx1
    replace hx2 : ∀ n, (f n).cell? ⟨w2.heap.size, 2, none⟩ = some (.int .i64 L.op) := hx2
    replace hx3 : ∀ n, (f n).cell? ⟨w2.heap.size, 3, none⟩ = some (.bool false) := hx3
    replace hx4 : ∀ n, (f n).cell? ⟨w2.heap.size, 4, none⟩ = some (.bool false) := hx4
    replace hx5 : ∀ n, (f n).cell? ⟨w2.heap.size, 5, none⟩ = some (.bool L.rd) := hx5
    replace hx6 : ∀ n, (f n).cell? ⟨w2.heap.size, 6, none⟩ = some (.bool true) := hx6
    replace hx7 : ∀ n, (f n).cell? ⟨w2.heap.size, 7, none⟩ = some (.bool false) := hx7
    replace hx8 : ∀ n, (f n).cell? ⟨w2.heap.size, 8, none⟩ = some (.bool L.cd) := hx8
    replace hx9 : ∀ n, (f n).cell? ⟨w2.heap.size, 9, none⟩ = some (.int .i64 (a1 % 16)) := hx9
    replace hx10 : ∀ n, (f n).cell? ⟨w2.heap.size, 10, none⟩ = some (.int .i64 0) := hx10
    replace hx11 : ∀ n, (f n).cell? ⟨w2.heap.size, 11, none⟩ = some (.int .i64 0) := hx11
    replace hx12 : ∀ n, (f n).cell? ⟨w2.heap.size, 12, none⟩ = some (.int .i64 0) := hx12
    replace hx13 : ∀ n, (f n).cell? ⟨w2.heap.size, 13, none⟩ = some (.int .i64 0) := hx13
    have HV1 : Hid (∀ n, Calls Try.prog 18 #[.int .i64 a1, .int .i64 16] (f n) fun e w'' => e = .returned (.int .i64 (a1 % 16)) ∧ ∃ m, w'' = f m) := Lib.hid (fun n => (HP.out _).mono (fun _ _ h => ⟨h.1, n, h.2.symm⟩))
    have HV2 := Lib.hid (fun n => (HR2.out (f n)).mono (fun _ _ h => (⟨h.1, Hstep.out n _ h.2⟩ : _ ∧ ∃ m, _ = f m)))
    simp only [List.append_eq, List.cons_append, List.nil_append]
    refine wp_region_class f (by kernel_rfl) (lexB_of (by kernel_rfl) (by as_aux_lemma => kernel_rfl)) i0 hf0 ?_
    clear hf0
    repeat (go_big_quiet_step (first | (with_reducible exact HV1.out _) | (with_reducible exact HV2.out _)))
    all_goals
      refine wpQuiet_nil ?_
      intro _ hw'
      obtain ⟨nE, hw''⟩ := hw'
      subst hw''
      have hbE := next HB3.out (HCn.out nE)
      go_wp2
      go_ret
      exact ⟨rfl, hbE⟩
  · rw [chkH_ok (mayB_yes.1 hm)] at HC
    rw [HM.out (mayB_yes.1 hm)] at HC2
    clear HM hm
    have HLn := Lib.hid (Lies.new w 26 (hcs L))
    have HRn : Hid (∀ wx : World, Lies (wx.alloc (.cells (hcs (repH L a1)) 26)) wx.heap.size 26 (hcs (repH L a1))) := Lib.hid (fun wx => Lies.new wx 26 (hcs (repH L a1)))
    unfold hcs at HLn HRn
    unfold repH at HRn
    unfold hv repH at *
    go_enter Try.func6, Try.ntmps6
    go_wp2_with fail
    refine (HL.out _).mono ?_
    rintro e w1 ⟨rfl, hb⟩
    have HB1 := Lib.hid (((Below.refl w.heap.size w).alloc (Nat.le_refl _) _).trans (hb.mono (by simp)))
    obtain ⟨c1, f1⟩ := bcell hb
    have z1 : w.heap.size < w1.heap.size := by have := hb.size; (try simp at this); omega
    have HA1 := Lib.hid (HLn.out.next hb)
    clear hb
    go_wp2_with fail
    refine (HR.out _).mono ?_
    rintro e w2 ⟨rfl, hb⟩
    have HB2 := Lib.hid (HB1.out.trans (hb.mono HB1.out.size))
    obtain ⟨c2, f2⟩ := bcell hb
    have z2 : w.heap.size < w2.heap.size := by have := hb.size; (try simp at this); omega
    have HA2 := Lib.hid (HA1.out.next hb)
    clear hb
    go_wp2_with fail
    refine (HC.out _).mono ?_
    rintro e w3 ⟨rfl, hb⟩
    have HB3 := Lib.hid ((HB2.out.alloc HB2.out.size _).trans (hb.mono (by have := HB2.out.size; simp; omega)))
    obtain ⟨c3, f3⟩ := bcell hb
    have z3 : w2.heap.size < w3.heap.size := by have := hb.size; (try simp at this); omega
    have HA3 := Lib.hid ((HA2.out.alloc _).next hb)
    have HX3 := Lib.hid ((HRn.out w2).next hb)
    clear hb
    go_wp2_with fail
    refine (HC2.out _).mono ?_
    rintro e w4 ⟨rfl, hb⟩
    have HB4 := Lib.hid (HB3.out.trans (hb.mono HB3.out.size))
    obtain ⟨c4, f4⟩ := bcell hb
    have z4 : w2.heap.size < w4.heap.size := by have := hb.size; (try simp at this); omega
    have HA4 := Lib.hid (HA3.out.next hb)
    have HX4 := Lib.hid (HX3.out.next hb)
    clear hb
    go_wp2_with fail
    obtain ⟨Ix, f, i0, hf0, hCn', hstep'⟩ : ∃ (Ix : Type) (f : Ix → World) (i0 : Ix), w4.drew = f i0 ∧ (∀ n, Below w4.heap.size w4 (f n)) ∧ (∀ n w'', Below (f n).heap.size (f n) w'' → ∃ m, w'' = f m) := ⟨{w' // Below w4.heap.size w4 w'}, Subtype.val, ⟨w4.drew, ⟨rfl, rfl, rfl, Nat.le_refl _, fun _ _ => rfl⟩⟩, rfl, fun n => n.2, fun n w'' h => ⟨⟨w'', next n.2 h⟩, rfl⟩⟩
    have HCn := Lib.hid hCn'
    have Hstep := Lib.hid hstep'
    clear hCn' hstep'
    haveI : Nonempty Ix := ⟨i0⟩
    have ha0 := fun n => (HA4.out.next (HCn.out n)).cell 0
    have ha2 := fun n => (HA4.out.next (HCn.out n)).cell 2
    have ha5 := fun n => (HA4.out.next (HCn.out n)).cell 5
    have ha8 := fun n => (HA4.out.next (HCn.out n)).cell 8
    have hx0 := fun n => (HX4.out.next (HCn.out n)).cell 0
    have hx1 := fun n => (HX4.out.next (HCn.out n)).cell 1
    have hx2 := fun n => (HX4.out.next (HCn.out n)).cell 2
    have hx3 := fun n => (HX4.out.next (HCn.out n)).cell 3
    have hx4 := fun n => (HX4.out.next (HCn.out n)).cell 4
    have hx5 := fun n => (HX4.out.next (HCn.out n)).cell 5
    have hx6 := fun n => (HX4.out.next (HCn.out n)).cell 6
    have hx7 := fun n => (HX4.out.next (HCn.out n)).cell 7
    have hx8 := fun n => (HX4.out.next (HCn.out n)).cell 8
    have hx9 := fun n => (HX4.out.next (HCn.out n)).cell 9
    have hx10 := fun n => (HX4.out.next (HCn.out n)).cell 10
    have hx11 := fun n => (HX4.out.next (HCn.out n)).cell 11
    have hx12 := fun n => (HX4.out.next (HCn.out n)).cell 12
    have hx13 := fun n => (HX4.out.next (HCn.out n)).cell 13
    replace ha0 : ∀ n, (f n).cell? ⟨w.heap.size, 0, none⟩ = some (.int .u16 L.id) := ha0
    replace ha2 : ∀ n, (f n).cell? ⟨w.heap.size, 2, none⟩ = some (.int .i64 L.op) := ha2
    replace ha5 : ∀ n, (f n).cell? ⟨w.heap.size, 5, none⟩ = some (.bool L.rd) := ha5
    replace ha8 : ∀ n, (f n).cell? ⟨w.heap.size, 8, none⟩ = some (.bool L.cd) := ha8
    replace hx0 : ∀ n, (f n).cell? ⟨w2.heap.size, 0, none⟩ = some (.int .u16 L.id) := hx0
    replace hx1 : ∀ n, (f n).cell? ⟨w2.heap.size, 1, none⟩ = some (.bool true) := hx1
    replace hx2 : ∀ n, (f n).cell? ⟨w2.heap.size, 2, none⟩ = some (.int .i64 L.op) := hx2
    replace hx3 : ∀ n, (f n).cell? ⟨w2.heap.size, 3, none⟩ = some (.bool false) := hx3
    replace hx4 : ∀ n, (f n).cell? ⟨w2.heap.size, 4, none⟩ = some (.bool false) := hx4
    replace hx5 : ∀ n, (f n).cell? ⟨w2.heap.size, 5, none⟩ = some (.bool L.rd) := hx5
    replace hx6 : ∀ n, (f n).cell? ⟨w2.heap.size, 6, none⟩ = some (.bool true) := hx6
    replace hx7 : ∀ n, (f n).cell? ⟨w2.heap.size, 7, none⟩ = some (.bool false) := hx7
    replace hx8 : ∀ n, (f n).cell? ⟨w2.heap.size, 8, none⟩ = some (.bool L.cd) := hx8
    replace hx9 : ∀ n, (f n).cell? ⟨w2.heap.size, 9, none⟩ = some (.int .i64 (a1 % 16)) := hx9
    replace hx10 : ∀ n, (f n).cell? ⟨w2.heap.size, 10, none⟩ = some (.int .i64 0) := hx10
    replace hx11 : ∀ n, (f n).cell? ⟨w2.heap.size, 11, none⟩ = some (.int .i64 0) := hx11
    replace hx12 : ∀ n, (f n).cell? ⟨w2.heap.size, 12, none⟩ = some (.int .i64 0) := hx12
    replace hx13 : ∀ n, (f n).cell? ⟨w2.heap.size, 13, none⟩ = some (.int .i64 0) := hx13
    have HV1 : Hid (∀ n, Calls Try.prog 18 #[.int .i64 a1, .int .i64 16] (f n) fun e w'' => e = .returned (.int .i64 (a1 % 16)) ∧ ∃ m, w'' = f m) := Lib.hid (fun n => (HP.out _).mono (fun _ _ h => ⟨h.1, n, h.2.symm⟩))
    have HV2 := Lib.hid (fun n => (HR2.out (f n)).mono (fun _ _ h => (⟨h.1, Hstep.out n _ h.2⟩ : _ ∧ ∃ m, _ = f m)))
    simp only [List.append_eq, List.cons_append, List.nil_append]
    refine wp_region_class f (by kernel_rfl) (lexB_of (by kernel_rfl) (by as_aux_lemma => kernel_rfl)) i0 hf0 ?_
    clear hf0
    repeat (go_big_quiet_step (first | (with_reducible exact HV1.out _) | (with_reducible exact HV2.out _)))
    all_goals
      refine wpQuiet_nil ?_
      intro _ hw'
      obtain ⟨nE, hw''⟩ := hw'
      subst hw''
      have hbE := next HB4.out (HCn.out nE)
      go_wp2
      go_ret
      exact ⟨rfl, hbE⟩
end Go.Proofs.Ytjedfgflkhchiaa
