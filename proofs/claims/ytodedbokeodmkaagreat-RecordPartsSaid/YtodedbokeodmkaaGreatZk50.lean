/-
  The walk of the law RecordParts. Condition: Go can have the record.
-/
import Derived.Test.YtodedbokeodmkaaGreatZk47
import Derived.Test.YtodedbokeodmkaaGreatZk49
import Derived.Test.YtodedbokeodmkaaGreatZk45
namespace Go.Proofs.YtodedbokeodmkaaGreat
open Go.RowKit Go.Maps
set_option linter.unusedVariables false
set_option maxRecDepth 100000

theorem wpList_box2 {ops : Array Oper} {rest : List Oper} {o : Oper} {a : Act} {w w' : World} {Q : Exit → Act → World → Prop} (hgd : o.guard = none) (t : TypeId) (x : Operand) (ho : o.op = .box t x) (V u : Value) (hx : a.eval x = V) (hb : (Instr.box t V).run Tryz.prog w = .ok u w')
    (h : wpList Tryz.prog ops Q rest (a.put o.dst u) w') : wpList Tryz.prog ops Q (o :: rest) a w := by
  refine wpList_plain hgd fun K hK => ?_
  unfold Oper.wp execOp
  simp only [ho, hx, Sem.run_bind, Sem.run_pure, hb, Result.andThen_ok]
  exact hK _ _ h
theorem box_rc (r : MR) (A : Option Addr) (n cap : Nat) (w : World) : (Instr.box 32 (recV r (.slice A n cap))).run Tryz.prog w = .ok (pp w.heap.size) (w.alloc (.cells (cellsR r (.slice A n cap)) 32)) := by
  unfold recV cellsR
  go_simp
theorem load_rc {w : World} {g : Nat} {r : MR} {tv : Value} (h : Lies w g 32 (cellsR r tv)) : (Instr.loadAt 32 (pp g)).run Tryz.prog w = .ok (recV r tv) w :=
  load_r (x := (r, tv)) (fun i v hv => by rw [Nat.zero_add, h.cell, ← Array.getElem?_toList]; exact hv)
/-- Octets that begin with a name and a nought. -/
theorem name_bne {S n : ByteArray} {s : List UInt8} (hs : bs S = s) (h : s.take ((bs n).length + 1) = bs n ++ [0]) : ((S.extract 0 (n.size + 1)).toList == (n ++ ⟨#[0]⟩).toList) = true := by
  have e : S.extract 0 (n.size + 1) = n ++ ⟨#[0]⟩ := by
    apply bs_inj
    rw [bs_extract, List.drop_zero, Nat.sub_zero, hs, ← bs_length, h]
    simp [bs]
  rw [e]
  exact beq_self_eq_true _
theorem num_at (S : ByteArray) (a : Int) (k n : Nat) (m v : Int) (w : World) (ha : a = (k : Int)) (hm : m = (n : Int)) (hn : n ≤ 4) (hk : k + n ≤ S.size) (hs : S.size ≤ 65535) (hv : ((num (((bs S).drop k).take n) : Nat) : Int) = v) :
    Calls Tryz.prog 13 #[.string S, .int .i64 a, .int .i64 m] w fun e w' => e = .returned (.int .i64 v) ∧ w = w' := by
  subst ha hm
  rw [← hv, ← numI_num]
  exact lawNumber_any S k n w hn hk (by omega)
set_option maxHeartbeats 4000000 in
theorem RecordParts_walk (r : MR) (tv : Value) (w : World) (fr : FitR w r tv) :
    Calls Tryz.prog 3 #[recV r tv] w fun e w' => e = .returned (.bool true) ∧ Below w.heap.size w w' := by
  obtain ⟨A, ca, hta, _, _⟩ := fr.d.row.shape
  have hta' : ∃ n, tv = Value.slice A n ca := ⟨_, hta⟩
  clear hta
  obtain ⟨na, hta⟩ := hta'
  have hbx := box_rc r A na ca w
  rw [← hta] at hbx
  have hB := boxR w r tv
  obtain ⟨W, hW⟩ : ∃ W, W = w.alloc (.cells (cellsR r tv) 32) := ⟨_, rfl⟩
  have hL : Lies W w.heap.size 32 (cellsR r tv) := by rw [hW]; exact Lies.new _ _ _
  rw [← hW] at hbx hB
  clear hW
  have HLv := Lib.hid lives10
  have HF := Lib.hid fun wx (hb : Below W.heap.size W wx) => (fr.next hB).next hb
  have HLt := Lib.hid fun wx (hb : Below W.heap.size W wx) => light_b r tv wx ((fr.next hB).next hb)
  have HCk := Lib.hid fun wx (hb : Below W.heap.size W wx) => rcCheck_any r tv wx ((fr.next hB).next hb)
  have HNew : Hid (∀ wx, Calls Tryz.prog 8 #[.int .i64 65535] wx (NewP wx 65535)) := Lib.hid fun wx => pNew_any 65535 wx (by decide)
  have hBl := blk_ltC (fr.next hB).d.row
  have HPt := Lib.hid fun wx base F g (hp : PK wx base F g 65535 ps0) (hb : Below W.heap.size W wx) (hle : W.heap.size ≤ base) => rcPut_any r tv wx hp ((fr.next hB).next hb) (fun j hj => Nat.lt_of_lt_of_le (hBl j hj) hle)
  have HBk := Lib.hid fun (h : (putR 65535 r ps0).1 = 0) => rec_back goodR0 (putR_ok h).1 ⟨fr.d.hi, fr.d.lo⟩ fr.x (by decide) (.inr (putR_ok h).2)
  have HNo := Lib.hid fun (hc : checkR r = 0) (h : octD r.d + sizeT r.d.L ≤ 2000) => (rec_back goodR0 hc ⟨fr.d.hi, fr.d.lo⟩ fr.x (by decide) (.inl (by
    obtain ⟨hcq, hcd⟩ := checkR_zero hc
    have ht : isT r.t = true := (checkQ_zero hcq).2.1
    unfold checkD at hcd
    rw [if_pos ht] at hcd
    have := (small_all hcd).2
    show 0 + 265 + _ ≤ _
    omega))).ok
  have HCk0 := Lib.hid fun (h : (putR 65535 r ps0).1 = 0) => (putR_ok h).1
  obtain ⟨q, hq⟩ : ∃ q, putR 65535 r ps0 = q := ⟨_, rfl⟩
  rw [hq] at HPt HBk HNo HCk0
  have HLd := Lib.hid fun wx (hb : Below W.heap.size W wx) => load_rc (hL.next hb)
  have HL := Lib.hid fun wx (hb : Below W.heap.size W wx) => lies16 (hL.next hb)
  have HEnt := Lib.hid fun wx (hb : Below W.heap.size W wx) => hB.trans (hb.mono hB.size)
  have HBx := Lib.hid hbx
  have HFr := Lib.hid fr
  clear hbx hB hL hBl hq fr
  obtain ⟨V, hV⟩ : ∃ V, recV r tv = V := ⟨_, rfl⟩
  rw [hV] at HBx HLt HCk HPt HLd ⊢
  clear hV
  go_enter Tryz.func3, Tryz.ntmps3
  go_wp2_with (first | (refine wpList_box2 rfl 32 (.tmp 0) rfl V _ rfl HBx.out ?_) | fail)
  refine (HLv.out _).mono ?_
  rintro e w1 ⟨rfl, hb1⟩
  have HB1 := Lib.hid hb1
  clear hb1
  go_wp2_with (first | (refine wpList_load1 rfl 32 (.tmp 1) rfl (pp w.heap.size) V rfl (HLd.out _ HB1.out) ?_) | fail)
  refine (HLt.out _ HB1.out).mono ?_
  rintro e w2 ⟨c, rfl, hc, hb2⟩
  have HC := Lib.hid hc
  have HB2 := Lib.hid (HB1.out.trans (hb2.mono HB1.out.size))
  clear hc hb2
  cases c
  · as_aux_lemma =>
      go_wp2
      go_ret
      exact ⟨rfl, HEnt.out _ HB2.out⟩
  · go_wp2_with fail
    refine (HNew.out _).mono ?_
    rintro e w3 ⟨g, F, rfl, hp3, hb3⟩
    have HP3 := Lib.hid hp3
    have HB3 := Lib.hid (HB2.out.trans (hb3.mono HB2.out.size))
    have HLe := Lib.hid HB2.out.size
    clear hp3 hb3
    go_wp2_with (first | (refine wpList_load1 rfl 32 (.tmp 1) rfl (pp w.heap.size) V rfl (HLd.out _ HB3.out) ?_) | fail)
    refine (HPt.out _ _ _ _ HP3.out HB3.out HLe.out).mono ?_
    rintro e w4 ⟨rfl, F', hp4, hk4⟩
    have HP4 := Lib.hid hp4
    have HB4 := Lib.hid (HB3.out.trans (hk4.below.mono HLe.out))
    clear hp4 hk4 HP3 HPt
    by_cases hz : q.1 = 0
    · have hrb := HBk.out hz
      have hst : Stands q.2.l r := stands_of (by have := hrb.back []; rw [List.append_nil] at this; exact this)
      have hle := hrb.good.inv.le
      obtain ⟨hcq, hcd⟩ := checkR_zero (HCk0.out hz)
      have hnl : r.n.size ≤ 254 := nm_le (checkQ_zero hcq).1
      have ht : isT r.t = true := (checkQ_zero hcq).2.1
      obtain ⟨S, hS⟩ : ∃ S : ByteArray, (⟨q.2.l.toArray⟩ : ByteArray) = S := ⟨_, rfl⟩
      have hSb : bs S = q.2.l := by rw [← hS, bs_mk]
      rw [← hSb] at hst hle
      rw [bs_length] at hle
      have hTx := pText_any HP4.out
      rw [hS] at hTx
      have HTx := Lib.hid hTx
      have hs11 := hst.le
      rw [bs_length, bs_length] at hs11
      have HSt := Lib.hid hst
      have HT := Lib.hid ht
      have hz1 := hz
      obtain ⟨q1, q2⟩ := q
      simp only at hz1
      subst hz1
      have hne : ((((0 : Nat) : Nat) : Int) != 0) = false := rfl
      clear hrb hcq hcd ht hS hSb hTx hst hz HBk HNo HCk0
      go_wp2_with fail
      refine HTx.out.mono ?_
      rintro e w5 ⟨rfl, rfl⟩
      have x0 := (HL.out _ HB4.out).1
      go_wp2_with fail
      clear x0
      have b1 : decide ((S.size : Int) < (r.n.size : Int) + 1 + 10) = false := decide_eq_false (by omega)
      have b2 := name_bne (n := r.n) rfl HSt.out.name
      have i1 : (0 : Int) ≤ (r.n.size : Int) + 1 := by omega
      have i2 : (r.n.size : Int) + 1 ≤ (S.size : Int) := by omega
      obtain ⟨Ix, f, i0, hf0, hCn, hstep⟩ := class_ofC w4
      haveI : Nonempty Ix := ⟨i0⟩
      have x0 := fun n => (HL.out _ (HB4.out.trans ((hCn n).mono HB4.out.size))).1
      clear hstep
      refine wp_region_class f (by kernel_rfl) (lexB_of (by kernel_rfl) (by as_aux_lemma => kernel_rfl)) i0 hf0 ?_
      clear hf0
      repeat (go_big_quiet_step (fail))
      refine wpQuiet_nil ?_
      intro _ hw'
      obtain ⟨nE, hw''⟩ := hw'
      subst hw''
      have HBE := Lib.hid (HB4.out.trans ((hCn nE).mono HB4.out.size))
      clear x0 hCn b1 i1 i2
      obtain ⟨wE, hwE⟩ : ∃ wE, f nE = wE := ⟨_, rfl⟩
      rw [hwE] at HBE ⊢
      clear hwE
      have HRd := Lib.hid fun wx => refRead_data (S := S) (a := r.n.size + 11) (t := r.t) (d := r.d) HT.out (by omega) hle (by have := HSt.out.d; rw [bs_length, bs_length] at this; exact this) wx
      have ea : ((r.n.size + 11 : Nat) : Int) = (r.n.size : Int) + 1 + 10 := by omega
      unfold RdGoal at HRd
      rw [ea] at HRd
      clear ea
      have x1 := (HL.out _ HBE.out).2.1
      go_wp2_with fail
      refine (HRd.out _).mono ?_
      rintro e w6 ⟨tv', rfl, hrow, hb6⟩
      have HB6 := Lib.hid (HBE.out.trans (hb6.mono HBE.out.size))
      obtain ⟨A', ca', htv', _, _⟩ := hrow.shape
      have hta' : ∃ n, tv' = Value.slice A' n ca' := ⟨_, htv'⟩
      clear htv'
      obtain ⟨na', hta'⟩ := hta'
      subst hta'
      obtain ⟨wz, hst, hlz, hgz⟩ := store_dw (Lies.new w6 30 zD) r.d.six r.d.hi r.d.lo r.d.n r.d.m r.d.v0 r.d.v1 r.d.v2 r.d.v3 r.d.v4 A' na' ca' r.d.r
      have HSto := Lib.hid hst
      have HRow := Lib.hid hrow
      have HLz := Lib.hid hlz
      have HBz : Hid (Below w6.heap.size w6 wz) := Lib.hid (((Below.refl w6.heap.size w6).alloc (Nat.le_refl _) (.cells zD 30)).grown hgz (by simp) (fun j e => by injection e with e; omega))
      clear x1 hst hrow hb6 hlz hgz HRd b2
      go_wp2_with (first | (refine wpList_store1d rfl 30 (.tmp 6) (.tmp 50) rfl (.pointer (some ⟨w6.heap.size, 0, none⟩)) (.agg (dCs r.d.six r.d.hi r.d.lo r.d.n r.d.m r.d.v0 r.d.v1 r.d.v2 r.d.v3 r.d.v4 (.slice A' na' ca') r.d.r)) rfl rfl HSto.out ?_) | fail)
      have HRz := Lib.hid (HRow.out.next HBz.out)
      have HBW := Lib.hid (HB6.out.trans (HBz.out.mono HB6.out.size))
      clear HSto HRow
      have e1 : (r.t == r.t) = true := beq_self_eq_true _
      have e2 : (r.c == r.c) = true := beq_self_eq_true _
      have e3 : ((r.x : Int) == (r.x : Int)) = true := beq_self_eq_true _
      have e4 : ((S.size : Int) - ((r.n.size : Int) + 1) - 10 == (S.size : Int) - ((r.n.size : Int) + 1) - 10) = true := beq_self_eq_true _
      have x32 : (r.x : Int) < 4294967296 := by have := HFr.out.x; omega
      have x30 : (0 : Int) ≤ (r.x : Int) := Int.natCast_nonneg _
      have hst := HSt.out
      have hN0 := fun wx => num_at S ((r.n.size : Int) + 1) (r.n.size + 1) 2 2 r.t wx (by omega) rfl (by omega) (by omega) hle (by have := hst.t; rw [bs_length] at this; exact this)
      have hN1 := fun wx => num_at S ((r.n.size : Int) + 1 + 2) (r.n.size + 3) 2 2 r.c wx (by omega) rfl (by omega) (by omega) hle (by have := hst.c; rw [bs_length] at this; exact this)
      have hN2 := fun wx => num_at S ((r.n.size : Int) + 1 + 4) (r.n.size + 5) 4 4 (r.x : Int) wx (by omega) rfl (by omega) (by omega) hle (by have := hst.x; rw [bs_length] at this; rw [this])
      have hN3 := fun wx => num_at S ((r.n.size : Int) + 1 + 8) (r.n.size + 9) 2 2 ((S.size : Int) - ((r.n.size : Int) + 1) - 10) wx (by omega) rfl (by omega) (by omega) hle (by have := hst.z; rw [bs_length, bs_length] at this; rw [this]; omega)
      subst hta
      obtain ⟨Ix, f, i0, hf0, hCn, hstep⟩ := class_ofC wz
      haveI : Nonempty Ix := ⟨i0⟩
      have HBn := Lib.hid fun n => HBW.out.trans ((hCn n).mono HBW.out.size)
      have HN0 := Lib.hid fun n => (hN0 (f n)).mono (fun _ _ h => (⟨h.1, n, h.2.symm⟩ : _ ∧ ∃ m, _ = f m))
      have HN1 := Lib.hid fun n => (hN1 (f n)).mono (fun _ _ h => (⟨h.1, n, h.2.symm⟩ : _ ∧ ∃ m, _ = f m))
      have HN2 := Lib.hid fun n => (hN2 (f n)).mono (fun _ _ h => (⟨h.1, n, h.2.symm⟩ : _ ∧ ∃ m, _ = f m))
      have HN3 := Lib.hid fun n => (hN3 (f n)).mono (fun _ _ h => (⟨h.1, n, h.2.symm⟩ : _ ∧ ∃ m, _ = f m))
      have HSm : Hid (∀ n, Calls Tryz.prog 14 #[.agg (dCs r.d.six r.d.hi r.d.lo r.d.n r.d.m r.d.v0 r.d.v1 r.d.v2 r.d.v3 r.d.v4 (.slice A' na' ca') r.d.r), .agg (dCs r.d.six r.d.hi r.d.lo r.d.n r.d.m r.d.v0 r.d.v1 r.d.v2 r.d.v3 r.d.v4 (.slice A na ca) r.d.r)] (f n) fun e w'' => e = .returned (.bool true) ∧ ∃ m, w'' = f m) := Lib.hid fun n =>
        (refSame_eq r.d (.slice A' na' ca') (.slice A na ca) (f n) { HFr.out.d with row := HRz.out.next (hCn n) } (HF.out _ (HBn.out n)).d).mono (fun _ _ h => (⟨h.1, hstep n _ h.2⟩ : _ ∧ ∃ m, _ = f m))
      have x1 := fun n => (HL.out _ (HBn.out n)).2.1
      have x2 := fun n => (HL.out _ (HBn.out n)).2.2.1
      have x3 := fun n => (HL.out _ (HBn.out n)).2.2.2.1
      have x4 := fun n => (HL.out _ (HBn.out n)).2.2.2.2.1
      have x5 := fun n => (HL.out _ (HBn.out n)).2.2.2.2.2.1
      have x6 := fun n => (HL.out _ (HBn.out n)).2.2.2.2.2.2.1
      have x7 := fun n => (HL.out _ (HBn.out n)).2.2.2.2.2.2.2.1
      have x8 := fun n => (HL.out _ (HBn.out n)).2.2.2.2.2.2.2.2.1
      have x9 := fun n => (HL.out _ (HBn.out n)).2.2.2.2.2.2.2.2.2.1
      have x10 := fun n => (HL.out _ (HBn.out n)).2.2.2.2.2.2.2.2.2.2.1
      have x11 := fun n => (HL.out _ (HBn.out n)).2.2.2.2.2.2.2.2.2.2.2.1
      have x12 := fun n => (HL.out _ (HBn.out n)).2.2.2.2.2.2.2.2.2.2.2.2.1
      have x13 := fun n => (HL.out _ (HBn.out n)).2.2.2.2.2.2.2.2.2.2.2.2.2.1
      have x14 := fun n => (HL.out _ (HBn.out n)).2.2.2.2.2.2.2.2.2.2.2.2.2.2.1
      have x15 := fun n => (HL.out _ (HBn.out n)).2.2.2.2.2.2.2.2.2.2.2.2.2.2.2
      have y0 := fun n => (HLz.out.next (hCn n)).cell 0
      have y1 := fun n => (HLz.out.next (hCn n)).cell 1
      have y2 := fun n => (HLz.out.next (hCn n)).cell 2
      have y3 := fun n => (HLz.out.next (hCn n)).cell 3
      have y4 := fun n => (HLz.out.next (hCn n)).cell 4
      have y5 := fun n => (HLz.out.next (hCn n)).cell 5
      have y6 := fun n => (HLz.out.next (hCn n)).cell 6
      have y7 := fun n => (HLz.out.next (hCn n)).cell 7
      have y8 := fun n => (HLz.out.next (hCn n)).cell 8
      have y9 := fun n => (HLz.out.next (hCn n)).cell 9
      have y10 := fun n => (HLz.out.next (hCn n)).cell 10
      have y11 := fun n => (HLz.out.next (hCn n)).cell 11
      simp at y0 y1 y2 y3 y4 y5 y6 y7 y8 y9 y10 y11
      clear hN0 hN1 hN2 hN3 hstep hst
      refine wp_region_class f (by kernel_rfl) (lexB_of (by kernel_rfl) (by as_aux_lemma => kernel_rfl)) i0 hf0 ?_
      clear hf0
      try simp only [List.append_eq, List.cons_append, List.nil_append]
      repeat (go_big_quiet_step (with_reducible (first | exact HN0.out _ | exact HN1.out _ | exact HN2.out _ | exact HN3.out _ | exact HSm.out _)))
      refine wpQuiet_nil ?_
      intro _ hw'
      obtain ⟨nE, hw''⟩ := hw'
      subst hw''
      go_wp2
      go_ret
      exact ⟨rfl, HEnt.out _ (HBn.out nE)⟩
    · have HZ := Lib.hid hz
      have hne : (((q.1 : Nat) : Int) != 0) = true := by rw [bne_iff_ne]; omega
      clear hz
      go_wp2_with (first | (refine wpList_load1 rfl 32 (.tmp 1) rfl (pp w.heap.size) V rfl (HLd.out _ HB4.out) ?_) | fail)
      refine (HCk.out _ HB4.out).mono ?_
      rintro e w5 ⟨rfl, hb5⟩
      have HB5 := Lib.hid (HB4.out.trans (hb5.mono HB4.out.size))
      have hcn : checkR r ≠ 0 := fun h => HZ.out (HNo.out h (HC.out trivial h))
      have hce : (((checkR r : Nat) : Int) != 0) = true := by rw [bne_iff_ne]; omega
      clear hb5 hcn
      obtain ⟨cc, hcc⟩ : ∃ c, ((checkR r : Nat) : Int) = c := ⟨_, rfl⟩
      rw [hcc] at hce ⊢
      go_wp2
      go_ret
      exact ⟨rfl, HEnt.out _ HB5.out⟩
end Go.Proofs.YtodedbokeodmkaaGreat
