/-
  The walk of the law MessageReads. Condition: the octets are no longer than Go's own limit.
-/
import Derived.Test.YtadeflehdfmilaaGreatZk45
import Derived.Test.YtadeflehdfmilaaGreatZk49
import Derived.Test.YtadeflehdfmilaaGreatZk50
import Derived.Test.YtadeflehdfmilaaGreatZk48
import Derived.Test.YtadeflehdfmilaaGreatZk4
import Derived.Laws.OwnMore
import Derived.Laws.IdiomStrings
namespace Go.Proofs.YtadeflehdfmilaaGreat
open Go.RowKit Go.Maps
set_option linter.unusedVariables false
set_option maxRecDepth 100000

theorem wpList_load1r {ops : Array Oper} {rest : List Oper} {o : Oper} {a : Act} {w : World} {Q : Exit → Act → World → Prop} (hw : Region.wanted o (yielded ops a.tmps) = true) (t : TypeId) (x : Operand) (ho : o.op = .load t x) (p V : Value) (hx : a.eval x = p) (hb : (Instr.loadAt t p).run Tryz.prog w = .ok V w)
    (h : wpList Tryz.prog ops Q rest (a.put o.dst V) w) : wpList Tryz.prog ops Q (o :: rest) a w := by
  refine BigFrame.wpList_want hw fun K hK => ?_
  unfold Oper.wp execOp
  simp only [ho, hx, Sem.run_bind, Sem.run_pure, hb, Result.andThen_ok]
  exact hK _ _ h
theorem wpList_cv1r {ops : Array Oper} {rest : List Oper} {o : Oper} {a : Act} {w w' : World} {Q : Exit → Act → World → Prop} (hgd : o.guard = none) (s t : TypeId) (x : Operand) (ho : o.op = .convert s t x) (V1 u : Value) (hx : a.eval x = V1) (hb : (convert s t V1).run Tryz.prog w = .ok u w')
    (h : wpList Tryz.prog ops Q rest (a.put o.dst u) w') : wpList Tryz.prog ops Q (o :: rest) a w := by
  refine wpList_plain hgd fun K hK => ?_
  unfold Oper.wp execOp
  simp only [ho, hx, Sem.run_bind, Sem.run_pure, hb, Result.andThen_ok]
  exact hK _ _ h
/-- An octet as a text. -/
theorem one_octet (c : UInt8) (w : World) : ∃ v w1 Z, (Instr.buildSlice 58 1 #[(0, .int .u8 (c.toNat : Int))]).run Tryz.prog w = .ok v w1 ∧ (convert 58 9 v).run Tryz.prog w1 = .ok (.string Z) w1 ∧ bs Z = [c] ∧ Below w.heap.size w w1 := by
  have h1 : (Instr.buildSlice 58 1 #[(0, .int .u8 (c.toNat : Int))]).run Tryz.prog w = .ok (.slice (some ⟨w.heap.size, 0, none⟩) 1 1) (w.alloc (.cells #[.int .u8 (c.toNat : Int)] 5)) := by
    go_simp
  have h2 := run_convert_bytes_back (P := Tryz.prog) (w.alloc (.cells #[.int .u8 (c.toNat : Int)] 5)) 58 9 5 ⟨w.heap.size, 0, none⟩ 1 [c] (by kernel_rfl) (by kernel_rfl) (by kernel_rfl) (fun j hj => by
    have h3 := (Lies.new w 5 #[.int .u8 (c.toNat : Int)]).cell j
    have hj0 : j = 0 := by simpa using hj
    subst hj0
    rw [show (⟨w.heap.size, 0, none⟩ : Addr).add 0 = ⟨w.heap.size, 0, none⟩ by simp [Addr.add], h3]
    rfl)
  exact ⟨_, _, _, h1, h2, bs_mk _, (Below.refl _ _).alloc (Nat.le_refl _) _⟩
theorem cat_op (S Z : ByteArray) (h : ¬ 9223372036854775807 < S.size + Z.size) (x y : Operand) (w : World) : (do eqGuard .add 9 x y (.string S) (.string Z); binOp .add 9 (.string S) (.string Z) : Sem Value).run Tryz.prog w = .ok (.string (S ++ Z)) w := by
  go_simp
/-- What is read, kept in a block of its own. -/
def ReadK (w : World) (T : List UInt8) (e : Ending) (w' : World) : Prop :=
  ∃ m V g wa wb, e = .returned (.tuple #[V, .int .i64 (rdErr T : Nat)]) ∧ (Instr.alloc 54 true (.tuple #[])).run Tryz.prog w' = .ok (pp g) wa ∧ (Instr.storeAt 54 (pp g) V).run Tryz.prog wa = .ok () wb ∧ Below w.heap.size w wb ∧
    (∀ wx, Below wb.heap.size wb wx → (Instr.loadAt 54 (pp g)).run Tryz.prog wx = .ok V wx) ∧ (∃ vq va vu vm, V = msgV m.h vq va vu vm ∧ ∀ wx, Below wb.heap.size wb wx → FitM wx m vq va vu vm) ∧ (rdErr T ≠ 0 → m = zeroMM) ∧ (rdErr T = 0 → RdOk T m)
theorem read_own (S : ByteArray) (w : World) (hS : S.size ≤ 1099511627776) : Calls Tryz.prog 20 #[.string S] w (ReadK w (bs S)) := by
  refine (mRead_any S w hS).mono ?_
  rintro e w' ⟨m, vq, va, vu, vm, rfl, hb, hf, h0, ho⟩
  obtain ⟨Aq, cq, Aa, ca, Au, cu, Am, cm, rfl, rfl, rfl, rfl, _⟩ := hf.shapes
  have hn := Lies.new w' 54 (cellsM m.h (.slice Aq m.q.length cq) (.slice Aa m.a.length ca) (.slice Au m.u.length cu) (.slice Am m.m.length cm))
  have hb1 := (Below.refl _ w').alloc (Nat.le_refl _) (.cells (cellsM m.h (.slice Aq m.q.length cq) (.slice Aa m.a.length ca) (.slice Au m.u.length cu) (.slice Am m.m.length cm)) 54)
  exact ⟨m, _, w'.heap.size, _, _, rfl, alloc_m w', store_mf m.h Aq Aa Au Am m.q.length m.a.length m.u.length m.m.length cq ca cu cm w', hb.alloc hb.size _,
    fun wx hx => load_ml (hn.next hx), ⟨_, _, _, _, rfl, fun wx hx => hf.next (hb1.trans (hx.mono hb1.size))⟩, h0, ho⟩
theorem same_zero : sameM zeroMM zeroMM = true := by kernel_rfl
set_option maxHeartbeats 4000000 in
theorem reads_no (S : ByteArray) (a : Int) (c : UInt8) (w : World) (hS : S.size ≤ 2500) (her : rdErr (bs S) ≠ 0) :
    Calls Tryz.prog 5 #[.string S, .int .i64 a, .int .u8 (c.toNat : Int)] w fun e w' => e = .returned (.bool true) ∧ Below w.heap.size w w' := by
  have HLv := Lib.hid fun wx => lives11 wx
  have HR := Lib.hid fun wx => read_own S wx (by omega)
  have HZ := Lib.hid fun wx => build_m0' wx
  have hS1 : ¬ (2500 : Int) < (S.size : Int) := by omega
  obtain ⟨V0, hV0⟩ : ∃ V, msgV noH nilS nilS nilS nilS = V := ⟨_, rfl⟩
  rw [hV0] at HZ
  have HV0 := Lib.hid hV0
  have HE := Lib.hid her
  obtain ⟨er, hee⟩ : ∃ e, rdErr (bs S) = e := ⟨_, rfl⟩
  have hne : (((er : Nat) : Int) != 0) = true := by rw [hee] at her; simpa using her
  have HEe := Lib.hid hee
  clear hV0 her hee
  go_enter Tryz.func5, Tryz.ntmps5
  go_wp2_with (first | (go_at_call 17; (with_reducible refine (HLv.out _).mono ?_); rintro e w1 ⟨rfl, hb1⟩; have HB1 := Lib.hid hb1; clear hb1) | fail)
  refine (HR.out _).mono ?_
  rintro e w2 ⟨m, V, g, wa, wb, rfl, ha, hs, hb, hl, ⟨vq, va, vu, vm, hV, hf⟩, h0, _⟩
  obtain rfl := h0 HE.out
  rw [HEe.out]
  have HA := Lib.hid ha
  have HS := Lib.hid hs
  have HB := Lib.hid (HB1.out.trans (hb.mono HB1.out.size))
  have HL := Lib.hid hl
  have HSm : Hid (∀ wx, Below wb.heap.size wb wx → Calls Tryz.prog 24 #[V, V0] wx (Told wx (.bool true))) := Lib.hid fun wx hx => by
    have h := mSame_any zeroMM zeroMM vq va vu vm nilS nilS nilS nilS wx (hf wx hx) (fit_zero wx)
    rw [same_zero] at h
    rw [hV, ← HV0.out]
    exact h
  clear ha hs hb hl hV hf h0
  go_wp2_with (first | (refine wpList_alloc1 rfl 54 rfl _ HA.out ?_) | (refine wpList_store1 rfl 54 (.tmp 7) (.tmp 25) rfl _ V rfl rfl HS.out ?_) | (refine wpList_load1 rfl 54 (.tmp 7) rfl _ V rfl (HL.out _ (Below.refl _ _)) ?_) | (refine wpList_bld0 rfl 54 rfl V0 (HZ.out _) ?_) | fail)
  refine (HSm.out _ (Below.refl _ _)).mono ?_
  rintro e w3 ⟨rfl, hb3⟩
  have HB3 := Lib.hid (HB.out.trans (hb3.mono HB.out.size))
  clear hb3
  go_wp2
  go_ret
  exact ⟨rfl, HB3.out⟩
set_option maxHeartbeats 3000000 in
theorem reads_yes (S : ByteArray) (a : Int) (c : UInt8) (w : World) (hS : S.size ≤ 2500) (her : rdErr (bs S) = 0) :
    Calls Tryz.prog 5 #[.string S, .int .i64 a, .int .u8 (c.toNat : Int)] w fun e w' => e = .returned (.bool true) ∧ Below w.heap.size w w' := by
  have HLv := Lib.hid fun wx => lives11 wx
  have HR := Lib.hid fun (X : ByteArray) wx (hX : X.size ≤ 100000) => read_own X wx (by omega)
  have h12 : 12 ≤ S.size := by have := (read_put (rdErr_zero her).e).2.2.1; rwa [bs_length] at this
  have hS1 : ¬ (2500 : Int) < (S.size : Int) := by omega
  have hS2 : ¬ (S.size : Int) < 12 := by omega
  obtain ⟨k, hk, hks⟩ : ∃ k : Nat, pick a S.size = k ∧ k < S.size := by
    have := pick_range (i := a) (n := S.size) (by omega)
    exact ⟨(pick a S.size).toNat, by omega, by omega⟩
  have HPk : Hid (∀ wx, Calls Tryz.prog 25 #[.int .i64 a, .int .i64 (S.size : Int)] wx fun e w' => e = .returned (.int .i64 (k : Int)) ∧ wx = w') := Lib.hid fun wx => by
    have := Pick_any a S.size wx (by omega) (by omega)
    rw [hk] at this
    exact this
  have hcut : rdErr (bs (S.extract 0 k)) ≠ 0 := by
    rw [bs_extract, List.drop_zero, Nat.sub_zero]
    exact err_cut her (by rw [bs_length]; exact hks)
  have hxs : (S.extract 0 k).size ≤ 100000 := by rw [← bs_length, bs_extract, List.length_take]; omega
  obtain ⟨e2, he2⟩ : ∃ e, rdErr (bs (S.extract 0 k)) = e := ⟨_, rfl⟩
  have hn2 : (((e2 : Nat) : Int) == 0) = false := by rw [he2] at hcut; simpa using hcut
  have HR2 := Lib.hid fun wx => HR.out (S.extract 0 k) wx hxs
  have HE2 := Lib.hid he2
  have hmore : ∀ Z : ByteArray, bs Z = [c] → rdErr (bs (S ++ Z)) = 4 ∧ (S ++ Z).size ≤ 100000 ∧ ¬ 9223372036854775807 < S.size + Z.size := fun Z hZ => by
    have hl : Z.size = 1 := by rw [← bs_length, hZ]; rfl
    refine ⟨?_, ?_, by omega⟩
    · rw [bs_append, hZ]
      exact err_more her (by simp) (by rw [List.length_append, bs_length]; simp; omega)
    · rw [← bs_length, bs_append, hZ, List.length_append, bs_length]
      simp
      omega
  have HMo := Lib.hid hmore
  have HE := Lib.hid her
  have HR1 := Lib.hid fun wx => HR.out S wx (by omega)
  have hks' : (k : Int) ≤ (S.size : Int) := by omega
  clear hcut hxs he2 hmore her hk
  go_enter Tryz.func5, Tryz.ntmps5
  go_wp2_with (first | (go_at_call 17; (with_reducible refine (HLv.out _).mono ?_); rintro e w1 ⟨rfl, hb1⟩; have HB1 := Lib.hid hb1; clear hb1) | fail)
  refine (HR1.out _).mono ?_
  rintro e w2 ⟨m, V, g, wa, wb, rfl, ha, hs, hb, hl, ⟨vq, va, vu, vm, hV, hf⟩, _, ho⟩
  rw [HE.out]
  have hrd := ho HE.out
  have hok := read_may HE.out hrd
  have hne : ((((0 : Nat) : Nat) : Int) != 0) = false := rfl
  have HA := Lib.hid ha
  have HS := Lib.hid hs
  have HB := Lib.hid (HB1.out.trans (hb.mono HB1.out.size))
  have HL := Lib.hid hl
  have HF := Lib.hid hf
  have HCk : Hid (∀ wx, Below wb.heap.size wb wx → Calls Tryz.prog 22 #[V] wx (Told wx (.int .i64 ((0 : Nat) : Int)))) := Lib.hid fun wx hx => by
    have h := mCheck_any m vq va vu vm wx (hf wx hx)
    rw [checkM_zero.2 hok] at h
    rw [hV]
    exact h
  obtain ⟨sz, hsz⟩ : ∃ z, sizeM m = z := ⟨_, rfl⟩
  have HSz : Hid (∀ wx, Below wb.heap.size wb wx → Calls Tryz.prog 23 #[V] wx (Told wx (.int .i64 ((sz : Nat) : Int)))) := Lib.hid fun wx hx => by
    have h := mSize_any m vq va vu vm wx (hf wx hx)
    rw [hsz] at h
    rw [hV]
    exact h
  have HPt : Hid (∀ wx, Below wb.heap.size wb wx → Calls Tryz.prog 18 #[V, .int .i64 65535] wx (PutW wx m 65535)) := Lib.hid fun wx hx => by
    have h := mPut_any m vq va vu vm 65535 wx (hf wx hx) (by decide)
    rw [show ((min (65535 : Int) 65535).toNat) = 65535 by decide] at h
    rw [hV]
    exact h
  have HSm : Hid (∀ (n : MM) (uq ua uu um : Value) wx, Below wb.heap.size wb wx → FitM wx n uq ua uu um → Calls Tryz.prog 24 #[V, msgV n.h uq ua uu um] wx (Told wx (.bool (sameM m n)))) := Lib.hid fun n uq ua uu um wx hx hn => by
    rw [hV]
    exact mSame_any m n vq va vu vm uq ua uu um wx (hf wx hx) hn
  have HOk := Lib.hid hok
  have HSZ := Lib.hid hsz
  clear ha hs hb hl hV hf ho hrd hok hsz
  go_wp2_with (first | (refine wpList_alloc1 rfl 54 rfl _ HA.out ?_) | (refine wpList_store1 rfl 54 (.tmp 7) (.tmp 25) rfl _ V rfl rfl HS.out ?_) | (refine wpList_load1 rfl 54 (.tmp 7) rfl _ V rfl (HL.out _ (Below.refl _ _)) ?_) | fail)
  refine (HCk.out _ (Below.refl _ _)).mono ?_
  rintro e w3 ⟨rfl, hb3⟩
  have HB3 := Lib.hid hb3
  clear hb3
  go_wp2_with ((go_at_call 25; (with_reducible refine (HPk.out _).mono ?_); rintro e w' ⟨rfl, rfl⟩))
  refine (HR2.out _).mono ?_
  rintro e w4 ⟨m4, V4, g4, wa4, wb4, rfl, ha4, hs4, hb4, _, _, _, _⟩
  rw [HE2.out]
  have HA4 := Lib.hid ha4
  have HS4 := Lib.hid hs4
  have HB4 := Lib.hid (HB3.out.trans (hb4.mono HB3.out.size))
  clear ha4 hs4 hb4
  obtain ⟨v5, w5, Z, hbs5, hcv5, hZ, hb5⟩ := one_octet c wb4
  obtain ⟨hm1, hm2, hm3⟩ := HMo.out Z hZ
  have hcat := cat_op S Z hm3 (.tmp 51) (.tmp 54) w5
  have hr3 := fun wx => HR.out (S ++ Z) wx hm2
  obtain ⟨X, hX⟩ : ∃ X, S ++ Z = X := ⟨_, rfl⟩
  rw [hX] at hcat hr3 hm1
  have HR3 := Lib.hid hr3
  have HCat := Lib.hid hcat
  have HE3 := Lib.hid hm1
  have HBs := Lib.hid hbs5
  have HCv := Lib.hid hcv5
  have HB5 := Lib.hid (HB4.out.trans (hb5.mono HB4.out.size))
  clear hbs5 hcv5 hZ hb5 hm1 hm2 hm3 hcat hr3 hX
  go_upto_region 11 with (first | (refine wpList_alloc1 rfl 54 rfl _ HA4.out ?_) | (refine wpList_store1 rfl 54 (.tmp 9) (.tmp 48) rfl _ V4 rfl rfl HS4.out ?_) | fail)
  try simp only [Act.put, List.setIfInBounds_toArray, List.set_cons_succ, List.set_cons_zero]
  go_wp2_with (first | (refine wpList_build1 rfl 58 (.tmp 52) rfl _ v5 rfl HBs.out ?_) | (simp only [Act.put, List.setIfInBounds_toArray, List.set_cons_succ, List.set_cons_zero]; refine wpList_cv1r rfl 58 9 (.tmp 53) rfl v5 _ rfl HCv.out ?_) | (
    simp only [Act.put, List.setIfInBounds_toArray, List.set_cons_succ, List.set_cons_zero]
    refine wpList_bin1 rfl .add 9 _ (.tmp 51) (.tmp 54) rfl (.string S) (.string Z) _ rfl rfl HCat.out ?_
    simp only [Act.put, List.setIfInBounds_toArray, List.set_cons_succ, List.set_cons_zero]
    go_wp2_with fail
    refine (HR3.out _).mono ?_
    rintro e w6 ⟨m6, V6, g6, wa6, wb6, rfl, ha6, hs6, hb6, _, _, _, _⟩
    rw [HE3.out]
    have HA6 := Lib.hid ha6
    have HS6 := Lib.hid hs6
    have HB6 := Lib.hid (HB5.out.trans (hb6.mono HB5.out.size))
    have hn4 : ((((4 : Nat) : Nat) : Int) != 4) = false := rfl
    clear ha6 hs6 hb6
    go_upto_region 12 with (first | (refine wpList_alloc1 rfl 54 rfl _ HA6.out ?_) | (refine wpList_store1 rfl 54 (.tmp 11) (.tmp 57) rfl _ V6 rfl rfl HS6.out ?_) | fail)
    try simp only [Act.put, List.setIfInBounds_toArray, List.set_cons_succ, List.set_cons_zero]
    go_upto_region 14 with (fail)
    go_wp2_with (first | (refine wpList_load1 rfl 54 (.tmp 7) rfl _ V rfl (HL.out _ HB6.out) ?_) | fail)
    refine (HSz.out _ HB6.out).mono ?_
    rintro e w7 ⟨rfl, hb7⟩
    have HB7 := Lib.hid (HB6.out.trans (hb7.mono HB6.out.size))
    have HEnd : Hid (∀ wx, Below wb.heap.size wb wx → Below w.heap.size w wx) := Lib.hid fun wx hx => HB.out.trans (hx.mono HB.out.size)
    clear hb7
    by_cases hbig : 65535 < sz
    · have hd : decide ((65535 : Int) < (sz : Int)) = true := decide_eq_true (by omega)
      go_wp2
      go_ret
      exact ⟨rfl, HEnd.out _ HB7.out⟩
    · have hd : decide ((65535 : Int) < (sz : Int)) = false := decide_eq_false (by omega)
      have hfw := HF.out wb (Below.refl _ _)
      have hx := msg_backX HOk.out (fun x hx => ⟨⟨(hfw.rs x hx).d.hi, (hfw.rs x hx).d.lo⟩, (hfw.rs x hx).x⟩) hfw.h.id (by rw [HSZ.out]; omega)
      have htx := tx_backX HOk.out hfw.h.id hx
      have hpt := HPt.out _ HB7.out
      have hck := checkM_zero.2 HOk.out
      have hE : putErr 65535 m = 0 := by unfold putErr; rw [if_pos hck]; exact hx.f
      have hT : putTx 65535 m = (putMs 65535 m).2.l := by unfold putTx putT; rw [if_pos hck, if_pos hx.f]
      unfold PutW at hpt
      rw [hE, hT] at hpt
      have hfew := hx.few
      obtain ⟨l, hl⟩ : ∃ l, (putMs 65535 m).2.l = l := ⟨_, rfl⟩
      rw [hl] at hpt htx hfew
      obtain ⟨T, hTT⟩ : ∃ T : ByteArray, (⟨l.toArray⟩ : ByteArray) = T := ⟨_, rfl⟩
      have hTb : bs T = l := by rw [← hTT, bs_mk]
      rw [hTT] at hpt
      have HPut := Lib.hid hpt
      have HTx := Lib.hid htx
      have HRT : Hid (∀ wx, Calls Tryz.prog 20 #[.string T] wx (ReadK wx l)) := Lib.hid fun wx => by
        have h := HR.out T wx (by rw [← bs_length, hTb]; omega)
        rwa [hTb] at h
      clear hfw hx htx hpt hck hE hT hl hTT hTb hfew hbig
      go_wp2_with (first | (refine wpList_load1 rfl 54 (.tmp 7) rfl _ V rfl (HL.out _ HB7.out) ?_) | (go_at_call 18; (with_reducible refine HPut.out.mono ?_); rintro e w8 ⟨rfl, _, hb8⟩; have HB8 := Lib.hid (HB7.out.trans (hb8.mono HB7.out.size)); clear hb8) | fail)
      refine (HRT.out _).mono ?_
      rintro e w9 ⟨n, V9, g9, wa9, wb9, rfl, ha9, hs9, hb9, hl9, ⟨uq, ua, uu, um, hV9, hf9⟩, _, ho9⟩
      rw [HTx.out.err]
      have hsame := HTx.out.same n (ho9 HTx.out.err)
      have HA9 := Lib.hid ha9
      have HS9 := Lib.hid hs9
      have HB9 := Lib.hid (HB8.out.trans (hb9.mono HB8.out.size))
      have HL9 := Lib.hid hl9
      have HSm9 : Hid (∀ wx, Below wb9.heap.size wb9 wx → Calls Tryz.prog 24 #[V, V9] wx (Told wx (.bool true))) := Lib.hid fun wx hx => by
        have h := HSm.out n uq ua uu um wx (HB9.out.trans (hx.mono HB9.out.size)) (hf9 wx hx)
        rw [hsame] at h
        rw [hV9]
        exact h
      have hn0 : ((((0 : Nat) : Nat) : Int) == 0) = true := rfl
      clear ha9 hs9 hb9 hl9 hV9 hf9 ho9 hsame
      go_wp2_with (first | (refine wpList_alloc1 rfl 54 rfl _ HA9.out ?_) | (refine wpList_store1 rfl 54 (.tmp 15) (.tmp 76) rfl _ V9 rfl rfl HS9.out ?_) | (refine wpList_load1r (by rfl) 54 (.tmp 7) rfl _ V rfl (HL.out _ HB9.out) ?_) | (refine wpList_load1r (by rfl) 54 (.tmp 15) rfl _ V9 rfl (HL9.out _ (Below.refl _ _)) ?_) | fail)
      refine (HSm9.out _ (Below.refl _ _)).mono ?_
      rintro e wz ⟨rfl, hbz⟩
      have HBz := Lib.hid (HB9.out.trans (hbz.mono HB9.out.size))
      clear hbz
      go_wp2
      go_ret
      exact ⟨rfl, HEnd.out _ HBz.out⟩))
set_option maxHeartbeats 1000000 in
theorem reads_long (S : ByteArray) (a b : Int) (w : World) (hS : 2500 < S.size) (hs : S.size ≤ maxLen) :
    Calls Tryz.prog 5 #[.string S, .int .i64 a, .int .u8 b] w fun e w' => e = .returned (.bool true) ∧ Below w.heap.size w w' := by
  have HLv := Lib.hid fun wx => lives11 wx
  have hS1 : (2500 : Int) < (S.size : Int) := by omega
  unfold maxLen at hs
  go_enter Tryz.func5, Tryz.ntmps5
  go_wp2_with (first | (go_at_call 17; (with_reducible refine (HLv.out _).mono ?_); rintro e w1 ⟨rfl, hb1⟩; have HB1 := Lib.hid hb1; clear hb1) | fail)
  go_ret
  exact ⟨rfl, HB1.out⟩
theorem byte_of {b : Int} (h : (Lit.int .u8 b).wf = true) : ∃ c : UInt8, b = (c.toNat : Int) := by
  simp only [Lit.wf, Bool.and_eq_true, decide_eq_true_eq] at h
  have h1 : IntKind.u8.min = 0 := by decide
  have h2 : IntKind.u8.max = 255 := by decide
  refine ⟨UInt8.ofNat b.toNat, ?_⟩
  rw [UInt8.toNat_ofNat_of_lt' (by show _ < 256; omega)]
  omega
theorem MessageReads_walk (S : ByteArray) (a b : Int) (hs : S.size ≤ maxLen) (_ha : (Lit.int .i64 a).wf = true) (hb : (Lit.int .u8 b).wf = true) (w : World) :
    Calls Tryz.prog 5 #[.string S, .int .i64 a, .int .u8 b] w fun e w' => e = .returned (.bool true) ∧ Below w.heap.size w w' := by
  rcases Nat.lt_or_ge 2500 S.size with h | h
  · exact reads_long S a b w h hs
  · obtain ⟨c, rfl⟩ := byte_of hb
    by_cases h0 : rdErr (bs S) = 0
    · exact reads_yes S a c w h h0
    · exact reads_no S a c w h h0
end Go.Proofs.YtadeflehdfmilaaGreat
