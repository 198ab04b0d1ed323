/-
  message.Query; the eleventh stage's own example (example, lives): the walks. No condition.
-/
import Derived.Test.YtadeflehdfmilaaGreatZk43
import Derived.Test.YtadeflehdfmilaaGreatZk46
namespace Go.Proofs.YtadeflehdfmilaaGreat
open Go.RowKit Go.Maps
set_option linter.unusedVariables false
set_option maxRecDepth 100000

theorem wpList_bld2 {ops : Array Oper} {rest : List Oper} {o : Oper} {a : Act} {w : World} {Q : Exit → Act → World → Prop} (hgd : o.guard = none) (t : TypeId) (i j : Nat) (x y : Operand) (ho : o.op = .build t #[(i, x), (j, y)]) (X Y V : Value) (hx : a.eval x = X) (hy : a.eval y = Y) (hb : (Instr.build t #[(i, X), (j, Y)]).run Tryz.prog w = .ok V w)
    (h : wpList Tryz.prog ops Q rest (a.put o.dst V) w) : wpList Tryz.prog ops Q (o :: rest) a w := by
  refine wpList_plain hgd fun K hK => ?_
  unfold Oper.wp execOp
  simp only [ho, List.map_toArray, List.map_cons, List.map_nil, hx, hy, Sem.run_bind, Sem.run_pure, hb, Result.andThen_ok]
  exact hK _ _ h
def qh (id : Nat) (rd : Bool) (n : Int) : Hd := ⟨id, false, 0, false, false, rd, false, false, false, 0, n, 0, 0, 0⟩
theorem build_qh (id : Nat) (rd : Bool) (w : World) : (Instr.build 50 #[(0, .int .u16 (id : Int)), (5, .bool rd)]).run Tryz.prog w = .ok (hv (qh id rd 0)) w := by
  unfold hv qh
  go_simp
theorem build_qm (h : Hd) (A : Option Addr) (n cap : Nat) (w : World) : (Instr.build 54 #[(0, hv h), (1, .slice A n cap)]).run Tryz.prog w = .ok (msgV h (.slice A n cap) nilS nilS nilS) w := by
  unfold hv msgV cellsM
  go_simp
def qm (id : Nat) (q : MQ) (rd : Bool) : MM := ⟨qh id rd 1, [q], [], [], []⟩
theorem set4 {w : World} {g : Nat} {t : TypeId} {id : Nat} {rd : Bool} {vq va vu vm : Value} (l : Lies w g t (cellsM (qh id rd 0) vq va vu vm)) : Lies ((((w.setCell ⟨g, 10, none⟩ (.int .i64 1)).setCell ⟨g, 11, none⟩ (.int .i64 0)).setCell ⟨g, 12, none⟩ (.int .i64 0)).setCell ⟨g, 13, none⟩ (.int .i64 0)) g t (cellsM (qh id rd 1) vq va vu vm) := by
  exact (((l.set 10 (.int .i64 1)).set 11 (.int .i64 0)).set 12 (.int .i64 0)).set 13 (.int .i64 0)
def QryM (w : World) (id : Nat) (q : MQ) (rd : Bool) (e : Ending) (w' : World) : Prop :=
  ∃ g, e = .returned (msgV (qh id rd 1) (.slice (some ⟨g, 0, none⟩) 1 1) nilS nilS nilS) ∧ w.heap.size ≤ g ∧ Lies w' g 84 (cellsQ q) ∧ Below w.heap.size w w'
theorem nil_row {α : Type} (cs : α → List Value) (k : Nat) (w : World) : CRow cs k w nilS [] := ⟨none, 0, rfl, Nat.le_refl _, Nat.zero_le _, fun j h => (nomatch h)⟩
theorem qm_fit {w : World} {g id : Nat} {q : MQ} {rd : Bool} (hid : id < 65536) (hq : q.n.size ≤ maxLen) (l : Lies w g 84 (cellsQ q)) : FitM w (qm id q rd) (.slice (some ⟨g, 0, none⟩) 1 1) nilS nilS nilS := by
  refine ⟨⟨hid, (show (-9223372036854775808 : Int) ≤ 0 ∧ (0 : Int) ≤ 9223372036854775807 by decide), (show (-9223372036854775808 : Int) ≤ 0 ∧ (0 : Int) ≤ 9223372036854775807 by decide), (show (-9223372036854775808 : Int) ≤ 1 ∧ (1 : Int) ≤ 9223372036854775807 by decide), (show (-9223372036854775808 : Int) ≤ 0 ∧ (0 : Int) ≤ 9223372036854775807 by decide), (show (-9223372036854775808 : Int) ≤ 0 ∧ (0 : Int) ≤ 9223372036854775807 by decide), (show (-9223372036854775808 : Int) ≤ 0 ∧ (0 : Int) ≤ 9223372036854775807 by decide)⟩, ⟨some ⟨g, 0, none⟩, 1, rfl, Nat.le_refl _, by unfold maxLen; decide, fun j hj => ?_⟩, nil_row _ _ _, nil_row _ _ _, nil_row _ _ _, fun x hx => ?_, fun x hx => (nomatch hx), nilOk0, nilOk0, nilOk0⟩
  · have hj1 : j < 1 := hj
    obtain rfl : j = 0 := by omega
    exact ⟨g, 0, rfl, l.lt, lies_rng l⟩
  · rw [List.mem_singleton.1 hx]
    exact hq
set_option maxHeartbeats 1000000 in
theorem mQuery_any (id : Nat) (q : MQ) (rd : Bool) (w : World) (hid : id < 65536) (hq : q.n.size ≤ maxLen) :
    Calls Tryz.prog 55 #[.int .u16 (id : Int), questV q, .bool rd] w (QryM w id q rd) := by
  obtain ⟨Z, hZ⟩ : ∃ Z, zeroM = Z := ⟨_, rfl⟩
  obtain ⟨H, hH⟩ : ∃ H, hv (qh id rd 0) = H := ⟨_, rfl⟩
  obtain ⟨V1, hV1⟩ : ∃ V : Option Addr → Value, (fun A => msgV (qh id rd 0) (.slice A 1 1) nilS nilS nilS) = V := ⟨_, rfl⟩
  obtain ⟨C1, hC1⟩ : ∃ V : Option Addr → Array Value, (fun A => cellsM (qh id rd 0) (.slice A 1 1) nilS nilS nilS) = V := ⟨_, rfl⟩
  have hb1 := fun wx => build_qh id rd wx
  rw [hH] at hb1
  have hb2 : ∀ A wx, (Instr.build 54 #[(0, H), (1, .slice A 1 1)]).run Tryz.prog wx = .ok (V1 A) wx := fun A wx => by rw [← hH, ← hV1]; exact build_qm (qh id rd 0) A 1 1 wx
  have hal := fun wx => alloc_m wx
  rw [hZ] at hal
  have hst : ∀ A (wx : World), (Instr.storeAt 54 (pp wx.heap.size) (V1 A)).run Tryz.prog (wx.alloc (.cells Z 54)) = .ok () (wx.alloc (.cells (C1 A) 54)) := fun A wx => by rw [← hV1, ← hC1, ← hZ]; exact store_mf (qh id rd 0) A none none none 1 0 0 0 1 0 0 0 wx
  have hld : ∀ A (wx : World), (Instr.loadAt 54 (pp wx.heap.size)).run Tryz.prog (wx.alloc (.cells (C1 A) 54)) = .ok (V1 A) (wx.alloc (.cells (C1 A) 54)) := fun A wx => by rw [← hV1, ← hC1]; exact load_ml (Lies.new _ _ _)
  have hcn : ∀ A wx, Calls Tryz.prog 60 #[V1 A] wx (Told wx (.agg #[.int .i64 1, .int .i64 0, .int .i64 0, .int .i64 0])) := fun A wx => by rw [← hV1]; exact countsOf_any (qh id rd 0) A none none none 1 0 0 0 1 0 0 0 wx
  have HB1 := Lib.hid hb1
  have HB2 := Lib.hid hb2
  have HAl := Lib.hid hal
  have HSt := Lib.hid hst
  have HLd := Lib.hid hld
  have HCn := Lib.hid hcn
  have HZ := Lib.hid hZ
  have HC1 := Lib.hid hC1
  clear hb1 hb2 hal hst hld hcn hZ hH hV1 hC1
  unfold questV cellsQ
  go_enter Tryz.func55, Tryz.ntmps55
  go_upto_region 1 with (first | (refine wpList_alloc1 rfl 54 rfl _ (HAl.out _) ?_) | fail)
  simp only [Act.put, List.setIfInBounds_toArray, List.set_cons_succ, List.set_cons_zero]
  have hs1 : ∀ (o : Obj) (x : World), (x.alloc o).heap.size = x.heap.size + 1 := fun o x => by simp
  rw [hs1]
  obtain ⟨wb, hwb⟩ : ∃ x, x = (w.alloc (.cells #[.string q.n, .int .i64 q.t, .int .i64 q.c] 84)).alloc (.cells Z 54) := ⟨_, rfl⟩
  have hsb : wb.heap.size = w.heap.size + 2 := by rw [hwb, hs1, hs1]
  have hBb : Below w.heap.size w wb := by rw [hwb]; exact below2 _ _ _
  have hLa : Lies wb w.heap.size 84 (cellsQ q) := by rw [hwb]; exact (Lies.new _ _ _).alloc _
  have hLb : Lies wb (w.heap.size + 1) 54 (cellsM noH nilS nilS nilS nilS) := by rw [hwb, zeroM_eq, HZ.out]; exact boxed2 _ _ _ _
  obtain ⟨c0, c1, c2⟩ := liesQ hLa
  rw [← hwb]
  have HSb := Lib.hid hsb
  have HBb := Lib.hid hBb
  have HLb := Lib.hid hLb
  clear hwb hsb hBb hLa hLb hs1
  go_wp2_with (first | (refine wpList_alloc1 rfl 54 rfl _ (HAl.out _) ?_) | (refine wpList_bld2 rfl 50 0 5 (.tmp 8) (.tmp 9) rfl (.int .u16 (id : Int)) (.bool rd) H rfl rfl (HB1.out _) ?_) | (refine wpList_bld2 rfl 54 0 1 (.tmp 10) (.tmp 12) rfl H (.slice (some ⟨wb.heap.size, 0, none⟩) 1 1) _ rfl rfl (HB2.out _ _) ?_; obtain ⟨wc, hwc⟩ : ∃ x, x = wb.alloc (.cells #[.string q.n, .int .i64 q.t, .int .i64 q.c] 84) := ⟨_, rfl⟩; have HBc : Hid (Below wb.heap.size wb wc) := Lib.hid (by rw [hwc]; exact (Below.refl _ _).alloc (Nat.le_refl _) _); have HLc : Hid (Lies wc wb.heap.size 84 (cellsQ q)) := Lib.hid (by rw [hwc]; exact Lies.new _ _ _); rw [← hwc]; clear hwc) | (refine wpList_store1 rfl 54 (.tmp 7) (.tmp 13) rfl (pp wc.heap.size) _ rfl rfl (HSt.out _ wc) ?_) | (refine wpList_load1 rfl 54 (.tmp 7) rfl (pp wc.heap.size) _ rfl (HLd.out _ wc) ?_) | fail)
  refine (HCn.out _ _).mono ?_
  rintro e w3 ⟨rfl, hb3⟩
  have hLm : Lies w3 wc.heap.size 54 (cellsM (qh id rd 0) (.slice (some ⟨wb.heap.size, 0, none⟩) 1 1) nilS nilS nilS) := by
    have := (Lies.new wc 54 (C1 (some ⟨wb.heap.size, 0, none⟩))).next hb3
    rw [← HC1.out] at this
    exact this
  have hBcd : Below wc.heap.size wc w3 := ((Below.refl wc.heap.size wc).alloc (Nat.le_refl _) _).trans (hb3.mono (by simp))
  have hBb3 : Below wb.heap.size wb w3 := HBc.out.trans (hBcd.mono HBc.out.size)
  have hl4 := set4 hLm
  have hg4 : w3.grownBy ((((w3.setCell ⟨wc.heap.size, 10, none⟩ (.int .i64 1)).setCell ⟨wc.heap.size, 11, none⟩ (.int .i64 0)).setCell ⟨wc.heap.size, 12, none⟩ (.int .i64 0)).setCell ⟨wc.heap.size, 13, none⟩ (.int .i64 0)) (some wc.heap.size) :=
    grown_next (grown_next (grown_next (grown_set (base := 0) w3 _ 10 _) (grown_set (base := 0) _ _ 11 _)) (grown_set (base := 0) _ _ 12 _)) (grown_set (base := 0) _ _ 13 _)
  have hcz : wb.heap.size ≤ wc.heap.size := HBc.out.size
  have hsb := HSb.out
  have hl5 := (HLb.out.next hBb3).grown hg4 (fun e => by injection e with e; omega)
  have hq5 := (HLc.out.next hBcd).grown hg4 (fun e => by injection e with e; have := HLc.out.lt; omega)
  have hld4 := load_ml hl4
  obtain ⟨w9, hst, hl9, hg9⟩ := store_any hl5 (qh id rd 1) (some ⟨wb.heap.size, 0, none⟩) none none none 1 0 0 0 1 0 0 0
  have hq9 := hq5.grown hg9 (fun e => by injection e with e; omega)
  have hB9 : Below w.heap.size w w9 := ((HBb.out.trans (hBb3.mono HBb.out.size)).grown hg4 (HBb.out.trans (hBb3.mono HBb.out.size)).size (fun k hk => by injection hk with hk; omega)).grown hg9 ((HBb.out.trans (hBb3.mono HBb.out.size)).grown hg4 (HBb.out.trans (hBb3.mono HBb.out.size)).size (fun k hk => by injection hk with hk; omega)).size (fun k hk => by injection hk with hk; omega)
  have y10 := hLm.cell 10
  have y11 := hLm.cell 11
  have y12 := hLm.cell 12
  have y13 := hLm.cell 13
  have f10 := hLm.free 10
  have f11 := hLm.free 11
  have f12 := hLm.free 12
  have f13 := hLm.free 13
  have e1 : msgV (qh id rd 1) (.slice (some ⟨wb.heap.size, 0, none⟩) ((1 : Nat)) 1) (.slice none 0 0) (.slice none 0 0) (.slice none 0 0) = msgV (qh id rd 1) (.slice (some ⟨wb.heap.size, 0, none⟩) 1 1) nilS nilS nilS := rfl
  rw [e1] at hst
  obtain ⟨V9, hV9⟩ : ∃ V, msgV (qh id rd 1) (.slice (some ⟨wb.heap.size, 0, none⟩) 1 1) nilS nilS nilS = V := ⟨_, rfl⟩
  rw [hV9] at hld4 hst
  have HLd4 := Lib.hid hld4
  have HSt4 := Lib.hid hst
  have HL9 := Lib.hid hl9
  have HQ9 := Lib.hid hq9
  have HB9 := Lib.hid hB9
  clear hLm hBcd hBb3 hl4 hg4 hcz hsb hl5 hq5 hld4 hst hl9 hg9 hq9 hB9 hb3 hV9 e1
  go_wp2_with (first | (refine wpList_load1 rfl 54 (.tmp 7) rfl (pp wc.heap.size) _ rfl HLd4.out ?_) | (refine wpList_store1 rfl 54 (.tmp 6) (.tmp 18) rfl (pp (w.heap.size + 1)) V9 rfl rfl HSt4.out ?_))
  refine bodyPost_ret (ret_m1 rfl _ _ (w.heap.size + 1) (qh id rd 1) _ _ _ _ rfl HL9.out) rfl ?_
  exact ⟨wb.heap.size, rfl, HBb.out.size, HQ9.out, HB9.out⟩
def exQ : MQ := ⟨⟨#[1, 97]⟩, 1, 1⟩
def exMM : MM := qm 1 exQ true
theorem exMM_put : putErr 99 exMM = 0 ∧ putTx 99 exMM = [0, 1, 1, 0, 0, 1, 0, 0, 0, 0, 0, 0, 1, 97, 0, 0, 1, 0, 1] := by constructor <;> kernel_rfl
theorem exMM_read : rdErr [0, 1, 1, 0, 0, 1, 0, 0, 0, 0, 0, 0, 1, 97, 0, 0, 1, 0, 1] = 0 ∧ (rdQl [0, 1, 1, 0, 0, 1, 0, 0, 0, 0, 0, 0, 1, 97, 0, 0, 1, 0, 1] (rdV [0, 1, 1, 0, 0, 1, 0, 0, 0, 0, 0, 0, 1, 97, 0, 0, 1, 0, 1])).length = 1 := by constructor <;> kernel_rfl
set_option maxHeartbeats 1000000 in
theorem example_any (w : World) : Calls Tryz.prog 19 #[] w (QryM w 1 exQ true) := by
  have hal := alloc_m w
  obtain ⟨W, hW⟩ : ∃ W, W = w.alloc (.cells zeroM 54) := ⟨_, rfl⟩
  have hB0 : Below w.heap.size w W := by rw [hW]; exact (Below.refl _ _).alloc (Nat.le_refl _) _
  have hL0 : Lies W w.heap.size 54 (cellsM noH nilS nilS nilS nilS) := by rw [hW, zeroM_eq]; exact Lies.new _ _ _
  rw [← hW] at hal
  have HQ : Hid (Calls Tryz.prog 55 #[.int .u16 1, .agg #[.string ⟨#[1, 97]⟩, .int .i64 1, .int .i64 1], .bool true] W (QryM W 1 exQ true)) := Lib.hid (mQuery_any 1 exQ true W (by decide) (by unfold maxLen; decide))
  have HAl := Lib.hid hal
  have HB0 := Lib.hid hB0
  have HL0 := Lib.hid hL0
  clear hal hW hB0 hL0
  go_enter Tryz.func19, Tryz.ntmps19
  go_upto_region 1 with (first | (refine wpList_alloc1 rfl 54 rfl _ HAl.out ?_) | fail)
  simp only [Act.put, List.setIfInBounds_toArray, List.set_cons_zero]
  go_wp2_with fail
  refine HQ.out.mono ?_
  rintro e w1 ⟨g, rfl, hg, hlq, hb⟩
  have hl1 := HL0.out.next hb
  obtain ⟨w9, hst, hl9, hg9⟩ := store_any hl1 (qh 1 true 1) (some ⟨g, 0, none⟩) none none none 1 0 0 0 1 0 0 0
  have hlt : w.heap.size < W.heap.size := HL0.out.lt
  have hq9 := hlq.grown hg9 (fun e => by injection e with e; omega)
  have hb1 := HB0.out.trans (hb.mono HB0.out.size)
  have hb9 : Below w.heap.size w w9 := hb1.grown hg9 hb1.size fun k hk => by injection hk with hk; omega
  obtain ⟨V9, hV9⟩ : ∃ V, msgV (qh 1 true 1) (.slice (some ⟨g, 0, none⟩) 1 1) nilS nilS nilS = V := ⟨_, rfl⟩
  rw [hV9] at hst ⊢
  have HSt := Lib.hid hst
  have HL9 := Lib.hid hl9
  have HQ9 := Lib.hid hq9
  have HB9 := Lib.hid hb9
  have HG : Hid (w.heap.size ≤ g) := Lib.hid (by omega)
  clear hst hl9 hq9 hb9 hV9 hb1 hlt hg9 hl1 hlq hb hg
  go_wp2_with (refine wpList_store1 rfl 54 (.tmp 0) (.tmp 2) rfl (pp w.heap.size) V9 rfl rfl HSt.out ?_)
  refine bodyPost_ret (ret_m1 rfl _ _ w.heap.size (qh 1 true 1) _ _ _ _ rfl HL9.out) rfl ?_
  exact ⟨g, rfl, HG.out, HQ9.out, HB9.out⟩
theorem min99 : ((min (99 : Int) 65535).toNat) = 99 := by decide
def exS : ByteArray := ⟨#[0, 1, 1, 0, 0, 1, 0, 0, 0, 0, 0, 0, 1, 97, 0, 0, 1, 0, 1]⟩
set_option maxHeartbeats 2000000 in
theorem lives11 (w : World) : Calls Tryz.prog 17 #[] w (Told w (.bool true)) := by
  have HEx := Lib.hid (example_any w)
  have HPt : Hid (∀ wx vq, FitM wx exMM vq nilS nilS nilS → Calls Tryz.prog 18 #[msgV (qh 1 true 1) vq nilS nilS nilS, .int .i64 99] wx (Told wx (.tuple #[.string exS, .int .i64 0]))) := Lib.hid fun wx vq hf => by
    have h := mPut_any exMM vq nilS nilS nilS 99 wx hf (by decide)
    rw [min99] at h
    refine h.mono ?_
    rintro e w' ⟨rfl, _, hb⟩
    rw [exMM_put.1, exMM_put.2]
    exact ⟨rfl, hb⟩
  have HRd : Hid (∀ wx, Calls Tryz.prog 20 #[.string exS] wx (fun e w' => ∃ (h : Hd) (Aq Aa Au Am : Option Addr) (na nu nm cq ca cu cm : Nat), e = .returned (.tuple #[msgV h (.slice Aq 1 cq) (.slice Aa na ca) (.slice Au nu cu) (.slice Am nm cm), .int .i64 0]) ∧ Below wx.heap.size wx w')) := Lib.hid fun wx => by
    refine (mRead_any exS wx (by decide)).mono ?_
    rintro e w' ⟨m, vq, va, vu, vm, rfl, hb, hf, _, hok⟩
    obtain ⟨Aq, cq, Aa, ca, Au, cu, Am, cm, rfl, rfl, rfl, rfl, _⟩ := hf.shapes
    have e1 : rdErr (bs exS) = 0 := exMM_read.1
    have e2 : m.q.length = 1 := by rw [(hok e1).q]; exact exMM_read.2
    rw [e1, e2]
    exact ⟨m.h, Aq, Aa, Au, Am, m.a.length, m.u.length, m.m.length, cq, ca, cu, cm, rfl, hb⟩
  have hS1 : exS.toList = [0, 1, 1, 0, 0, 1, 0, 0, 0, 0, 0, 0, 1, 97, 0, 0, 1, 0, 1] := by kernel_rfl
  have hS2 : (exS.toList == [0, 1, 1, 0, 0, 1, 0, 0, 0, 0, 0, 0, 1, 97, 0, 0, 1, 0, 1]) = true := by rw [hS1]; rfl
  have hS3 : exS = ⟨#[0, 1, 1, 0, 0, 1, 0, 0, 0, 0, 0, 0, 1, 97, 0, 0, 1, 0, 1]⟩ := rfl
  have HS3 := Lib.hid hS3
  clear hS3
  go_enter Tryz.func17, Tryz.ntmps17
  go_wp2_with fail
  refine HEx.out.mono ?_
  rintro e w1 ⟨g, rfl, hg, hlq, hb⟩
  have hpt := HPt.out w1 _ (qm_fit (id := 1) (q := exQ) (rd := true) (by decide) (by unfold maxLen; decide) hlq)
  obtain ⟨V1, hV1⟩ : ∃ V, msgV (qh 1 true 1) (.slice (some ⟨g, 0, none⟩) 1 1) nilS nilS nilS = V := ⟨_, rfl⟩
  rw [hV1] at hpt ⊢
  have HP := Lib.hid hpt
  have HB := Lib.hid hb
  clear hpt hb hlq hg hV1
  go_wp2_with fail
  refine HP.out.mono ?_
  rintro e w2 ⟨rfl, hb2⟩
  have HB2 := Lib.hid (HB.out.trans (hb2.mono HB.out.size))
  clear hb2
  go_wp2_with fail
  refine (HRd.out _).mono ?_
  rintro e w3 ⟨h, Aq, Aa, Au, Am, na, nu, nm, cq, ca, cu, cm, rfl, hb3⟩
  have HB3 := Lib.hid (HB2.out.trans (hb3.mono HB2.out.size))
  have hst := store_mf h Aq Aa Au Am 1 na nu nm cq ca cu cm w3
  have hy : (w3.alloc (.cells (cellsM h (.slice Aq 1 cq) (.slice Aa na ca) (.slice Au nu cu) (.slice Am nm cm)) 54)).cell? ⟨w3.heap.size, 14, none⟩ = some (.slice Aq 1 cq) := (Lies.new w3 _ _).cell 14
  obtain ⟨V3, hV3⟩ : ∃ V, msgV h (.slice Aq 1 cq) (.slice Aa na ca) (.slice Au nu cu) (.slice Am nm cm) = V := ⟨_, rfl⟩
  obtain ⟨C3, hC3⟩ : ∃ V, cellsM h (.slice Aq 1 cq) (.slice Aa na ca) (.slice Au nu cu) (.slice Am nm cm) = V := ⟨_, rfl⟩
  rw [hV3] at hst ⊢
  rw [hC3] at hst hy
  have HSt := Lib.hid hst
  clear hst hV3 hC3 hb3
  go_wp2_with (first | (refine wpList_alloc1 rfl 54 rfl _ (alloc_m w3) ?_) | (refine wpList_store1 rfl 54 (.tmp 3) (.tmp 13) rfl (pp w3.heap.size) V3 rfl rfl HSt.out ?_))
  go_ret
  exact ⟨rfl, HB3.out.alloc HB3.out.size _⟩
end Go.Proofs.YtadeflehdfmilaaGreat
