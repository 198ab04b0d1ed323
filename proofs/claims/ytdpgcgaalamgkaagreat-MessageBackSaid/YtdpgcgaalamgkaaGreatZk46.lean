/-
  message.Query; the eleventh stage's own example (example, lives): the walks. No condition. The walk of the law MessageBack. Condition: Go can have the message, its rows are no longer than memory.
-/
import Derived.Test.YtdpgcgaalamgkaaGreatZk43
import Derived.Test.YtdpgcgaalamgkaaGreatZk45
import Derived.Test.YtdpgcgaalamgkaaGreatZk40
import Derived.Test.YtdpgcgaalamgkaaGreatZk38
namespace Go.Proofs.YtdpgcgaalamgkaaGreat
open Go.RowKit Go.Maps
set_option linter.unusedVariables false
set_option maxRecDepth 100000

theorem wpList_bld2 {ops : Array Oper} {rest : List Oper} {o : Oper} {a : Act} {w : World} {Q : Exit → Act → World → Prop} (hgd : o.guard = none) (t : TypeId) (i j : Nat) (x y : Operand) (ho : o.op = .build t #[(i, x), (j, y)]) (X Y V : Value) (hx : a.eval x = X) (hy : a.eval y = Y) (hb : (Instr.build t #[(i, X), (j, Y)]).run Tryz.prog w = .ok V w)
    (h : wpList Tryz.prog ops Q rest (a.put o.dst V) w) : wpList Tryz.prog ops Q (o :: rest) a w := by
  refine wpList_plain hgd fun K hK => ?_
  unfold Oper.wp execOp
  simp only [ho, List.map_toArray, List.map_cons, List.map_nil, hx, hy, Sem.run_bind, Sem.run_pure, hb, Result.andThen_ok]
  exact hK _ _ h
def qh (id : Nat) (rd : Bool) (n : Int) : Hd := ⟨id, false, 0, false, false, rd, false, false, false, 0, n, 0, 0, 0⟩
theorem build_qh (id : Nat) (rd : Bool) (w : World) : (Instr.build 50 #[(0, .int .u16 (id : Int)), (5, .bool rd)]).run Tryz.prog w = .ok (hv (qh id rd 0)) w := by
  unfold hv qh
  go_simp
theorem build_qm (h : Hd) (A : Option Addr) (n cap : Nat) (w : World) : (Instr.build 54 #[(0, hv h), (1, .slice A n cap)]).run Tryz.prog w = .ok (msgV h (.slice A n cap) nilS nilS nilS) w := by
  unfold hv msgV cellsM
  go_simp
def qm (id : Nat) (q : MQ) (rd : Bool) : MM := ⟨qh id rd 1, [q], [], [], []⟩
theorem set4 {w : World} {g : Nat} {t : TypeId} {id : Nat} {rd : Bool} {vq va vu vm : Value} (l : Lies w g t (cellsM (qh id rd 0) vq va vu vm)) : Lies ((((w.setCell ⟨g, 10, none⟩ (.int .i64 1)).setCell ⟨g, 11, none⟩ (.int .i64 0)).setCell ⟨g, 12, none⟩ (.int .i64 0)).setCell ⟨g, 13, none⟩ (.int .i64 0)) g t (cellsM (qh id rd 1) vq va vu vm) := by
  exact (((l.set 10 (.int .i64 1)).set 11 (.int .i64 0)).set 12 (.int .i64 0)).set 13 (.int .i64 0)
def QryM (w : World) (id : Nat) (q : MQ) (rd : Bool) (e : Ending) (w' : World) : Prop :=
  ∃ g, e = .returned (msgV (qh id rd 1) (.slice (some ⟨g, 0, none⟩) 1 1) nilS nilS nilS) ∧ w.heap.size ≤ g ∧ Lies w' g 65 (cellsQ q) ∧ Below w.heap.size w w'
theorem nil_row {α : Type} (cs : α → List Value) (k : Nat) (w : World) : CRow cs k w nilS [] := ⟨none, 0, rfl, Nat.le_refl _, Nat.zero_le _, fun j h => (nomatch h)⟩
theorem qm_fit {w : World} {g id : Nat} {q : MQ} {rd : Bool} (hid : id < 65536) (hq : q.n.size ≤ maxLen) (l : Lies w g 65 (cellsQ q)) : FitM w (qm id q rd) (.slice (some ⟨g, 0, none⟩) 1 1) nilS nilS nilS := by
  refine ⟨⟨hid, (show (-9223372036854775808 : Int) ≤ 0 ∧ (0 : Int) ≤ 9223372036854775807 by decide), (show (-9223372036854775808 : Int) ≤ 0 ∧ (0 : Int) ≤ 9223372036854775807 by decide), (show (-9223372036854775808 : Int) ≤ 1 ∧ (1 : Int) ≤ 9223372036854775807 by decide), (show (-9223372036854775808 : Int) ≤ 0 ∧ (0 : Int) ≤ 9223372036854775807 by decide), (show (-9223372036854775808 : Int) ≤ 0 ∧ (0 : Int) ≤ 9223372036854775807 by decide), (show (-9223372036854775808 : Int) ≤ 0 ∧ (0 : Int) ≤ 9223372036854775807 by decide)⟩, ⟨some ⟨g, 0, none⟩, 1, rfl, Nat.le_refl _, by unfold maxLen; decide, fun j hj => ?_⟩, nil_row _ _ _, nil_row _ _ _, nil_row _ _ _, fun x hx => ?_, fun x hx => (nomatch hx), nilOk0, nilOk0, nilOk0⟩
  · have hj1 : j < 1 := hj
    obtain rfl : j = 0 := by omega
    exact ⟨g, 0, rfl, l.lt, lies_rng l⟩
  · rw [List.mem_singleton.1 hx]
    exact hq
set_option maxHeartbeats 1000000 in
theorem mQuery_any (id : Nat) (q : MQ) (rd : Bool) (w : World) (hid : id < 65536) (hq : q.n.size ≤ maxLen) :
    Calls Tryz.prog 36 #[.int .u16 (id : Int), questV q, .bool rd] w (QryM w id q rd) := by
  obtain ⟨Z, hZ⟩ : ∃ Z, zeroM = Z := ⟨_, rfl⟩
  obtain ⟨H, hH⟩ : ∃ H, hv (qh id rd 0) = H := ⟨_, rfl⟩
  obtain ⟨V1, hV1⟩ : ∃ V : Option Addr → Value, (fun A => msgV (qh id rd 0) (.slice A 1 1) nilS nilS nilS) = V := ⟨_, rfl⟩
  obtain ⟨C1, hC1⟩ : ∃ V : Option Addr → Array Value, (fun A => cellsM (qh id rd 0) (.slice A 1 1) nilS nilS nilS) = V := ⟨_, rfl⟩
  have hb1 := fun wx => build_qh id rd wx
  rw [hH] at hb1
  have hb2 : ∀ A wx, (Instr.build 54 #[(0, H), (1, .slice A 1 1)]).run Tryz.prog wx = .ok (V1 A) wx := fun A wx => by rw [← hH, ← hV1]; exact build_qm (qh id rd 0) A 1 1 wx
  have hal := fun wx => alloc_m wx
  rw [hZ] at hal
  have hst : ∀ A (wx : World), (Instr.storeAt 54 (pp wx.heap.size) (V1 A)).run Tryz.prog (wx.alloc (.cells Z 54)) = .ok () (wx.alloc (.cells (C1 A) 54)) := fun A wx => by rw [← hV1, ← hC1, ← hZ]; exact store_mf (qh id rd 0) A none none none 1 0 0 0 1 0 0 0 wx
  have hld : ∀ A (wx : World), (Instr.loadAt 54 (pp wx.heap.size)).run Tryz.prog (wx.alloc (.cells (C1 A) 54)) = .ok (V1 A) (wx.alloc (.cells (C1 A) 54)) := fun A wx => by rw [← hV1, ← hC1]; exact load_ml (Lies.new _ _ _)
  have hcn : ∀ A wx, Calls Tryz.prog 71 #[V1 A] wx (Told wx (.agg #[.int .i64 1, .int .i64 0, .int .i64 0, .int .i64 0])) := fun A wx => by rw [← hV1]; exact countsOf_any (qh id rd 0) A none none none 1 0 0 0 1 0 0 0 wx
  have HB1 := Lib.hid hb1
  have HB2 := Lib.hid hb2
  have HAl := Lib.hid hal
  have HSt := Lib.hid hst
  have HLd := Lib.hid hld
  have HCn := Lib.hid hcn
  have HZ := Lib.hid hZ
  have HC1 := Lib.hid hC1
  clear hb1 hb2 hal hst hld hcn hZ hH hV1 hC1
  unfold questV cellsQ
  go_enter Tryz.func36, Tryz.ntmps36
  go_upto_region 1 with (first | (refine wpList_alloc1 rfl 54 rfl _ (HAl.out _) ?_) | fail)
  simp only [Act.put, List.setIfInBounds_toArray, List.set_cons_succ, List.set_cons_zero]
  have hs1 : ∀ (o : Obj) (x : World), (x.alloc o).heap.size = x.heap.size + 1 := fun o x => by simp
  rw [hs1]
  obtain ⟨wb, hwb⟩ : ∃ x, x = (w.alloc (.cells #[.string q.n, .int .i64 q.t, .int .i64 q.c] 65)).alloc (.cells Z 54) := ⟨_, rfl⟩
  have hsb : wb.heap.size = w.heap.size + 2 := by rw [hwb, hs1, hs1]
  have hBb : Below w.heap.size w wb := by rw [hwb]; exact below2 _ _ _
  have hLa : Lies wb w.heap.size 65 (cellsQ q) := by rw [hwb]; exact (Lies.new _ _ _).alloc _
  have hLb : Lies wb (w.heap.size + 1) 54 (cellsM noH nilS nilS nilS nilS) := by rw [hwb, zeroM_eq, HZ.out]; exact boxed2 _ _ _ _
  obtain ⟨c0, c1, c2⟩ := liesQ hLa
  rw [← hwb]
  have HSb := Lib.hid hsb
  have HBb := Lib.hid hBb
  have HLb := Lib.hid hLb
  clear hwb hsb hBb hLa hLb hs1
  go_wp2_with (first | (refine wpList_alloc1 rfl 54 rfl _ (HAl.out _) ?_) | (refine wpList_bld2 rfl 50 0 5 (.tmp 8) (.tmp 9) rfl (.int .u16 (id : Int)) (.bool rd) H rfl rfl (HB1.out _) ?_) | (refine wpList_bld2 rfl 54 0 1 (.tmp 10) (.tmp 12) rfl H (.slice (some ⟨wb.heap.size, 0, none⟩) 1 1) _ rfl rfl (HB2.out _ _) ?_; obtain ⟨wc, hwc⟩ : ∃ x, x = wb.alloc (.cells #[.string q.n, .int .i64 q.t, .int .i64 q.c] 65) := ⟨_, rfl⟩; have HBc : Hid (Below wb.heap.size wb wc) := Lib.hid (by rw [hwc]; exact (Below.refl _ _).alloc (Nat.le_refl _) _); have HLc : Hid (Lies wc wb.heap.size 65 (cellsQ q)) := Lib.hid (by rw [hwc]; exact Lies.new _ _ _); rw [← hwc]; clear hwc) | (refine wpList_store1 rfl 54 (.tmp 7) (.tmp 13) rfl (pp wc.heap.size) _ rfl rfl (HSt.out _ wc) ?_) | (refine wpList_load1 rfl 54 (.tmp 7) rfl (pp wc.heap.size) _ rfl (HLd.out _ wc) ?_) | fail)
  refine (HCn.out _ _).mono ?_
  rintro e w3 ⟨rfl, hb3⟩
  have hLm : Lies w3 wc.heap.size 54 (cellsM (qh id rd 0) (.slice (some ⟨wb.heap.size, 0, none⟩) 1 1) nilS nilS nilS) := by
    have := (Lies.new wc 54 (C1 (some ⟨wb.heap.size, 0, none⟩))).next hb3
    rw [← HC1.out] at this
    exact this
  have hBcd : Below wc.heap.size wc w3 := ((Below.refl wc.heap.size wc).alloc (Nat.le_refl _) _).trans (hb3.mono (by simp))
  have hBb3 : Below wb.heap.size wb w3 := HBc.out.trans (hBcd.mono HBc.out.size)
  have hl4 := set4 hLm
  have hg4 : w3.grownBy ((((w3.setCell ⟨wc.heap.size, 10, none⟩ (.int .i64 1)).setCell ⟨wc.heap.size, 11, none⟩ (.int .i64 0)).setCell ⟨wc.heap.size, 12, none⟩ (.int .i64 0)).setCell ⟨wc.heap.size, 13, none⟩ (.int .i64 0)) (some wc.heap.size) :=
    grown_next (grown_next (grown_next (grown_set (base := 0) w3 _ 10 _) (grown_set (base := 0) _ _ 11 _)) (grown_set (base := 0) _ _ 12 _)) (grown_set (base := 0) _ _ 13 _)
  have hcz : wb.heap.size ≤ wc.heap.size := HBc.out.size
  have hsb := HSb.out
  have hl5 := (HLb.out.next hBb3).grown hg4 (fun e => by injection e with e; omega)
  have hq5 := (HLc.out.next hBcd).grown hg4 (fun e => by injection e with e; have := HLc.out.lt; omega)
  have hld4 := load_ml hl4
  obtain ⟨w9, hst, hl9, hg9⟩ := store_any hl5 (qh id rd 1) (some ⟨wb.heap.size, 0, none⟩) none none none 1 0 0 0 1 0 0 0
  have hq9 := hq5.grown hg9 (fun e => by injection e with e; omega)
  have hB9 : Below w.heap.size w w9 := ((HBb.out.trans (hBb3.mono HBb.out.size)).grown hg4 (HBb.out.trans (hBb3.mono HBb.out.size)).size (fun k hk => by injection hk with hk; omega)).grown hg9 ((HBb.out.trans (hBb3.mono HBb.out.size)).grown hg4 (HBb.out.trans (hBb3.mono HBb.out.size)).size (fun k hk => by injection hk with hk; omega)).size (fun k hk => by injection hk with hk; omega)
  have y10 := hLm.cell 10
  have y11 := hLm.cell 11
  have y12 := hLm.cell 12
  have y13 := hLm.cell 13
  have f10 := hLm.free 10
  have f11 := hLm.free 11
  have f12 := hLm.free 12
  have f13 := hLm.free 13
  have e1 : msgV (qh id rd 1) (.slice (some ⟨wb.heap.size, 0, none⟩) ((1 : Nat)) 1) (.slice none 0 0) (.slice none 0 0) (.slice none 0 0) = msgV (qh id rd 1) (.slice (some ⟨wb.heap.size, 0, none⟩) 1 1) nilS nilS nilS := rfl
  rw [e1] at hst
  obtain ⟨V9, hV9⟩ : ∃ V, msgV (qh id rd 1) (.slice (some ⟨wb.heap.size, 0, none⟩) 1 1) nilS nilS nilS = V := ⟨_, rfl⟩
  rw [hV9] at hld4 hst
  have HLd4 := Lib.hid hld4
  have HSt4 := Lib.hid hst
  have HL9 := Lib.hid hl9
  have HQ9 := Lib.hid hq9
  have HB9 := Lib.hid hB9
  clear hLm hBcd hBb3 hl4 hg4 hcz hsb hl5 hq5 hld4 hst hl9 hg9 hq9 hB9 hb3 hV9 e1
  go_wp2_with (first | (refine wpList_load1 rfl 54 (.tmp 7) rfl (pp wc.heap.size) _ rfl HLd4.out ?_) | (refine wpList_store1 rfl 54 (.tmp 6) (.tmp 18) rfl (pp (w.heap.size + 1)) V9 rfl rfl HSt4.out ?_))
  refine bodyPost_ret (ret_m1 rfl _ _ (w.heap.size + 1) (qh id rd 1) _ _ _ _ rfl HL9.out) rfl ?_
  exact ⟨wb.heap.size, rfl, HBb.out.size, HQ9.out, HB9.out⟩
def exQ : MQ := ⟨⟨#[1, 97]⟩, 1, 1⟩
def exMM : MM := qm 1 exQ true
theorem exMM_put : putErr 99 exMM = 0 ∧ putTx 99 exMM = [0, 1, 1, 0, 0, 1, 0, 0, 0, 0, 0, 0, 1, 97, 0, 0, 1, 0, 1] := by constructor <;> kernel_rfl
theorem exMM_read : rdErr [0, 1, 1, 0, 0, 1, 0, 0, 0, 0, 0, 0, 1, 97, 0, 0, 1, 0, 1] = 0 ∧ (rdQl [0, 1, 1, 0, 0, 1, 0, 0, 0, 0, 0, 0, 1, 97, 0, 0, 1, 0, 1] (rdV [0, 1, 1, 0, 0, 1, 0, 0, 0, 0, 0, 0, 1, 97, 0, 0, 1, 0, 1])).length = 1 := by constructor <;> kernel_rfl
set_option maxHeartbeats 1000000 in
theorem example_any (w : World) : Calls Tryz.prog 22 #[] w (QryM w 1 exQ true) := by
  have hal := alloc_m w
  obtain ⟨W, hW⟩ : ∃ W, W = w.alloc (.cells zeroM 54) := ⟨_, rfl⟩
  have hB0 : Below w.heap.size w W := by rw [hW]; exact (Below.refl _ _).alloc (Nat.le_refl _) _
  have hL0 : Lies W w.heap.size 54 (cellsM noH nilS nilS nilS nilS) := by rw [hW, zeroM_eq]; exact Lies.new _ _ _
  rw [← hW] at hal
  have HQ : Hid (Calls Tryz.prog 36 #[.int .u16 1, .agg #[.string ⟨#[1, 97]⟩, .int .i64 1, .int .i64 1], .bool true] W (QryM W 1 exQ true)) := Lib.hid (mQuery_any 1 exQ true W (by decide) (by unfold maxLen; decide))
  have HAl := Lib.hid hal
  have HB0 := Lib.hid hB0
  have HL0 := Lib.hid hL0
  clear hal hW hB0 hL0
  go_enter Tryz.func22, Tryz.ntmps22
  go_upto_region 1 with (first | (refine wpList_alloc1 rfl 54 rfl _ HAl.out ?_) | fail)
  simp only [Act.put, List.setIfInBounds_toArray, List.set_cons_zero]
  go_wp2_with fail
  refine HQ.out.mono ?_
  rintro e w1 ⟨g, rfl, hg, hlq, hb⟩
  have hl1 := HL0.out.next hb
  obtain ⟨w9, hst, hl9, hg9⟩ := store_any hl1 (qh 1 true 1) (some ⟨g, 0, none⟩) none none none 1 0 0 0 1 0 0 0
  have hlt : w.heap.size < W.heap.size := HL0.out.lt
  have hq9 := hlq.grown hg9 (fun e => by injection e with e; omega)
  have hb1 := HB0.out.trans (hb.mono HB0.out.size)
  have hb9 : Below w.heap.size w w9 := hb1.grown hg9 hb1.size fun k hk => by injection hk with hk; omega
  obtain ⟨V9, hV9⟩ : ∃ V, msgV (qh 1 true 1) (.slice (some ⟨g, 0, none⟩) 1 1) nilS nilS nilS = V := ⟨_, rfl⟩
  rw [hV9] at hst ⊢
  have HSt := Lib.hid hst
  have HL9 := Lib.hid hl9
  have HQ9 := Lib.hid hq9
  have HB9 := Lib.hid hb9
  have HG : Hid (w.heap.size ≤ g) := Lib.hid (by omega)
  clear hst hl9 hq9 hb9 hV9 hb1 hlt hg9 hl1 hlq hb hg
  go_wp2_with (refine wpList_store1 rfl 54 (.tmp 0) (.tmp 2) rfl (pp w.heap.size) V9 rfl rfl HSt.out ?_)
  refine bodyPost_ret (ret_m1 rfl _ _ w.heap.size (qh 1 true 1) _ _ _ _ rfl HL9.out) rfl ?_
  exact ⟨g, rfl, HG.out, HQ9.out, HB9.out⟩
theorem min99 : ((min (99 : Int) 65535).toNat) = 99 := by decide
def exS : ByteArray := ⟨#[0, 1, 1, 0, 0, 1, 0, 0, 0, 0, 0, 0, 1, 97, 0, 0, 1, 0, 1]⟩
set_option maxHeartbeats 2000000 in
theorem lives11 (w : World) : Calls Tryz.prog 20 #[] w (Told w (.bool true)) := by
  have HEx := Lib.hid (example_any w)
  have HPt : Hid (∀ wx vq, FitM wx exMM vq nilS nilS nilS → Calls Tryz.prog 21 #[msgV (qh 1 true 1) vq nilS nilS nilS, .int .i64 99] wx (Told wx (.tuple #[.string exS, .int .i64 0]))) := Lib.hid fun wx vq hf => by
    have h := mPut_any exMM vq nilS nilS nilS 99 wx hf (by decide)
    rw [min99] at h
    refine h.mono ?_
    rintro e w' ⟨rfl, _, hb⟩
    rw [exMM_put.1, exMM_put.2]
    exact ⟨rfl, hb⟩
  have HRd : Hid (∀ wx, Calls Tryz.prog 23 #[.string exS] wx (fun e w' => ∃ (h : Hd) (Aq Aa Au Am : Option Addr) (na nu nm cq ca cu cm : Nat), e = .returned (.tuple #[msgV h (.slice Aq 1 cq) (.slice Aa na ca) (.slice Au nu cu) (.slice Am nm cm), .int .i64 0]) ∧ Below wx.heap.size wx w')) := Lib.hid fun wx => by
    refine (mRead_any exS wx (by decide)).mono ?_
    rintro e w' ⟨m, vq, va, vu, vm, rfl, hb, hf, _, hok⟩
    obtain ⟨Aq, cq, Aa, ca, Au, cu, Am, cm, rfl, rfl, rfl, rfl, _⟩ := hf.shapes
    have e1 : rdErr (bs exS) = 0 := exMM_read.1
    have e2 : m.q.length = 1 := by rw [(hok e1).q]; exact exMM_read.2
    rw [e1, e2]
    exact ⟨m.h, Aq, Aa, Au, Am, m.a.length, m.u.length, m.m.length, cq, ca, cu, cm, rfl, hb⟩
  have hS1 : exS.toList = [0, 1, 1, 0, 0, 1, 0, 0, 0, 0, 0, 0, 1, 97, 0, 0, 1, 0, 1] := by kernel_rfl
  have hS2 : (exS.toList == [0, 1, 1, 0, 0, 1, 0, 0, 0, 0, 0, 0, 1, 97, 0, 0, 1, 0, 1]) = true := by rw [hS1]; rfl
  have hS3 : exS = ⟨#[0, 1, 1, 0, 0, 1, 0, 0, 0, 0, 0, 0, 1, 97, 0, 0, 1, 0, 1]⟩ := rfl
  have HS3 := Lib.hid hS3
  clear hS3
  go_enter Tryz.func20, Tryz.ntmps20
  go_wp2_with fail
  refine HEx.out.mono ?_
  rintro e w1 ⟨g, rfl, hg, hlq, hb⟩
  have hpt := HPt.out w1 _ (qm_fit (id := 1) (q := exQ) (rd := true) (by decide) (by unfold maxLen; decide) hlq)
  obtain ⟨V1, hV1⟩ : ∃ V, msgV (qh 1 true 1) (.slice (some ⟨g, 0, none⟩) 1 1) nilS nilS nilS = V := ⟨_, rfl⟩
  rw [hV1] at hpt ⊢
  have HP := Lib.hid hpt
  have HB := Lib.hid hb
  clear hpt hb hlq hg hV1
  go_wp2_with fail
  refine HP.out.mono ?_
  rintro e w2 ⟨rfl, hb2⟩
  have HB2 := Lib.hid (HB.out.trans (hb2.mono HB.out.size))
  clear hb2
  go_wp2_with fail
  refine (HRd.out _).mono ?_
  rintro e w3 ⟨h, Aq, Aa, Au, Am, na, nu, nm, cq, ca, cu, cm, rfl, hb3⟩
  have HB3 := Lib.hid (HB2.out.trans (hb3.mono HB2.out.size))
  have hst := store_mf h Aq Aa Au Am 1 na nu nm cq ca cu cm w3
  have hy : (w3.alloc (.cells (cellsM h (.slice Aq 1 cq) (.slice Aa na ca) (.slice Au nu cu) (.slice Am nm cm)) 54)).cell? ⟨w3.heap.size, 14, none⟩ = some (.slice Aq 1 cq) := (Lies.new w3 _ _).cell 14
  obtain ⟨V3, hV3⟩ : ∃ V, msgV h (.slice Aq 1 cq) (.slice Aa na ca) (.slice Au nu cu) (.slice Am nm cm) = V := ⟨_, rfl⟩
  obtain ⟨C3, hC3⟩ : ∃ V, cellsM h (.slice Aq 1 cq) (.slice Aa na ca) (.slice Au nu cu) (.slice Am nm cm) = V := ⟨_, rfl⟩
  rw [hV3] at hst ⊢
  rw [hC3] at hst hy
  have HSt := Lib.hid hst
  clear hst hV3 hC3 hb3
  go_wp2_with (first | (refine wpList_alloc1 rfl 54 rfl _ (alloc_m w3) ?_) | (refine wpList_store1 rfl 54 (.tmp 3) (.tmp 13) rfl (pp w3.heap.size) V3 rfl rfl HSt.out ?_))
  go_ret
  exact ⟨rfl, HB3.out.alloc HB3.out.size _⟩
end Go.Proofs.YtdpgcgaalamgkaaGreat
namespace Go.Proofs.YtdpgcgaalamgkaaGreat
open Go.RowKit Go.Maps
set_option linter.unusedVariables false
set_option maxRecDepth 100000

theorem wpList_load1g {ops : Array Oper} {rest : List Oper} {o : Oper} {a : Act} {w : World} {Q : Exit → Act → World → Prop} (hw : Region.wanted o (yielded ops a.tmps) = true) (t : TypeId) (x : Operand) (ho : o.op = .load t x) (p V : Value) (hx : a.eval x = p) (hb : (Instr.loadAt t p).run Tryz.prog w = .ok V w)
    (h : wpList Tryz.prog ops Q rest (a.put o.dst V) w) : wpList Tryz.prog ops Q (o :: rest) a w := by
  refine BigFrame.wpList_want hw fun K hK => ?_
  unfold Oper.wp execOp
  simp only [ho, hx, Sem.run_bind, Sem.run_pure, hb, Result.andThen_ok]
  exact hK _ _ h
theorem min65 : ((min (65535 : Int) 65535).toNat) = 65535 := by decide
/-- A message that the law goes through, put. -/
theorem light_of {m : MM} {w : World} {vq va vu vm : Value} (hf : FitM w m vq va vu vm) (ok : OkM m) (hl : m.q.length + m.recs.length ≤ 24 ∧ ∀ x ∈ m.recs, checkR x.1 = 0 → octD x.1.d + sizeT x.1.d.L ≤ 2000) : LightM m :=
  ⟨hl.1, fun x hx => ⟨⟨(hf.rs x hx).d.hi, (hf.rs x hx).d.lo⟩, (hf.rs x hx).x, hl.2 x hx (ok.r x hx)⟩⟩
set_option maxHeartbeats 4000000 in
theorem MessageBack_walk (m : MM) (vq va vu vm : Value) (w : World) (hf : FitM w m vq va vu vm) (hs : ShortM m) :
    Calls Tryz.prog 6 #[msgV m.h vq va vu vm] w fun e w' => e = .returned (.bool true) ∧ Below w.heap.size w w' := by
  have HLt := Lib.hid fun wx (hb : Below w.heap.size w wx) => lightM_any m vq va vu vm wx (hf.next hb) hs
  have HCk := Lib.hid fun wx (hb : Below w.heap.size w wx) => mCheck_any m vq va vu vm wx (hf.next hb)
  have HPt := Lib.hid fun wx (hb : Below w.heap.size w wx) => mPut_any m vq va vu vm 65535 wx (hf.next hb) (by decide)
  have HSz := Lib.hid fun wx (hb : Below w.heap.size w wx) => mSize_any m vq va vu vm wx (hf.next hb)
  have HPn := Lib.hid fun (most : Int) wx (hb : Below w.heap.size w wx) hmo => mPut_any m vq va vu vm most wx (hf.next hb) hmo
  have HCt := Lib.hid fun (most : Int) wx (hb : Below w.heap.size w wx) hmo => mCut_fit m vq va vu vm most wx (hf.next hb) hmo
  have HSm := Lib.hid fun (a : MM) (xq xa xu xm : Value) wx (hb : Below w.heap.size w wx) (ha : FitM wx a xq xa xu xm) => mSame_any a m xq xa xu xm vq va vu vm wx ha (hf.next hb)
  have HLv := Lib.hid fun wx => lives11 wx
  simp only [min65] at HPt
  obtain ⟨Aq, cq, Aa, ca, Au, cu, Am, cm, rfl, rfl, rfl, rfl, _⟩ := hf.shapes
  obtain ⟨C, hC⟩ : ∃ C, cellsM m.h (.slice Aq m.q.length cq) (.slice Aa m.a.length ca) (.slice Au m.u.length cu) (.slice Am m.m.length cm) = C := ⟨_, rfl⟩
  obtain ⟨V, hV⟩ : ∃ V, msgV m.h (.slice Aq m.q.length cq) (.slice Aa m.a.length ca) (.slice Au m.u.length cu) (.slice Am m.m.length cm) = V := ⟨_, rfl⟩
  have hbx := box_m m.h Aq Aa Au Am m.q.length m.a.length m.u.length m.m.length cq ca cu cm w
  obtain ⟨W, hW⟩ : ∃ W, W = w.alloc (.cells C 54) := ⟨_, rfl⟩
  rw [hC, hV, ← hW] at hbx
  rw [hV] at HLt HCk HPt HSz ⊢
  simp only [hV] at HPn HCt HSm
  have hB0 : Below w.heap.size w W := by rw [hW]; exact (Below.refl _ _).alloc (Nat.le_refl _) _
  have hL0 : Lies W w.heap.size 54 C := by rw [hW]; exact Lies.new _ _ _
  have HLd : Hid (∀ wx, Below W.heap.size W wx → (Instr.loadAt 54 (pp w.heap.size)).run Tryz.prog wx = .ok V wx) := Lib.hid fun wx hb => by
    rw [← hV]
    refine load_ml ?_
    rw [hC]
    exact hL0.next hb
  have HBx := Lib.hid hbx
  have HB0 := Lib.hid hB0
  have HF := Lib.hid hf
  have HEnt : Hid (∀ wx, Below W.heap.size W wx → Below w.heap.size w wx) := Lib.hid fun wx hb => HB0.out.trans (hb.mono HB0.out.size)
  clear hbx hB0 hL0 hC hV hW hf hs
  obtain ⟨ck, hck⟩ : ∃ c, checkM m = c := ⟨_, rfl⟩
  rw [hck] at HCk
  have HCK := Lib.hid hck
  clear hck
  go_enter Tryz.func6, Tryz.ntmps6
  go_wp2_with (first | (refine wpList_box1 rfl 54 (.tmp 0) rfl V _ rfl HBx.out ?_) | (go_at_call 20; (with_reducible refine (HLv.out _).mono ?_); rintro e w1 ⟨rfl, hb1⟩; have HB1 := Lib.hid hb1; clear hb1) | (refine wpList_load1 rfl 54 (.tmp 1) rfl (pp w.heap.size) V rfl (HLd.out _ HB1.out) ?_) | fail)
  refine (HLt.out _ (HEnt.out _ HB1.out)).mono ?_
  rintro e w2 ⟨c, rfl, hc, hb2⟩
  have HC := Lib.hid hc
  have HB2 := Lib.hid (HB1.out.trans (hb2.mono HB1.out.size))
  clear hc hb2
  cases c
  · as_aux_lemma =>
      go_wp2
      go_ret
      exact ⟨rfl, HEnt.out _ HB2.out⟩
  · go_wp2_with (first | (refine wpList_load1g (by rfl) 54 (.tmp 1) rfl (pp w.heap.size) V rfl (HLd.out _ HB2.out) ?_) | fail)
    refine (HCk.out _ (HEnt.out _ HB2.out)).mono ?_
    rintro e w3 ⟨rfl, hb3⟩
    have HB3 := Lib.hid (HB2.out.trans (hb3.mono HB2.out.size))
    clear hb3
    by_cases hz : ck = 0
    · subst hz
      have hne : ((((0 : Nat) : Nat) : Int) != 0) = false := rfl
      have hok := checkM_zero.1 HCK.out
      obtain ⟨_, hback⟩ := msg_back hok (light_of HF.out hok (HC.out trivial)) HF.out.h.id
      have hpt := HPt.out _ (HEnt.out _ HB3.out)
      have hE : putErr 65535 m = 0 := by unfold putErr; rw [if_pos HCK.out]; exact hback.f
      have hT : putTx 65535 m = (putMs 65535 m).2.l := by unfold putTx putT; rw [if_pos HCK.out, if_pos hback.f]
      unfold PutW at hpt
      rw [hE, hT] at hpt
      have htx := tx_back hok HF.out.h.id hback
      have hfu := full_back hok hback
      have hfew := hback.few
      have h12 : 12 ≤ (putMs 65535 m).2.l.length := by
        obtain ⟨y, hy⟩ := hback.pre
        rw [hy, List.length_append, ocH_length]
        omega
      obtain ⟨l, hl⟩ : ∃ l, (putMs 65535 m).2.l = l := ⟨_, rfl⟩
      have hag := hfu.again
      have hcf := hback.f
      rw [hl] at hpt hfew h12 htx hag
      have hag1 : (putMs l.length m).2.f = 0 := by rw [hag]; exact hcf
      have hag2 : (putMs l.length m).2.l = l := by rw [hag]; exact hl
      obtain ⟨S, hS⟩ : ∃ S : ByteArray, (⟨l.toArray⟩ : ByteArray) = S := ⟨_, rfl⟩
      have hSb : bs S = l := by rw [← hS, bs_mk]
      have hSz : S.size = l.length := by rw [← bs_length, hSb]
      rw [hS] at hpt
      have HPut := Lib.hid hpt
      have hSf : S.size ≤ 60000 := by omega
      have hS12 : 12 ≤ S.size := by omega
      have hm2 : (min (S.size : Int) 65535).toNat = l.length := by omega
      have hm3 : (min ((S.size : Int) - 1) 65535).toNat + 1 = l.length := by omega
      have HP2 : Hid (∀ wx, Below w.heap.size w wx → Calls Tryz.prog 21 #[V, .int .i64 (S.size : Int)] wx (Told wx (.tuple #[.string S, .int .i64 0]))) := Lib.hid fun wx hb => by
        have h := HPn.out (S.size : Int) wx hb (by omega)
        rw [hm2] at h
        refine h.mono ?_
        rintro e w' ⟨rfl, _, hb'⟩
        refine ⟨?_, hb'⟩
        unfold putErr putTx putT
        rw [if_pos HCK.out, if_pos HCK.out, if_pos hag1, hag1, hag2, hS]
        rfl
      have HP3 : Hid (∀ wx, Below w.heap.size w wx → Calls Tryz.prog 21 #[V, .int .i64 ((S.size : Int) - 1)] wx (fun e w' => (∃ X, e = .returned (.tuple #[.string X, .int .i64 3])) ∧ Below wx.heap.size wx w')) := Lib.hid fun wx hb => by
        refine (HPn.out ((S.size : Int) - 1) wx hb (by omega)).mono ?_
        rintro e w' ⟨rfl, h1, hb'⟩
        have hf3 := hfu.less _ (by rw [hl]; exact hm3) (h1 HCK.out)
        have hE3 : putErr (min ((S.size : Int) - 1) 65535).toNat m = 3 := by unfold putErr; rw [if_pos HCK.out, hf3]
        rw [hE3]
        exact ⟨⟨_, rfl⟩, hb'⟩
      have HC2 : Hid (∀ wx, Below w.heap.size w wx → Calls Tryz.prog 24 #[V, .int .i64 (S.size : Int)] wx (Told wx (.tuple #[.string S, .int .i64 0]))) := Lib.hid fun wx hb => by
        have h := HCt.out (S.size : Int) wx hb (by omega) hok
        rw [hm2] at h
        have h2 := h hag1
        rw [hag2, hS] at h2
        exact h2
      have hsz := hfu.size
      rw [hl, ← hSz] at hsz
      obtain ⟨sz, hszz⟩ : ∃ z, sizeM m = z := ⟨_, rfl⟩
      rw [hszz] at hsz HSz
      have hle : ¬ ((sz : Int) < (S.size : Int)) := by omega
      have hled : decide ((S.size : Int) ≤ (sz : Int)) = true := by simpa using (by omega : (S.size : Int) ≤ (sz : Int))
      have hszb : sz ≤ 9000000000000000000 := by have := size_few (HC.out trivial).1; omega
      have HRd : Hid (∀ wx, Calls Tryz.prog 23 #[.string S] wx (ReadM wx l)) := Lib.hid fun wx => by
        have h := mRead_any S wx (by omega)
        rwa [hSb] at h
      have HTx := Lib.hid htx
      clear hpt hE hT hl htx hfu hfew h12 hag hcf hag1 hag2 hSb hSz hS hback hok hm2 hm3 hsz hszz HPn HCt
      go_wp2_with (first | (refine wpList_load1 rfl 54 (.tmp 1) rfl (pp w.heap.size) V rfl (HLd.out _ HB3.out) ?_) | (go_at_call 21; (with_reducible refine HPut.out.mono ?_); rintro e w4 ⟨rfl, _, hb4⟩; have HB4 := Lib.hid (HB3.out.trans (hb4.mono HB3.out.size)); clear hb4) | fail)
      refine (HRd.out _).mono ?_
      rintro e w5 ⟨a, xq, xa, xu, xm, rfl, hb5, hfa, _, hra⟩
      rw [HTx.out.err] at hra ⊢
      have hsm := HTx.out.same a (hra rfl)
      have HB5 := Lib.hid (HB4.out.trans (hb5.mono HB4.out.size))
      obtain ⟨Bq, dq, Ba, da, Bu, du, Bm, dm, rfl, rfl, rfl, rfl, _⟩ := hfa.shapes
      have hst := store_mf a.h Bq Ba Bu Bm a.q.length a.a.length a.u.length a.m.length dq da du dm w5
      have hld5 := fun wx (l : Lies wx w5.heap.size 54 (cellsM a.h (.slice Bq a.q.length dq) (.slice Ba a.a.length da) (.slice Bu a.u.length du) (.slice Bm a.m.length dm))) => load_ml l
      have hn5 := Lies.new w5 54 (cellsM a.h (.slice Bq a.q.length dq) (.slice Ba a.a.length da) (.slice Bu a.u.length du) (.slice Bm a.m.length dm))
      have hb6 := (Below.refl _ w5).alloc (Nat.le_refl _) (.cells (cellsM a.h (.slice Bq a.q.length dq) (.slice Ba a.a.length da) (.slice Bu a.u.length du) (.slice Bm a.m.length dm)) 54)
      have hsa := fun wx (hb : Below w.heap.size w wx) (h5 : Below w5.heap.size w5 wx) => HSm.out a _ _ _ _ wx hb (FitM.next hfa h5)
      simp only [hsm] at hsa
      obtain ⟨V5, hV5⟩ : ∃ V, msgV a.h (.slice Bq a.q.length dq) (.slice Ba a.a.length da) (.slice Bu a.u.length du) (.slice Bm a.m.length dm) = V := ⟨_, rfl⟩
      obtain ⟨C5, hC5⟩ : ∃ V, cellsM a.h (.slice Bq a.q.length dq) (.slice Ba a.a.length da) (.slice Bu a.u.length du) (.slice Bm a.m.length dm) = V := ⟨_, rfl⟩
      simp only [hV5, hC5] at hst hld5 hn5 hb6 hsa ⊢
      obtain ⟨w6, hw6⟩ : ∃ w6, w5.alloc (.cells C5 54) = w6 := ⟨_, rfl⟩
      rw [hw6] at hst hn5 hb6
      obtain ⟨u5, hu5⟩ : ∃ u, pp w5.heap.size = u := ⟨_, rfl⟩
      have hal := alloc_m w5
      obtain ⟨w5', hw5'⟩ : ∃ x, w5.alloc (.cells zeroM 54) = x := ⟨_, rfl⟩
      rw [hw5'] at hst hal
      rw [hu5] at hst hal
      have HL5 : Hid (∀ wx, Below w6.heap.size w6 wx → (Instr.loadAt 54 u5).run Tryz.prog wx = .ok V5 wx) := Lib.hid fun wx hb => by rw [← hu5]; exact hld5 _ (hn5.next hb)
      have HB6 := Lib.hid (HB5.out.trans (hb6.mono HB5.out.size))
      have H56 := Lib.hid hb6
      have HAl := Lib.hid hal
      have HSt := Lib.hid hst
      have HSa := Lib.hid hsa
      have HE6 : Hid (∀ wx, Below w6.heap.size w6 wx → Below W.heap.size W wx) := Lib.hid fun wx hb => HB6.out.trans (hb.mono HB6.out.size)
      have HF6 : Hid (∀ wx, Below w6.heap.size w6 wx → Below w5.heap.size w5 wx) := Lib.hid fun wx hb => H56.out.trans (hb.mono H56.out.size)
      clear hb5 hfa hra hsm hst hld5 hn5 hb6 hsa hV5 hC5 hw6 hu5 hal hw5' HSm
      go_wp2_with (first | (refine wpList_alloc1 rfl 54 rfl u5 HAl.out ?_) | (refine wpList_store1 rfl 54 (.tmp 5) (.tmp 40) rfl u5 V5 rfl rfl HSt.out ?_) | (refine wpList_load1 rfl 54 (.tmp 1) rfl (pp w.heap.size) V rfl (HLd.out _ (HE6.out _ (Below.refl _ _))) ?_) | fail)
      refine (HP2.out _ (HEnt.out _ HB6.out)).mono ?_
      rintro e w7 ⟨rfl, hb7⟩
      have HB7 := Lib.hid hb7
      clear hb7
      go_wp2_with (first | (refine wpList_load1 rfl 54 (.tmp 1) rfl (pp w.heap.size) V rfl (HLd.out _ (HE6.out _ HB7.out)) ?_) | fail)
      refine (HP3.out _ (HEnt.out _ (HE6.out _ HB7.out))).mono ?_
      rintro e w8 ⟨⟨X8, rfl⟩, hb8⟩
      have HB8 := Lib.hid (HB7.out.trans (hb8.mono HB7.out.size))
      clear hb8
      go_wp2_with (first | (refine wpList_load1 rfl 54 (.tmp 1) rfl (pp w.heap.size) V rfl (HLd.out _ (HE6.out _ HB8.out)) ?_) | fail)
      refine (HC2.out _ (HEnt.out _ (HE6.out _ HB8.out))).mono ?_
      rintro e w9 ⟨rfl, hb9⟩
      have HB9 := Lib.hid (HB8.out.trans (hb9.mono HB8.out.size))
      clear hb9
      go_wp2_with (first | (refine wpList_load1g (by rfl) 54 (.tmp 5) rfl u5 V5 rfl (HL5.out _ HB9.out) ?_) | (refine wpList_load1g (by rfl) 54 (.tmp 1) rfl (pp w.heap.size) V rfl (HLd.out _ (HE6.out _ HB9.out)) ?_) | fail)
      refine (HSa.out _ (HEnt.out _ (HE6.out _ HB9.out)) (HF6.out _ HB9.out)).mono ?_
      rintro e wa ⟨rfl, hba⟩
      have HBa := Lib.hid (HB9.out.trans (hba.mono HB9.out.size))
      clear hba
      go_wp2_with (first | (refine wpList_load1g (by rfl) 54 (.tmp 1) rfl (pp w.heap.size) V rfl (HLd.out _ (HE6.out _ HBa.out)) ?_) | fail)
      refine (HSz.out _ (HEnt.out _ (HE6.out _ HBa.out))).mono ?_
      rintro e wb ⟨rfl, hbb⟩
      have HBb := Lib.hid (HBa.out.trans (hbb.mono HBa.out.size))
      clear hbb
      go_wp2
      go_ret
      exact ⟨rfl, HEnt.out _ (HE6.out _ HBb.out)⟩
    · have hne : (((ck : Nat) : Int) != 0) = true := by simpa using hz
      go_wp2
      go_ret
      exact ⟨rfl, HEnt.out _ HB3.out⟩
end Go.Proofs.YtdpgcgaalamgkaaGreat
