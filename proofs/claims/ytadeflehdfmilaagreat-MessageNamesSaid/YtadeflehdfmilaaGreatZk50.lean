/-
  The walk of the law MessageNames. No condition.
-/
import Derived.Test.YtadeflehdfmilaaGreatZk49
import Derived.Test.YtadeflehdfmilaaGreatZk48
namespace Go.Proofs.YtadeflehdfmilaaGreat
open Go.RowKit Go.Maps
set_option linter.unusedVariables false
set_option linter.unusedSimpArgs false
set_option maxRecDepth 100000

theorem wpList_load1h {ops : Array Oper} {rest : List Oper} {o : Oper} {a : Act} {w : World} {Q : Exit → Act → World → Prop} (hw : Region.wanted o (yielded ops a.tmps) = true) (t : TypeId) (x : Operand) (ho : o.op = .load t x) (p V : Value) (hx : a.eval x = p) (hb : (Instr.loadAt t p).run Tryz.prog w = .ok V w)
    (h : wpList Tryz.prog ops Q rest (a.put o.dst V) w) : wpList Tryz.prog ops Q (o :: rest) a w := by
  refine BigFrame.wpList_want hw fun K hK => ?_
  unfold Oper.wp execOp
  simp only [ho, hx, Sem.run_bind, Sem.run_pure, hb, Result.andThen_ok]
  exact hK _ _ h
theorem row_ex3 {w : World} {g : Nat} (h : Lies w g 32 (csR exRV ++ csR exRV ++ csR exRV).toArray) : CRow csR 16 w (.slice (some ⟨g, 0, none⟩) 3 3) [exRV, exRV, exRV] := by
  refine ⟨some ⟨g, 0, none⟩, 3, rfl, Nat.le_refl _, by unfold maxLen; decide, fun j hj => ⟨g, 0, rfl, h.lt, fun i v hv => ?_⟩⟩
  have hj3 : j < 3 := hj
  have e : ([exRV, exRV, exRV] : List RV)[j] = exRV := by
    obtain rfl | rfl | rfl : j = 0 ∨ j = 1 ∨ j = 2 := by omega
    all_goals rfl
  rw [e] at hv
  have hi : i < 16 := (List.getElem?_eq_some_iff.1 hv).1
  show w.cell? ⟨g, 0 + j * 16 + i, none⟩ = some v
  rw [h.cell, ← hv]
  obtain rfl | rfl | rfl : j = 0 ∨ j = 1 ∨ j = 2 := by omega
  all_goals
    match i, hi with
    | 0, _ | 1, _ | 2, _ | 3, _ | 4, _ | 5, _ | 6, _ | 7, _ | 8, _ | 9, _ | 10, _ | 11, _ | 12, _ | 13, _ | 14, _ | 15, _ => rfl
theorem fit_mM {w : World} {vq : Value} (f : FitM w exMM vq nilS nilS nilS) : FitM w mM vq nilS nilS nilS :=
  ⟨⟨by decide, by decide, by decide, by decide, by decide, by decide, by decide⟩, f.q, f.a, f.u, f.rm, f.qs, fun x hx => absurd hx (by simp [mM, MM.recs]), f.nl⟩
theorem fit_nM {w : World} {vq va : Value} (f : FitM w exMM vq nilS nilS nilS) (r : CRow csR 16 w va [exRV, exRV, exRV]) (hn : NilOk va) : FitM w nM vq va nilS nilS :=
  ⟨⟨by decide, by decide, by decide, by decide, by decide, by decide, by decide⟩, f.q, r, f.u, f.rm, f.qs, fun x hx => by
    have hx' : x ∈ [exRV, exRV, exRV] := hx
    have : x = exRV := by simpa using hx'
    rw [this]
    exact fit_ex w, ⟨hn, f.nl.2.1, f.nl.2.2⟩⟩
theorem put99 (w : World) (vq : Value) (hf : FitM w exMM vq nilS nilS nilS) : Calls Tryz.prog 18 #[msgV (qh 1 true 1) vq nilS nilS nilS, .int .i64 99] w (Told w (.tuple #[.string exS, .int .i64 0])) := by
  have h := mPut_any exMM vq nilS nilS nilS 99 w hf (by decide)
  rw [min99] at h
  refine h.mono ?_
  rintro e w' ⟨rfl, _, hb⟩
  rw [exMM_put.1, exMM_put.2]
  exact ⟨rfl, hb⟩
theorem min18 : ((min (18 : Int) 65535).toNat) = 18 := by decide
theorem min60 : ((min (60 : Int) 65535).toNat) = 60 := by decide
theorem put18 (w : World) (vq : Value) (hf : FitM w exMM vq nilS nilS nilS) : Calls Tryz.prog 18 #[msgV (qh 1 true 1) vq nilS nilS nilS, .int .i64 18] w (fun e w' => (∃ X, e = .returned (.tuple #[.string X, .int .i64 3])) ∧ Below w.heap.size w w') := by
  have h := mPut_any exMM vq nilS nilS nilS 18 w hf (by decide)
  rw [min18] at h
  refine h.mono ?_
  rintro e w' ⟨rfl, _, hb⟩
  rw [ex_5]
  exact ⟨⟨_, rfl⟩, hb⟩
def s60 : ByteArray := ⟨(cutT 60 nM).toArray⟩
def s99 : ByteArray := ⟨(cutT 99 nM).toArray⟩
theorem cut60 (w : World) (vq va : Value) (hf : FitM w nM vq va nilS nilS) : Calls Tryz.prog 21 #[msgV (hdC 3) vq va nilS nilS, .int .i64 60] w (Told w (.tuple #[.string s60, .int .i64 0])) := by
  have h := mCut_any nM vq va nilS nilS 60 w hf (by decide)
  rw [min60] at h
  refine h.mono ?_
  rintro e w' ⟨rfl, _, hb⟩
  rw [ex_7.1]
  exact ⟨rfl, hb⟩
theorem cut18 (w : World) (vq va : Value) (hf : FitM w nM vq va nilS nilS) : Calls Tryz.prog 21 #[msgV (hdC 3) vq va nilS nilS, .int .i64 18] w (fun e w' => (∃ X, e = .returned (.tuple #[.string X, .int .i64 3])) ∧ Below w.heap.size w w') := by
  have h := mCut_any nM vq va nilS nilS 18 w hf (by decide)
  rw [min18] at h
  refine h.mono ?_
  rintro e w' ⟨rfl, _, hb⟩
  rw [ex_8]
  exact ⟨⟨_, rfl⟩, hb⟩
theorem cut99 (w : World) (vq va : Value) (hf : FitM w nM vq va nilS nilS) : Calls Tryz.prog 21 #[msgV (hdC 3) vq va nilS nilS, .int .i64 99] w (Told w (.tuple #[.string s99, .int .i64 0])) := by
  have h := mCut_any nM vq va nilS nilS 99 w hf (by decide)
  rw [min99] at h
  refine h.mono ?_
  rintro e w' ⟨rfl, _, hb⟩
  rw [ex_9.1]
  exact ⟨rfl, hb⟩
theorem exS_size : exS.size = 19 := by decide
theorem s99_size : s99.size = 67 := by
  rw [← bs_length]
  show (bs ⟨(cutT 99 nM).toArray⟩).length = 67
  rw [bs_mk]
  exact ex_9.2
theorem s60_bs : bs s60 = cutT 60 nM := bs_mk _
theorem s60_size : s60.size = 51 := by rw [← bs_length, s60_bs]; exact ex_7a.2.2
set_option maxHeartbeats 4000000 in
theorem MessageNames_walk (w : World) : Calls Tryz.prog 4 #[] w (Told w (.bool true)) := by
  have HLv := Lib.hid fun wx => lives11 wx
  have HEx := Lib.hid example_m
  have HP99 := Lib.hid put99
  have HP18 := Lib.hid put18
  have hr1 := fun wx => read_kept (exS ++ ⟨#[120]⟩) wx (by rw [← bs_length, bs_append, List.length_append, bs_length, exS_size]; decide)
  have hr2 := fun wx => read_kept (exS.extract 0 18) wx (by rw [← bs_length, bs_extract, List.length_take]; omega)
  have hr3 := fun wx => read_kept (exS.extract 0 11) wx (by rw [← bs_length, bs_extract, List.length_take]; omega)
  have hr5 := fun wx => read_kept s60 wx (by rw [s60_size]; decide)
  rw [bs_append] at hr1
  rw [bs_extract] at hr2 hr3
  have e1 : rdErr (bs exS ++ bs ⟨#[120]⟩) = 4 := ex_1
  have e2 : rdErr (List.take (18 - 0) (List.drop 0 (bs exS))) = 8 := ex_2
  have e3 : rdErr (List.take (11 - 0) (List.drop 0 (bs exS))) = 8 := ex_3
  have e5 : rdErr (bs s60) = 0 := by rw [s60_bs]; exact ex_7.2
  have t5 : (rdV (bs s60)).tc = true ∧ (rdL (bs s60) (rdV (bs s60)) 0).length = 2 := by rw [s60_bs]; exact ⟨ex_7a.1, ex_7a.2.1⟩
  unfold KeptR at hr1 hr2 hr3 hr5
  rw [e1] at hr1
  rw [e2] at hr2
  rw [e3] at hr3
  rw [e5, t5.1, t5.2] at hr5
  have hC60 := cut60
  have hC99 := cut99
  have hsz := exS_size
  have h67 := s99_size
  obtain ⟨S, hS⟩ : ∃ S, exS = S := ⟨_, rfl⟩
  obtain ⟨S60, hS60⟩ : ∃ S, s60 = S := ⟨_, rfl⟩
  obtain ⟨S99, hS99⟩ : ∃ S, s99 = S := ⟨_, rfl⟩
  rw [hS] at hr1 hr2 hr3 HP99 hsz
  rw [hS60] at hr5 hC60
  rw [hS99] at hC99 h67
  have HR1 := Lib.hid hr1
  have HR2 := Lib.hid hr2
  have HR3 := Lib.hid hr3
  have HR5 := Lib.hid hr5
  have HC60 := Lib.hid hC60
  have HC18 := Lib.hid cut18
  have HC99 := Lib.hid hC99
  have H67 := Lib.hid h67
  clear hr1 hr2 hr3 hr5 e1 e2 e3 e5 t5 hC60 hC99 hS hS60 hS99 h67
  go_enter Tryz.func4, Tryz.ntmps4
  go_wp2_with (first | (go_at_call 17; (with_reducible refine (HLv.out _).mono ?_); rintro e w1 ⟨rfl, hb1⟩; have HB1 := Lib.hid hb1; clear hb1) | fail)
  refine (HEx.out _).mono ?_
  rintro e w2 ⟨g2, rfl, hf2, hb2⟩
  have HB2 := Lib.hid (HB1.out.trans (hb2.mono HB1.out.size))
  have hp := HP99.out w2 _ hf2
  obtain ⟨V2, hV2⟩ : ∃ V, msgV (qh 1 true 1) (.slice (some ⟨g2, 0, none⟩) 1 1) nilS nilS nilS = V := ⟨_, rfl⟩
  rw [hV2] at hp ⊢
  have HP := Lib.hid hp
  clear hb2 hf2 hp hV2
  go_wp2_with fail
  refine HP.out.mono ?_
  rintro e w3 ⟨rfl, hb3⟩
  have HB3 := Lib.hid (HB2.out.trans (hb3.mono HB2.out.size))
  clear hb3 HP
  go_wp2_with fail
  refine (HR1.out _).mono ?_
  rintro e w4 ⟨V4, g4, wa4, wb4, rfl, ha4, hs4, hb4, hx⟩
  clear hx
  have HA4 := Lib.hid ha4
  have HS4 := Lib.hid hs4
  have HB4 := Lib.hid (HB3.out.trans (hb4.mono HB3.out.size))
  clear ha4 hs4 hb4
  go_wp2_with (first | (refine wpList_alloc1 rfl 54 rfl _ HA4.out ?_) | (refine wpList_store1 rfl 54 (.tmp 3) (.tmp 35) rfl _ V4 rfl rfl HS4.out ?_) | fail)
  refine (HR2.out _).mono ?_
  rintro e w5 ⟨V5, g5, wa5, wb5, rfl, ha5, hs5, hb5, hx⟩
  clear hx
  have HA5 := Lib.hid ha5
  have HS5 := Lib.hid hs5
  have HB5 := Lib.hid (HB4.out.trans (hb5.mono HB4.out.size))
  clear ha5 hs5 hb5 HA4 HS4
  go_wp2_with (first | (refine wpList_alloc1 rfl 54 rfl _ HA5.out ?_) | (refine wpList_store1 rfl 54 (.tmp 5) (.tmp 41) rfl _ V5 rfl rfl HS5.out ?_) | fail)
  refine (HR3.out _).mono ?_
  rintro e w6 ⟨V6, g6, wa6, wb6, rfl, ha6, hs6, hb6, hx⟩
  clear hx
  have HA6 := Lib.hid ha6
  have HS6 := Lib.hid hs6
  have HB6 := Lib.hid (HB5.out.trans (hb6.mono HB5.out.size))
  clear ha6 hs6 hb6 HA5 HS5
  obtain ⟨v7, w7, Z, hmk, hcv, hZ, hb7⟩ := make_zeros wb6
  have hr4 := fun wx => read_kept Z wx (by rw [← bs_length, hZ]; decide)
  unfold KeptR at hr4
  rw [ex_4 hZ] at hr4
  have HR4 := Lib.hid hr4
  have HMk := Lib.hid hmk
  have HCv := Lib.hid hcv
  have HB7 := Lib.hid (HB6.out.trans (hb7.mono HB6.out.size))
  clear hmk hcv hb7 hr4 hZ
  go_wp2_with (first | (refine wpList_alloc1 rfl 54 rfl _ HA6.out ?_) | (refine wpList_store1 rfl 54 (.tmp 7) (.tmp 47) rfl _ V6 rfl rfl HS6.out ?_) | (refine wpList_mk1 rfl 58 (.const (.int .i64 65536)) (.const (.int .i64 65536)) rfl _ _ v7 rfl rfl HMk.out ?_) | (refine wpList_cv1 rfl 58 9 (.tmp 50) rfl v7 _ rfl HCv.out ?_) | fail)
  refine (HR4.out _).mono ?_
  rintro e w8 ⟨V8, g8, wa8, wb8, rfl, ha8, hs8, hb8, hx⟩
  clear hx
  have HA8 := Lib.hid ha8
  have HS8 := Lib.hid hs8
  have HB8 := Lib.hid (HB7.out.trans (hb8.mono HB7.out.size))
  clear ha8 hs8 hb8 HA6 HS6 HMk HCv
  go_wp2_with (first | (refine wpList_alloc1 rfl 54 rfl _ HA8.out ?_) | (refine wpList_store1 rfl 54 (.tmp 9) (.tmp 53) rfl _ V8 rfl rfl HS8.out ?_) | fail)
  refine (HEx.out _).mono ?_
  rintro e w9 ⟨g9, rfl, hf9, hb9⟩
  have HB9 := Lib.hid (HB8.out.trans (hb9.mono HB8.out.size))
  have hp := HP18.out w9 _ hf9
  obtain ⟨V9, hV9⟩ : ∃ V, msgV (qh 1 true 1) (.slice (some ⟨g9, 0, none⟩) 1 1) nilS nilS nilS = V := ⟨_, rfl⟩
  rw [hV9] at hp ⊢
  have HP := Lib.hid hp
  clear hb9 hf9 hp hV9 HA8 HS8
  go_wp2_with fail
  refine HP.out.mono ?_
  rintro e wA ⟨⟨XA, rfl⟩, hbA⟩
  have HBA := Lib.hid (HB9.out.trans (hbA.mono HB9.out.size))
  clear hbA HP
  go_wp2_with fail
  refine (HEx.out _).mono ?_
  rintro e wB ⟨gB, rfl, hfB, hbB⟩
  have hb0 := HBA.out.trans (hbB.mono HBA.out.size)
  have ha := alloc_m wB
  have hs := store_mf (qh 1 true 1) (some ⟨gB, 0, none⟩) none none none 1 0 0 0 1 0 0 0 wB
  have hl := Lies.new wB 54 (cellsM (qh 1 true 1) (.slice (some ⟨gB, 0, none⟩) 1 1) nilS nilS nilS)
  have hb1 := hb0.alloc hb0.size (.cells (cellsM (qh 1 true 1) (.slice (some ⟨gB, 0, none⟩) 1 1) nilS nilS nilS) 54)
  have hff := hfB.next ((Below.refl _ wB).alloc (Nat.le_refl _) (.cells (cellsM (qh 1 true 1) (.slice (some ⟨gB, 0, none⟩) 1 1) nilS nilS nilS) 54))
  obtain ⟨w13, hw13⟩ : ∃ x, wB.alloc (.cells (cellsM (qh 1 true 1) (.slice (some ⟨gB, 0, none⟩) 1 1) nilS nilS nilS) 54) = x := ⟨_, rfl⟩
  obtain ⟨wBa, hwBa⟩ : ∃ x, wB.alloc (.cells zeroM 54) = x := ⟨_, rfl⟩
  have hsB : wB.heap.size < w13.heap.size := by rw [← hw13]; simp
  have hgB : w.heap.size ≤ wB.heap.size := hb0.size
  rw [show cellsM (qh 1 true 1) (.slice (some ⟨gB, 0, none⟩) 1 1) (.slice none 0 0) (.slice none 0 0) (.slice none 0 0) = cellsM (qh 1 true 1) (.slice (some ⟨gB, 0, none⟩) 1 1) nilS nilS nilS from rfl, hw13, hwBa] at hs
  rw [hwBa] at ha
  rw [hw13] at hl hb1 hff
  obtain ⟨g13, hg13⟩ : ∃ x, wB.heap.size = x := ⟨_, rfl⟩
  rw [hg13] at ha hs hl hsB hgB
  obtain ⟨w14, hs1, hl1, hgr1⟩ := store_n1 hl 1
  have hb2 := hb1.grown hgr1 hb1.size (fun k e => by injection e with e; rw [← e]; exact hgB)
  have hbw := ((Below.refl _ wB).alloc (Nat.le_refl _) (.cells (cellsM (qh 1 true 1) (.slice (some ⟨gB, 0, none⟩) 1 1) nilS nilS nilS) 54))
  rw [hw13] at hbw
  have hfm := fit_mM (hfB.next (hbw.grown hgr1 hbw.size (fun k e => by injection e with e; omega)))
  have hlm := load_ml hl1
  obtain ⟨Vb, hVb⟩ : ∃ V, msgV (qh 1 true 1) (.slice (some ⟨gB, 0, none⟩) 1 1) nilS nilS nilS = V := ⟨_, rfl⟩
  rw [show msgV (qh 1 true 1) (.slice (some ⟨gB, 0, none⟩) 1 1) (.slice none 0 0) (.slice none 0 0) (.slice none 0 0) = Vb from hVb] at hs
  rw [hVb]
  have HLm : Hid (∀ wx, Below w14.heap.size w14 wx → (Instr.loadAt 54 (pp g13)).run Tryz.prog wx = .ok (msgV (hdC 1) (.slice (some ⟨gB, 0, none⟩) 1 1) nilS nilS nilS) wx) := Lib.hid fun wx hx => load_ml (hl1.next hx)
  have HFm := Lib.hid hfm
  have HAb := Lib.hid ha
  have HSb := Lib.hid hs
  have HS1 := Lib.hid hs1
  have HB14 := Lib.hid hb2
  have har := alloc_r w14
  have hsr := store_r exR none 0 0 w14
  have hbr := hb2.alloc hb2.size (.cells (cellsR exR (.slice none 0 0)) 32)
  have hlr := Lies.new w14 32 (cellsR exR (.slice none 0 0))
  have hcr := (Below.refl _ w14).alloc (Nat.le_refl _) (.cells (cellsR exR (.slice none 0 0)) 32)
  obtain ⟨w16, hw16⟩ : ∃ x, w14.alloc (.cells (cellsR exR (.slice none 0 0)) 32) = x := ⟨_, rfl⟩
  obtain ⟨w15, hw15⟩ : ∃ x, w14.alloc (.cells zeroR 32) = x := ⟨_, rfl⟩
  rw [hw16, hw15] at hsr
  rw [hw15] at har
  rw [hw16] at hbr hlr hcr
  obtain ⟨g16, hg16⟩ : ∃ x, w14.heap.size = x := ⟨_, rfl⟩
  simp only [hg16] at har hsr hlr
  have HAr := Lib.hid har
  have HSr := Lib.hid hsr
  have HLr : Hid (∀ wx, Below w16.heap.size w16 wx → (Instr.loadAt 32 (pp g16)).run Tryz.prog wx = .ok (recV exR nilS) wx) := Lib.hid fun wx hx => load_rl (hlr.next hx)
  have HB16 := Lib.hid hbr
  have HC16 := Lib.hid hcr
  clear hb0 ha hs hl hb1 hff hw13 hwBa hsB hgB hs1 hl1 hgr1 hb2 hbw hfm hlm hVb har hsr hbr hlr hcr hw16 hw15 hg16 hfB hbB hg13
  go_wp2_with (first | (refine wpList_alloc1 rfl 54 rfl _ HAb.out ?_) | (refine wpList_store1 rfl 54 (.tmp 13) (.tmp 60) rfl _ Vb rfl rfl HSb.out ?_) | (refine wpList_store1 rfl 3 (.tmp 63) (.const (.int .i64 1)) rfl _ _ rfl rfl HS1.out ?_) | (refine wpList_alloc1 rfl 32 rfl _ HAr.out ?_) | (refine wpList_store1 rfl 32 (.tmp 14) (.tmp 66) rfl _ (recV exR nilS) rfl rfl HSr.out ?_) | fail)
  refine (HEx.out _).mono ?_
  rintro e wC ⟨gC, rfl, hfC, hbC⟩
  have hbC0 := HB16.out.trans (hbC.mono HB16.out.size)
  have hbC1 := HC16.out.trans (hbC.mono HC16.out.size)
  have hlrC := HLr.out _ hbC
  have ha := alloc_m wC
  have hs := store_mf (qh 1 true 1) (some ⟨gC, 0, none⟩) none none none 1 0 0 0 1 0 0 0 wC
  have hl := Lies.new wC 54 (cellsM (qh 1 true 1) (.slice (some ⟨gC, 0, none⟩) 1 1) nilS nilS nilS)
  have hc17 := (Below.refl _ wC).alloc (Nat.le_refl _) (.cells (cellsM (qh 1 true 1) (.slice (some ⟨gC, 0, none⟩) 1 1) nilS nilS nilS) 54)
  obtain ⟨w17, hw17⟩ : ∃ x, wC.alloc (.cells (cellsM (qh 1 true 1) (.slice (some ⟨gC, 0, none⟩) 1 1) nilS nilS nilS) 54) = x := ⟨_, rfl⟩
  obtain ⟨wCa, hwCa⟩ : ∃ x, wC.alloc (.cells zeroM 54) = x := ⟨_, rfl⟩
  have hs17 : wC.heap.size < w17.heap.size := by rw [← hw17]; simp
  rw [show cellsM (qh 1 true 1) (.slice (some ⟨gC, 0, none⟩) 1 1) (.slice none 0 0) (.slice none 0 0) (.slice none 0 0) = (cellsM (qh 1 true 1) (.slice (some ⟨gC, 0, none⟩) 1 1) nilS nilS nilS) from rfl, hw17, hwCa] at hs
  rw [hwCa] at ha
  rw [hw17] at hl hc17
  have hlr17 := HLr.out w17 (hbC.trans (hc17.mono hbC.size))
  have h3r := three_r w17
  have hl3 := Lies.new w17 32 (csR exRV ++ csR exRV ++ csR exRV).toArray
  have hc18 := hc17.alloc hc17.size (.cells (csR exRV ++ csR exRV ++ csR exRV).toArray 32)
  have hl18 := hl.alloc (.cells (csR exRV ++ csR exRV ++ csR exRV).toArray 32)
  obtain ⟨w18, hw18⟩ : ∃ x, w17.alloc (.cells (csR exRV ++ csR exRV ++ csR exRV).toArray 32) = x := ⟨_, rfl⟩
  rw [hw18] at h3r hl3 hc18 hl18
  obtain ⟨w19, hs19, hl19, hg19⟩ := store_rw (r := fun _ => nilS) hl18 0 (by decide) (some ⟨w17.heap.size, 0, none⟩) 3 3
  obtain ⟨w20, hs20, hl20, hg20⟩ := store_n1 hl19 3
  have hc19 := hc18.grown hg19 hc18.size (fun k e => by injection e with e; omega)
  have hc20 := hc19.grown hg20 hc19.size (fun k e => by injection e with e; omega)
  have hl3' := (hl3.grown hg19 (fun e => by injection e with e; omega)).grown hg20 (fun e => by injection e with e; omega)
  have hfn := fit_nM (hfC.next hc20) (row_ex3 hl3') (fun n c e => by injection e with e1; cases e1)
  have hbn := hbC0.trans (hc20.mono hbC0.size)
  have hb14n := hbC1.trans (hc20.mono hbC1.size)
  obtain ⟨g17, hg17⟩ : ∃ x, wC.heap.size = x := ⟨_, rfl⟩
  obtain ⟨g18, hg18⟩ : ∃ x, w17.heap.size = x := ⟨_, rfl⟩
  rw [hg17] at ha hs hs19 hl20 hs20
  rw [hg18] at h3r hs19 hl20 hfn
  have HLn : Hid (∀ wx, Below w20.heap.size w20 wx → (Instr.loadAt 54 (pp g17)).run Tryz.prog wx = .ok (msgV (hdC 3) (.slice (some ⟨gC, 0, none⟩) 1 1) (.slice (some ⟨g18, 0, none⟩) 3 3) nilS nilS) wx) := Lib.hid fun wx hx => load_ml (hl20.next hx)
  have HY15 : Hid (∀ wx, Below w20.heap.size w20 wx → wx.cell? ⟨g17, 15, none⟩ = some (.slice (some ⟨g18, 0, none⟩) 3 3)) := Lib.hid fun wx hx => (hl20.next hx).cell 15
  have HFn := Lib.hid hfn
  have H14 := Lib.hid hb14n
  have HM14 : Hid (∀ wx, Below w20.heap.size w20 wx → Below w14.heap.size w14 wx) := Lib.hid fun wx hx => H14.out.trans (hx.mono H14.out.size)
  have HNb := Lib.hid hbn
  have HEnd : Hid (∀ wx, Below w20.heap.size w20 wx → Below w.heap.size w wx) := Lib.hid fun wx hx => HNb.out.trans (hx.mono HNb.out.size)
  obtain ⟨Vb', hVb'⟩ : ∃ V, msgV (qh 1 true 1) (.slice (some ⟨gC, 0, none⟩) 1 1) nilS nilS nilS = V := ⟨_, rfl⟩
  rw [show msgV (qh 1 true 1) (.slice (some ⟨gC, 0, none⟩) 1 1) (.slice none 0 0) (.slice none 0 0) (.slice none 0 0) = Vb' from hVb'] at hs
  rw [hVb']
  obtain ⟨Vn, hVn⟩ : ∃ V, msgV (hdC 3) (.slice (some ⟨gC, 0, none⟩) 1 1) (.slice (some ⟨g18, 0, none⟩) 3 3) nilS nilS = V := ⟨_, rfl⟩
  have hLn := HLn.out
  simp only [hVn] at hLn
  have HLn' := Lib.hid hLn
  have k60 := fun wx (hx : Below w20.heap.size w20 wx) => HC60.out wx _ _ (HFn.out.next hx)
  have k18 := fun wx (hx : Below w20.heap.size w20 wx) => HC18.out wx _ _ (HFn.out.next hx)
  have k99 := fun wx (hx : Below w20.heap.size w20 wx) => HC99.out wx _ _ (HFn.out.next hx)
  simp only [hVn] at k60 k18 k99
  have hsn := fun wx (hx : Below w20.heap.size w20 wx) => mSize_any nM _ _ _ _ wx (HFn.out.next hx)
  have hss := fun wx (hx : Below w20.heap.size w20 wx) => mSame_any nM nM _ _ _ _ _ _ _ _ wx (HFn.out.next hx) (HFn.out.next hx)
  have hsm := fun wx (hx : Below w20.heap.size w20 wx) => mSame_any mM nM _ _ _ _ _ _ _ _ wx (HFm.out.next (HM14.out _ hx)) (HFn.out.next hx)
  have hzm := fun wx (hx : Below w20.heap.size w20 wx) => mSize_any mM _ _ _ _ wx (HFm.out.next (HM14.out _ hx))
  have hkm := fun wx (hx : Below w20.heap.size w20 wx) => mCheck_any mM _ _ _ _ wx (HFm.out.next (HM14.out _ hx))
  rw [ex_10.1] at hsn
  rw [ex_10.2] at hss
  rw [ex_6.2.2] at hsm
  rw [ex_6.2.1] at hzm
  rw [ex_6.1] at hkm
  obtain ⟨Vm, hVm⟩ : ∃ V, msgV (hdC 1) (.slice (some ⟨gB, 0, none⟩) 1 1) nilS nilS nilS = V := ⟨_, rfl⟩
  have hLm := fun wx hx => HLm.out wx (HM14.out wx hx)
  rw [show nM.h = hdC 3 from rfl, hVn] at hsn hss hsm
  rw [show mM.h = hdC 1 from rfl, hVm] at hsm hzm hkm
  simp only [hVm] at hLm
  have HLm' := Lib.hid hLm
  have K60 := Lib.hid k60
  have K18 := Lib.hid k18
  have K99 := Lib.hid k99
  have HSn := Lib.hid hsn
  have HSs := Lib.hid hss
  have HSm := Lib.hid hsm
  have HZm := Lib.hid hzm
  have HKm := Lib.hid hkm
  have HAc := Lib.hid ha
  have HSc := Lib.hid hs
  obtain ⟨VR, hVR⟩ : ∃ V, recV exR nilS = V := ⟨_, rfl⟩
  rw [hVR] at hlr17 h3r
  have HLr17 := Lib.hid hlr17
  have H3r := Lib.hid h3r
  have HS19 := Lib.hid hs19
  have HS20 := Lib.hid hs20
  clear hbC0 hbC1 hlrC ha hs hl hc17 hw17 hwCa hs17 hlr17 h3r hl3 hc18 hl18 hw18 hs19 hl19 hg19 hs20 hl20 hg20 hc19 hc20 hl3' hfn hbn hb14n hVb' hVn hLn k60 k18 k99 hsn hss hsm hzm hkm hVm hLm hfC hbC hg17 hg18 hVR
  go_upto_region 13 with (first | (refine wpList_alloc1 rfl 54 rfl _ HAc.out ?_) | (refine wpList_store1 rfl 54 (.tmp 15) (.tmp 67) rfl _ Vb' rfl rfl HSc.out ?_) | fail)
  simp only [Act.put, List.setIfInBounds_toArray, List.set_cons_succ, List.set_cons_zero]
  go_upto_region 14 with (first | (refine wpList_load1 rfl 32 (.tmp 14) rfl (pp g16) VR (by rfl) HLr17.out ?_) | (simp only [Act.put, List.setIfInBounds_toArray, List.set_cons_succ, List.set_cons_zero]; refine wpList_bs3 rfl 52 (.tmp 68) (.tmp 69) (.tmp 70) rfl VR (.slice (some ⟨g18, 0, none⟩) 3 3) rfl rfl rfl H3r.out ?_) | (refine wpList_store1 rfl 52 (.tmp 72) (.tmp 71) rfl (.pointer (some ⟨g17, 15, none⟩)) (.slice (some ⟨g18, 0, none⟩) 3 3) rfl rfl HS19.out ?_) | fail)
  simp only [Act.put, List.setIfInBounds_toArray, List.set_cons_succ, List.set_cons_zero]
  go_upto_region 15 with (first | (refine wpList_store1 rfl 3 (.tmp 75) (.const (.int .i64 3)) rfl _ _ rfl rfl HS20.out ?_) | fail)
  simp only [Act.put, List.setIfInBounds_toArray, List.set_cons_succ, List.set_cons_zero]
  go_wp2_with (first | (refine wpList_load1 rfl 54 (.tmp 15) rfl _ Vn rfl (HLn'.out _ (Below.refl _ _)) ?_) | fail)
  refine (K60.out _ (Below.refl _ _)).mono ?_
  rintro e wD ⟨rfl, hbD⟩
  have HBD := Lib.hid hbD
  clear hbD
  go_wp2_with fail
  refine (HR5.out _).mono ?_
  rintro e wE ⟨VE, gE, waE, wbE, rfl, haE, hsE, hbE, hiE⟩
  have HIE := Lib.hid (hiE trivial)
  have HAE := Lib.hid haE
  have HSE := Lib.hid hsE
  have HBE := Lib.hid (HBD.out.trans (hbE.mono HBD.out.size))
  clear haE hsE hbE hiE
  go_wp2_with (first | (refine wpList_alloc1 rfl 54 rfl _ HAE.out ?_) | (refine wpList_store1 rfl 54 (.tmp 18) (.tmp 84) rfl _ VE rfl rfl HSE.out ?_) | (refine wpList_load1 rfl 54 (.tmp 15) rfl _ Vn rfl (HLn'.out _ HBE.out) ?_) | fail)
  refine (K18.out _ HBE.out).mono ?_
  rintro e wF ⟨⟨XF, rfl⟩, hbF⟩
  have HBF := Lib.hid (HBE.out.trans (hbF.mono HBE.out.size))
  have HEF := Lib.hid hbF
  clear hbF
  go_wp2_with (first | (refine wpList_load1 rfl 54 (.tmp 15) rfl _ Vn rfl (HLn'.out _ HBF.out) ?_) | fail)
  refine (K99.out _ HBF.out).mono ?_
  rintro e wG ⟨rfl, hbG⟩
  have HBG := Lib.hid (HBF.out.trans (hbG.mono HBF.out.size))
  have HEG := Lib.hid (HEF.out.trans (hbG.mono HEF.out.size))
  clear hbG
  go_upto_region 19 with (fail)
  simp only [List.append_eq, List.cons_append, List.nil_append]
  go_wp2_with (first | (refine wpList_load1h (by rfl) 54 (.tmp 13) rfl _ Vm rfl (HLm'.out _ HBG.out) ?_) | fail)
  refine (HKm.out _ HBG.out).mono ?_
  rintro e wH ⟨rfl, hbH⟩
  have HBH := Lib.hid (HBG.out.trans (hbH.mono HBG.out.size))
  have HEH := Lib.hid (HEG.out.trans (hbH.mono HEG.out.size))
  obtain ⟨y4, AE, cE, y15, hcE⟩ := HIE.out _ HEH.out
  have z15 := HY15.out _ HBH.out
  have h67 := H67.out
  clear hbH hcE
  go_wp2_with (first | (refine wpList_load1h (by rfl) 54 (.tmp 15) rfl _ Vn rfl (HLn'.out _ HBH.out) ?_) | fail)
  refine (HSn.out _ HBH.out).mono ?_
  rintro e wI ⟨rfl, hbI⟩
  have HBI := Lib.hid (HBH.out.trans (hbI.mono HBH.out.size))
  clear hbI y4 y15 z15
  go_wp2_with (first | (refine wpList_load1h (by rfl) 54 (.tmp 13) rfl _ Vm rfl (HLm'.out _ HBI.out) ?_) | fail)
  refine (HZm.out _ HBI.out).mono ?_
  rintro e wJ ⟨rfl, hbJ⟩
  have HBJ := Lib.hid (HBI.out.trans (hbJ.mono HBI.out.size))
  clear hbJ
  go_wp2_with (first | (refine wpList_load1h (by rfl) 54 (.tmp 15) rfl _ Vn rfl (HLn'.out _ HBJ.out) ?_) | fail)
  refine (HSs.out _ HBJ.out).mono ?_
  rintro e wK ⟨rfl, hbK⟩
  have HBK := Lib.hid (HBJ.out.trans (hbK.mono HBJ.out.size))
  clear hbK
  go_wp2_with (first | (refine wpList_load1h (by rfl) 54 (.tmp 13) rfl _ Vm rfl (HLm'.out _ HBK.out) ?_) | (refine wpList_load1h (by rfl) 54 (.tmp 15) rfl _ Vn rfl (HLn'.out _ HBK.out) ?_) | fail)
  refine (HSm.out _ HBK.out).mono ?_
  rintro e wL ⟨rfl, hbL⟩
  have HBL := Lib.hid (HBK.out.trans (hbL.mono HBK.out.size))
  clear hbL
  go_wp2
  go_ret
  exact ⟨rfl, HEnd.out _ HBL.out⟩
end Go.Proofs.YtadeflehdfmilaaGreat
