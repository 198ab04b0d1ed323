/-
  message.questionSize, sum, Size: the walks. Condition: Go can have the message. slices.EqualFunc over questions, over records; message.Same: the walks. Condition: Go can have the messages. slices.EqualFunc over records. Condition: Go can have the rows. message.Same: the walk. Condition: Go can have the messages. message.shortened: what one step does. Condition: as each theorem names it. message.shortened: the walk. Condition: Go can have the message, its rows have at most 65535 records, no more are asked for than there are. message.Same: the walk. Condition: Go can have the messages.
-/
import Derived.Test.YtadeflehdfmilaaGreatZk46
import Derived.Test.YtadeflehdfmilaaGreatZk42
namespace Go.Proofs.YtadeflehdfmilaaGreat
open Go.RowKit Go.Maps
set_option linter.unusedVariables false
set_option maxRecDepth 100000

theorem questionSize_any (q : MQ) (w : World) (hn : q.n.size ≤ maxLen) : Calls Tryz.prog 65 #[questV q] w (Told w (.int .i64 (szQ q : Nat))) := by
  have HS := Lib.hid fun wx => pSize_any q.n wx hn
  have hb := sizeN_most (bs q.n)
  have HV : Hid (szQ q = sizeN (bs q.n) + 4) := Lib.hid rfl
  obtain ⟨a, ha⟩ : ∃ a, sizeN (bs q.n) = a := ⟨_, rfl⟩
  rw [ha] at HS HV hb
  have HB := Lib.hid (boxQ w q)
  clear ha hn
  unfold questV cellsQ at *
  go_enter Tryz.func65, Tryz.ntmps65
  go_wp2_with (go_at_call 78; (with_reducible refine (HS.out _).mono ?_); rintro e w1 ⟨rfl, hb1⟩; have HB1 := Lib.hid (HB.out.trans (hb1.mono HB.out.size)); clear hb1)
  go_ret
  exact ⟨(by rw [HV.out]; rfl), HB1.out⟩
def SumR (w : World) {α : Type} (f : α → Nat) (L : List α) (va vi : Value) (wr : World) : Prop := ∃ k : Nat, va = .int .i64 (sumL f (L.take k) : Nat) ∧ vi = .int .i64 k ∧ k ≤ L.length ∧ Below w.heap.size w wr
set_option maxHeartbeats 2000000 in
theorem sumQ_any (v : Value) (L : List MQ) (w : World) (h : CRow csQ 3 w v L) (hf : ∀ x ∈ L, x.n.size ≤ maxLen) (hl : L.length ≤ 65535) :
    Calls Tryz.prog 64 #[v, .func (.func 65) #[] #[]] w (Told w (.int .i64 (sumL szQ L : Nat))) := by
  obtain ⟨A0, cap0, rfl, hl0, hc0, _⟩ := h.shape
  have hgo : ∀ (args : Array Value) (wx : World), (callFunc 65 args).run Tryz.prog wx = .ok (.enter 65 args) wx := fun args wx => by kernel_rfl
  have HR := Lib.hid h
  have HF := Lib.hid hf
  have HST : Hid (SumR w szQ L (.int .i64 0) (.int .i64 0) w) := Lib.hid ⟨0, rfl, rfl, Nat.zero_le _, Below.refl _ _⟩
  have HMost : Hid (∀ k, sumL szQ (L.take k) ≤ 259 * 65535) := Lib.hid fun k => Nat.le_trans (sumL_le szQ 259 _ fun x _ => by have := sizeN_most (bs x.n); unfold szQ; omega) (Nat.mul_le_mul_left _ (by rw [List.length_take]; omega))
  clear h hf hc0
  go_enter Tryz.func64, Tryz.ntmps64
  go_wp2
  go_loopw [5, 10] (fun va vi wr => SumR w szQ L va vi wr) (fun _ vi _ => L.length - (intOf vi).toNat)
  case atStart => exact HST.out
  case round =>
    clear HST
    obtain ⟨k, rfl, rfl, hk, hb⟩ := hrel
    have HB := Lib.hid hb
    clear hb
    rcases Nat.lt_or_ge k L.length with hlt | hge
    · obtain ⟨g, o, rfl, hc⟩ := HR.out.q_at k hlt
      obtain ⟨c0, c1, c2⟩ := hc _ HB.out
      have hn := HF.out _ (List.getElem_mem hlt)
      have hstep := sumL_take szQ L k hlt
      obtain ⟨x, hx⟩ : ∃ x, x = L[k] := ⟨_, rfl⟩
      rw [← hx] at c0 c1 c2 hn hstep
      have hck := fun wx => questionSize_any x wx hn
      have hz : szQ x ≤ 259 := by have := sizeN_most (bs x.n); unfold szQ; omega
      have hm := HMost.out k
      obtain ⟨z, hzz⟩ : ∃ z, szQ x = z := ⟨_, rfl⟩
      obtain ⟨s, hs⟩ : ∃ s, sumL szQ (L.take k) = s := ⟨_, rfl⟩
      rw [hzz] at hck hz hstep
      rw [hs] at hstep hm ⊢
      have HCk := Lib.hid hck
      have HStep := Lib.hid hstep
      have HBx := Lib.hid fun (o : Obj) wx (hb : Below (wr.alloc o).heap.size (wr.alloc o) wx) => HB.out.trans (((Below.refl _ wr).alloc (Nat.le_refl _) o).trans (hb.mono (by simp)) |>.mono HB.out.size)
      clear hck hn hzz hc hx hs hstep
      go_wp2_with ((with_reducible refine (HCk.out _).mono ?_); rintro e w1 ⟨rfl, hb1⟩; have HB1 := Lib.hid (HBx.out _ _ hb1); clear hb1)
      go_roundw
      case rel => exact ⟨k + 1, by rw [HStep.out]; go_num, by go_num, hlt, HB1.out⟩
      case measure => simp [intOf]; omega
    · obtain rfl : k = L.length := by omega
      have hs := List.take_length (l := L)
      obtain ⟨s, hss⟩ : ∃ s, sumL szQ L = s := ⟨_, rfl⟩
      have HSs := Lib.hid hss
      rw [hs, hss]
      clear hs hss
      go_wp2
      go_ret
      exact ⟨(by rw [HSs.out]; first | done | rfl), HB.out⟩
theorem sizeR_most (r : MR) : sizeR r ≤ 65800 := by
  unfold sizeR
  split
  · exact Nat.zero_le _
  · rename_i h
    have h0 : checkR r = 0 := Decidable.not_not.1 h
    have h1 := sizeN_most (bs r.n)
    have h2 := sizeD_most (checkR_zero h0).2
    omega
set_option maxHeartbeats 2000000 in
theorem sumR_any (v : Value) (L : List RV) (w : World) (h : CRow csR 16 w v L) (hf : ∀ x ∈ L, FitR w x.1 x.2) (hl : L.length ≤ 65535) :
    Calls Tryz.prog 66 #[v, .func (.func 34) #[] #[]] w (Told w (.int .i64 (sumL szRV L : Nat))) := by
  obtain ⟨A0, cap0, rfl, hl0, hc0, _⟩ := h.shape
  have hgo : ∀ (args : Array Value) (wx : World), (callFunc 34 args).run Tryz.prog wx = .ok (.enter 34 args) wx := fun args wx => by kernel_rfl
  have HR := Lib.hid h
  have HF := Lib.hid hf
  have HST : Hid (SumR w szRV L (.int .i64 0) (.int .i64 0) w) := Lib.hid ⟨0, rfl, rfl, Nat.zero_le _, Below.refl _ _⟩
  have HMost : Hid (∀ k, sumL szRV (L.take k) ≤ 65800 * 65535) := Lib.hid fun k => Nat.le_trans (sumL_le szRV 65800 _ fun x _ => sizeR_most x.1) (Nat.mul_le_mul_left _ (by rw [List.length_take]; omega))
  clear h hf hc0
  go_enter Tryz.func66, Tryz.ntmps66
  go_wp2
  go_loopw [5, 10] (fun va vi wr => SumR w szRV L va vi wr) (fun _ vi _ => L.length - (intOf vi).toNat)
  case atStart => exact HST.out
  case round =>
    clear HST
    obtain ⟨k, rfl, rfl, hk, hb⟩ := hrel
    have HB := Lib.hid hb
    clear hb
    rcases Nat.lt_or_ge k L.length with hlt | hge
    · obtain ⟨g, o, rfl, hld⟩ := HR.out.ld_r k hlt
      have hfit := HF.out _ (List.getElem_mem hlt)
      have hstep := sumL_take szRV L k hlt
      obtain ⟨x, hx⟩ : ∃ x, x = L[k] := ⟨_, rfl⟩
      rw [← hx] at hld hfit hstep
      clear hx
      obtain ⟨r, tv⟩ := x
      replace hfit : FitR w r tv := hfit
      obtain ⟨A, cap, htv, _, _⟩ := hfit.d.row.shape
      obtain ⟨n, htv'⟩ : ∃ n, tv = .slice A n cap := ⟨_, htv⟩
      clear htv
      subst htv'
      have hck := fun wx (hb : Below w.heap.size w wx) => rcSize_any r (.slice A n cap) wx (hfit.next hb)
      have hst := store_r r A n cap
      have hl2 := fun wx : World => load_rl (Lies.new wx 32 (cellsR r (.slice A n cap)))
      obtain ⟨C, hC⟩ : ∃ C, cellsR r (.slice A n cap) = C := ⟨_, rfl⟩
      obtain ⟨V, hV⟩ : ∃ V, recV r (.slice A n cap) = V := ⟨_, rfl⟩
      simp only [hV] at hld hck hst hl2
      simp only [hC] at hst hl2
      have hz : sizeR r ≤ 65800 := sizeR_most r
      have hm := HMost.out k
      have hzr : szRV (r, .slice A n cap) = sizeR r := rfl
      rw [hzr] at hstep
      obtain ⟨z, hzz⟩ : ∃ z, sizeR r = z := ⟨_, rfl⟩
      obtain ⟨s, hs⟩ : ∃ s, sumL szRV (L.take k) = s := ⟨_, rfl⟩
      rw [hzz] at hck hz hstep
      rw [hs] at hstep hm ⊢
      have HLd := Lib.hid (hld _ HB.out)
      have HCk := Lib.hid hck
      have HSt := Lib.hid hst
      have HL2 := Lib.hid hl2
      have HStep := Lib.hid hstep
      have HBx := Lib.hid fun (o : Obj) wx (hb : Below (wr.alloc o).heap.size (wr.alloc o) wx) => HB.out.trans (((Below.refl _ wr).alloc (Nat.le_refl _) o).trans (hb.mono (by simp)) |>.mono HB.out.size)
      clear hld hck hst hl2 hfit hV hC hzz hs hstep hzr
      go_wp2_with (first | (refine wpList_load1 rfl 32 (.tmp 12) rfl _ V rfl HLd.out ?_) | (refine wpList_alloc1 rfl 32 rfl _ (alloc_r _) ?_) | (refine wpList_store1 rfl 32 (.tmp 7) (.tmp 13) rfl _ V rfl rfl (HSt.out _) ?_) | (refine wpList_load1 rfl 32 (.tmp 7) rfl _ V rfl (HL2.out _) ?_) | ((with_reducible refine (HCk.out _ (HB.out.alloc HB.out.size _)).mono ?_); rintro e w1 ⟨rfl, hb1⟩; have HB1 := Lib.hid (HBx.out _ _ hb1); clear hb1))
      go_roundw
      case rel => exact ⟨k + 1, by rw [HStep.out]; go_num, by go_num, hlt, HB1.out⟩
      case measure => simp [intOf]; omega
    · obtain rfl : k = L.length := by omega
      have hs := List.take_length (l := L)
      obtain ⟨s, hss⟩ : ∃ s, sumL szRV L = s := ⟨_, rfl⟩
      have HSs := Lib.hid hss
      rw [hs, hss]
      clear hs hss
      go_wp2
      go_ret
      exact ⟨(by rw [HSs.out]; first | done | rfl), HB.out⟩
/-- The sizes of the rows ahead of the j-th. -/
def sumTo (m : MM) : Nat → Nat
  | 0 => 12 + sumL szQ m.q
  | j + 1 => sumTo m j + sumL szRV (rowAt m j)
def SzR (W : World) (m : MM) (va vi : Value) (wr : World) : Prop := ∃ j : Nat, va = .int .i64 (sumTo m j : Nat) ∧ vi = .int .i64 j ∧ j ≤ 3 ∧ Below W.heap.size W wr
set_option maxHeartbeats 2000000 in
theorem mSize_any (m : MM) (vq va vu vm : Value) (w : World) (hf : FitM w m vq va vu vm) :
    Calls Tryz.prog 23 #[msgV m.h vq va vu vm] w (Told w (.int .i64 (sizeM m : Nat))) := by
  have HCk := Lib.hid fun wx (hb : Below w.heap.size w wx) => mCheck_any m vq va vu vm wx (hf.next hb)
  obtain ⟨Aq, cq, Aa, ca, Au, cu, Am, cm, rfl, rfl, rfl, rfl, _⟩ := hf.shapes
  obtain ⟨C, hC⟩ : ∃ C, cellsM m.h (.slice Aq m.q.length cq) (.slice Aa m.a.length ca) (.slice Au m.u.length cu) (.slice Am m.m.length cm) = C := ⟨_, rfl⟩
  obtain ⟨V, hV⟩ : ∃ V, msgV m.h (.slice Aq m.q.length cq) (.slice Aa m.a.length ca) (.slice Au m.u.length cu) (.slice Am m.m.length cm) = V := ⟨_, rfl⟩
  have hbx := box_m m.h Aq Aa Au Am m.q.length m.a.length m.u.length m.m.length cq ca cu cm w
  obtain ⟨W, hW⟩ : ∃ W, W = w.alloc (.cells C 54) := ⟨_, rfl⟩
  rw [hC, hV, ← hW] at hbx
  rw [hV] at HCk ⊢
  have hB0 : Below w.heap.size w W := by rw [hW]; exact (Below.refl _ _).alloc (Nat.le_refl _) _
  have hL0 : Lies W w.heap.size 54 C := by rw [hW]; exact Lies.new _ _ _
  have HL : Hid (∀ wx, Below W.heap.size W wx → Lies wx w.heap.size 54 (cellsM m.h (.slice Aq m.q.length cq) (.slice Aa m.a.length ca) (.slice Au m.u.length cu) (.slice Am m.m.length cm))) := Lib.hid fun wx hb => by rw [hC]; exact hL0.next hb
  have HLdV : Hid (∀ wx, Below W.heap.size W wx → (Instr.loadAt 54 (pp w.heap.size)).run Tryz.prog wx = .ok V wx) := Lib.hid fun wx hb => by rw [← hV]; exact load_ml (HL.out wx hb)
  have HB0 := Lib.hid hB0
  have HBx := Lib.hid hbx
  have HF := Lib.hid hf
  have HRow := Lib.hid (hf.row (t := 54) HL.out)
  have HRo := Lib.hid fun wx => rowsOf_any w.heap.size wx
  have HV : Hid (sizeM m = if checkM m ≠ 0 then 0 else sumTo m 3) := Lib.hid rfl
  obtain ⟨c, hc⟩ : ∃ c, checkM m = c := ⟨_, rfl⟩
  rw [hc] at HCk HV
  have HC := Lib.hid hc
  have HEnt : Hid (∀ wx, Below W.heap.size W wx → Below w.heap.size w wx) := Lib.hid fun wx hb => HB0.out.trans (hb.mono HB0.out.size)
  clear hL0 hB0 hf hbx hC hV hW hc
  by_cases hz : c = 0
  · subst hz
    have hne : ((((0 : Nat) : Nat) : Int) != 0) = false := rfl
    have hok := checkM_zero.1 HC.out
    have hlens : m.q.length ≤ 65535 ∧ ∀ j, j < 3 → (rowAt m j).length ≤ 65535 := by
      have n0 := hok.may.n0; have n1 := hok.may.n1; have n2 := hok.may.n2; have n3 := hok.may.n3
      rw [hok.n0] at n0; rw [hok.n1] at n1; rw [hok.n2] at n2; rw [hok.n3] at n3
      refine ⟨by omega, fun j hj => ?_⟩
      obtain rfl | rfl | rfl : j = 0 ∨ j = 1 ∨ j = 2 := by omega
      · show m.a.length ≤ _; omega
      · show m.u.length ≤ _; omega
      · show m.m.length ≤ _; omega
    have HLens := Lib.hid hlens
    have HSq := Lib.hid fun wx (hb : Below w.heap.size w wx) => sumQ_any _ _ wx (HF.out.q.below hb) HF.out.qs hlens.1
    have HTo : Hid (∀ j, j ≤ 3 → sumTo m j ≤ 13000000000) := Lib.hid fun j hj => by
      have q1 : sumL szQ m.q ≤ 259 * 65535 := Nat.le_trans (sumL_le szQ 259 _ fun x _ => by have := sizeN_most (bs x.n); unfold szQ; omega) (Nat.mul_le_mul_left _ hlens.1)
      have r1 : ∀ j, j < 3 → sumL szRV (rowAt m j) ≤ 65800 * 65535 := fun j hj => Nat.le_trans (sumL_le szRV 65800 _ fun x _ => sizeR_most x.1) (Nat.mul_le_mul_left _ (hlens.2 j hj))
      have a0 := r1 0 (by decide); have a1 := r1 1 (by decide); have a2 := r1 2 (by decide)
      have e0 : sumTo m 0 = 12 + sumL szQ m.q := rfl
      have e1 : sumTo m 1 = sumTo m 0 + sumL szRV (rowAt m 0) := rfl
      have e2 : sumTo m 2 = sumTo m 1 + sumL szRV (rowAt m 1) := rfl
      have e3 : sumTo m 3 = sumTo m 2 + sumL szRV (rowAt m 2) := rfl
      obtain rfl | rfl | rfl | rfl : j = 0 ∨ j = 1 ∨ j = 2 ∨ j = 3 := by omega
      all_goals omega
    have hq0 := HTo.out 0 (by decide)
    have hS0 : sumTo m 0 = 12 + sumL szQ m.q := rfl
    obtain ⟨sq, hsq⟩ : ∃ s, sumL szQ m.q = s := ⟨_, rfl⟩
    rw [hS0, hsq] at hq0
    rw [hsq] at hS0 HSq
    have HS0 := Lib.hid hS0
    clear hlens hok hsq hS0
    go_enter Tryz.func23, Tryz.ntmps23
    go_wp2_with (first | (refine wpList_box1 rfl 54 (.tmp 0) rfl V _ rfl HBx.out ?_) | (refine wpList_load1 rfl 54 (.tmp 1) rfl _ V rfl (HLdV.out _ (Below.refl _ _)) ?_) | (go_at_call 22; (with_reducible refine (HCk.out _ HB0.out).mono ?_); rintro e w1 ⟨rfl, hb1⟩; have HB1 := Lib.hid hb1; have y14 := (HL.out _ hb1).cell 14; clear hb1) | (go_at_call 64; (with_reducible refine (HSq.out _ (HEnt.out _ HB1.out)).mono ?_); rintro e w3 ⟨rfl, hb3⟩; have HB3 := Lib.hid (HB1.out.trans (hb3.mono HB1.out.size)); clear hb3) | (go_at_call 62; (with_reducible refine (HRo.out _).mono ?_); rintro e w4 ⟨rfl, hb4⟩; have HB4 := Lib.hid (HB3.out.trans (hb4.mono HB3.out.size)); clear hb4))
    have HST : Hid (SzR W m (.int .i64 (12 + (sq : Int))) (.int .i64 0) w4) := Lib.hid ⟨0, by rw [HS0.out]; go_num, rfl, by decide, HB4.out⟩
    clear hq0 hne
    go_loopw [3, 14] (fun va vi wr => SzR W m va vi wr) (fun _ vi _ => 3 - (intOf vi).toNat)
    case atStart => exact HST.out
    case round =>
      clear HST
      obtain ⟨j, rfl, rfl, hj, hb⟩ := hrel
      have HB := Lib.hid hb
      clear hb
      rcases Nat.lt_or_ge j 3 with hlt | hge
      · obtain ⟨A, cc, hrow, hcell, hidx, hfit, hlen⟩ := HRow.out j hlt
        have hy := hcell _ HB.out
        have hsm := sumR_any _ _ wr (hrow.below (HEnt.out _ HB.out)) (fun x hx => (hfit x hx).next (HEnt.out _ HB.out)) (HLens.out.2 j hlt)
        have hnx : sumTo m (j + 1) = sumTo m j + sumL szRV (rowAt m j) := rfl
        have t1 := HTo.out j hj
        have t2 := HTo.out (j + 1) hlt
        rw [hnx] at t2
        obtain ⟨L, hL⟩ : ∃ L, rowAt m j = L := ⟨_, rfl⟩
        rw [hL] at hy hsm hnx t2 hlen
        obtain ⟨z, hzz⟩ : ∃ z, sumL szRV L = z := ⟨_, rfl⟩
        obtain ⟨s, hss⟩ : ∃ z, sumTo m j = z := ⟨_, rfl⟩
        rw [hzz] at hsm hnx t2
        rw [hss] at hnx t1 t2 ⊢
        have HSm := Lib.hid hsm
        have HNx := Lib.hid hnx
        clear hrow hcell hfit hsm hnx hL hzz hss
        go_wp2_with (go_at_call 66; (with_reducible refine HSm.out.mono ?_); rintro e w5 ⟨rfl, hb5⟩; have HB5 := Lib.hid (HB.out.trans (hb5.mono HB.out.size)); clear hb5)
        go_roundw
        case rel => exact ⟨j + 1, by rw [HNx.out]; go_num, by go_num, hlt, HB5.out⟩
        case measure => simp [intOf]; omega
      · obtain rfl : j = 3 := by omega
        obtain ⟨s, hss⟩ : ∃ z, sumTo m 3 = z := ⟨_, rfl⟩
        have HSs := Lib.hid hss
        rw [hss]
        clear hss
        go_wp2
        go_ret
        exact ⟨(by rw [HV.out, if_neg (fun h => h rfl), HSs.out]; first | done | rfl), HEnt.out _ HB.out⟩
  · have hne : (((c : Nat) : Int) != 0) = true := by simpa using hz
    go_enter Tryz.func23, Tryz.ntmps23
    go_wp2_with (first | (refine wpList_box1 rfl 54 (.tmp 0) rfl V _ rfl HBx.out ?_) | (refine wpList_load1 rfl 54 (.tmp 1) rfl _ V rfl (HLdV.out _ (Below.refl _ _)) ?_) | (go_at_call 22; (with_reducible refine (HCk.out _ HB0.out).mono ?_); rintro e w1 ⟨rfl, hb1⟩; have HB1 := Lib.hid hb1; clear hb1))
    go_ret
    exact ⟨(by rw [HV.out, if_pos hz]; first | done | rfl), HEnt.out _ HB1.out⟩
end Go.Proofs.YtadeflehdfmilaaGreat
namespace Go.Proofs.YtadeflehdfmilaaGreat
open Go.RowKit Go.Maps
set_option linter.unusedVariables false
set_option maxRecDepth 100000

def EqR (w : World) {α : Type} (f : α → α → Bool) (L K : List α) (vi : Value) (wr : World) : Prop := ∃ k : Nat, vi = .int .i64 k ∧ k ≤ L.length ∧ eqL f (L.drop k) (K.drop k) = eqL f L K ∧ Below w.heap.size w wr
theorem eqL_ne {α : Type} {f : α → α → Bool} {L K : List α} (h : L.length ≠ K.length) : eqL f L K = false := by
  cases he : eqL f L K with
  | false => rfl
  | true => exact absurd (eqL_len he) h
set_option maxHeartbeats 2000000 in
theorem eqQ_any (v u : Value) (L K : List MQ) (w : World) (h : CRow csQ 3 w v L) (h' : CRow csQ 3 w u K) :
    Calls Tryz.prog 67 #[v, u, .func (.func 68) #[] #[]] w (Told w (.bool (eqL sameQ L K))) := by
  obtain ⟨A0, cap0, rfl, hl0, hc0, _⟩ := h.shape
  obtain ⟨A1, cap1, rfl, hl1, hc1, _⟩ := h'.shape
  have hgo : ∀ (args : Array Value) (wx : World), (callFunc 68 args).run Tryz.prog wx = .ok (.enter 68 args) wx := fun args wx => by kernel_rfl
  have HR := Lib.hid h
  have HR' := Lib.hid h'
  unfold maxLen at hc0 hc1
  clear h h'
  by_cases hlen : L.length = K.length
  · have hd : ((L.length : Int) != (K.length : Int)) = false := by rw [hlen]; simp
    have HLen := Lib.hid hlen
    obtain ⟨R, hR⟩ : ∃ R, eqL sameQ L K = R := ⟨_, rfl⟩
    have HST : Hid (EqR w sameQ L K (.int .i64 0) w) := Lib.hid ⟨0, rfl, Nat.zero_le _, rfl, Below.refl _ _⟩
    have HRR := Lib.hid hR
    rw [hR]
    clear hlen hR
    go_enter Tryz.func67, Tryz.ntmps67
    go_wp2
    go_loopw [17] (fun vi wr => EqR w sameQ L K vi wr) (fun vi _ => L.length - (intOf vi).toNat)
    case atStart => exact HST.out
    case round =>
      clear HST
      obtain ⟨k, rfl, hk, hd0, hb⟩ := hrel
      have HD := Lib.hid hd0
      have HB := Lib.hid hb
      clear hd0 hb
      rcases Nat.lt_or_ge k L.length with hlt | hge
      · have hlt' : k < K.length := by rw [← HLen.out]; exact hlt
        obtain ⟨g, o, rfl, hc⟩ := HR.out.q_at k hlt
        obtain ⟨g', o', rfl, hc'⟩ := HR'.out.q_at k hlt'
        obtain ⟨c0, c1, c2⟩ := hc _ HB.out
        obtain ⟨e0, e1, e2⟩ := hc' _ (HB.out.alloc HB.out.size (.cells (cellsQ L[k]) 84))
        have hdr := eqL_drop (f := sameQ) hlt hlt'
        obtain ⟨x, hx⟩ : ∃ x, x = L[k] := ⟨_, rfl⟩
        obtain ⟨y, hy⟩ : ∃ y, y = K[k] := ⟨_, rfl⟩
        rw [← hx] at c0 c1 c2 hdr e0 e1 e2
        rw [← hy] at e0 e1 e2 hdr
        unfold cellsQ at e0 e1 e2
        have hck := fun wx => rcSameQ_any x y wx
        obtain ⟨c, hcc⟩ : ∃ c, sameQ x y = c := ⟨_, rfl⟩
        rw [hcc] at hck hdr
        have HCk := Lib.hid hck
        have HDr := Lib.hid hdr
        have HBx := Lib.hid fun (o p : Obj) wx (hb : Below ((wr.alloc o).alloc p).heap.size ((wr.alloc o).alloc p) wx) => HB.out.trans (((below2 wr o p).trans (hb.mono (below2 wr o p).size)).mono HB.out.size)
        clear hck hdr hcc hc hc' hx hy
        cases c
        · go_wp2_with ((with_reducible refine (HCk.out _).mono ?_); rintro e w1 ⟨rfl, hb1⟩; have HB1 := Lib.hid (HBx.out _ _ _ hb1); clear hb1)
          go_ret
          exact ⟨(by rw [← HRR.out, ← HD.out, HDr.out]; first | done | rfl), HB1.out⟩
        · go_wp2_with ((with_reducible refine (HCk.out _).mono ?_); rintro e w1 ⟨rfl, hb1⟩; have HB1 := Lib.hid (HBx.out _ _ _ hb1); clear hb1)
          go_roundw
          case rel => exact ⟨k + 1, by go_num, hlt, by rw [← HD.out, HDr.out]; rfl, HB1.out⟩
          case measure => simp [intOf]; omega
      · obtain rfl : k = L.length := by omega
        have hR1 : R = true := by rw [← HRR.out, ← HD.out, List.drop_length, List.drop_of_length_le (Nat.le_of_eq HLen.out.symm)]; rfl
        subst hR1
        go_wp2
        go_ret
        exact ⟨rfl, HB.out⟩
  · have hd : ((L.length : Int) != (K.length : Int)) = true := by simpa using (by omega : (L.length : Int) ≠ (K.length : Int))
    rw [eqL_ne hlen]
    clear hlen
    go_enter Tryz.func67, Tryz.ntmps67
    go_wp2
    go_ret
    exact ⟨rfl, Below.refl _ _⟩
end Go.Proofs.YtadeflehdfmilaaGreat
namespace Go.Proofs.YtadeflehdfmilaaGreat
open Go.RowKit Go.Maps
set_option linter.unusedVariables false
set_option maxRecDepth 100000

/-- Two records laid one behind the other. -/
theorem two_r (wr : World) (x y : MR) (A B : Option Addr) (n k cap kap : Nat) : ∃ u1 u2 wa wb wc wd V1 V2, recV x (.slice A n cap) = V1 ∧ recV y (.slice B k kap) = V2 ∧ (Instr.alloc 32 true (.tuple #[])).run Tryz.prog wr = .ok u1 wa ∧ (Instr.storeAt 32 u1 V1).run Tryz.prog wa = .ok () wb ∧ Below wr.heap.size wr wb ∧ (Instr.alloc 32 true (.tuple #[])).run Tryz.prog wb = .ok u2 wc ∧ (Instr.storeAt 32 u2 V2).run Tryz.prog wc = .ok () wd ∧
    (Instr.loadAt 32 u1).run Tryz.prog wd = .ok V1 wd ∧ (Instr.loadAt 32 u2).run Tryz.prog wd = .ok V2 wd ∧ Below wr.heap.size wr wd := by
  refine ⟨_, _, _, wr.alloc (.cells (cellsR x (.slice A n cap)) 32), _, (wr.alloc (.cells (cellsR x (.slice A n cap)) 32)).alloc (.cells (cellsR y (.slice B k kap)) 32), _, _, rfl, rfl, alloc_r wr, store_r x A n cap wr, (Below.refl _ _).alloc (Nat.le_refl _) _, alloc_r (wr.alloc _), store_r y B k kap (wr.alloc _), ?_, ?_, below2 _ _ _⟩
  · exact load_rl ((Lies.new wr 32 (cellsR x (.slice A n cap))).alloc _)
  · exact load_rl (Lies.new _ _ _)
set_option maxHeartbeats 2000000 in
theorem eqR_any (v u : Value) (L K : List RV) (w : World) (h : CRow csR 16 w v L) (h' : CRow csR 16 w u K) (hf : ∀ x ∈ L, FitR w x.1 x.2) (hf' : ∀ x ∈ K, FitR w x.1 x.2) :
    Calls Tryz.prog 69 #[v, u, .func (.func 70) #[] #[]] w (Told w (.bool (eqL sameRV L K))) := by
  obtain ⟨A0, cap0, rfl, hl0, hc0, _⟩ := h.shape
  obtain ⟨A1, cap1, rfl, hl1, hc1, _⟩ := h'.shape
  have hgo : ∀ (args : Array Value) (wx : World), (callFunc 70 args).run Tryz.prog wx = .ok (.enter 70 args) wx := fun args wx => by kernel_rfl
  have HR := Lib.hid h
  have HR' := Lib.hid h'
  have HF := Lib.hid hf
  have HF' := Lib.hid hf'
  unfold maxLen at hc0 hc1
  clear h h' hf hf'
  by_cases hlen : L.length = K.length
  · have hd : ((L.length : Int) != (K.length : Int)) = false := by rw [hlen]; simp
    have HLen := Lib.hid hlen
    obtain ⟨R, hR⟩ : ∃ R, eqL sameRV L K = R := ⟨_, rfl⟩
    have HST : Hid (EqR w sameRV L K (.int .i64 0) w) := Lib.hid ⟨0, rfl, Nat.zero_le _, rfl, Below.refl _ _⟩
    have HRR := Lib.hid hR
    rw [hR]
    clear hlen hR
    go_enter Tryz.func69, Tryz.ntmps69
    go_wp2
    go_loopw [17] (fun vi wr => EqR w sameRV L K vi wr) (fun vi _ => L.length - (intOf vi).toNat)
    case atStart => exact HST.out
    case round =>
      clear HST
      obtain ⟨k, rfl, hk, hd0, hb⟩ := hrel
      have HD := Lib.hid hd0
      have HB := Lib.hid hb
      clear hd0 hb
      rcases Nat.lt_or_ge k L.length with hlt | hge
      · have hlt' : k < K.length := by rw [← HLen.out]; exact hlt
        obtain ⟨g, o, rfl, hld⟩ := HR.out.ld_r k hlt
        obtain ⟨g', o', rfl, hld'⟩ := HR'.out.ld_r k hlt'
        have hfit := HF.out _ (List.getElem_mem hlt)
        have hfit' := HF'.out _ (List.getElem_mem hlt')
        have hdr := eqL_drop (f := sameRV) hlt hlt'
        obtain ⟨x, hx⟩ : ∃ x, x = L[k] := ⟨_, rfl⟩
        obtain ⟨y, hy⟩ : ∃ y, y = K[k] := ⟨_, rfl⟩
        rw [← hx] at hld hdr hfit
        rw [← hy] at hld' hdr hfit'
        clear hx hy
        obtain ⟨r, tv⟩ := x
        obtain ⟨r', tv'⟩ := y
        replace hfit : FitR w r tv := hfit
        replace hfit' : FitR w r' tv' := hfit'
        obtain ⟨A, cap, htv, _, _⟩ := hfit.d.row.shape
        obtain ⟨n, htv1⟩ : ∃ n, tv = .slice A n cap := ⟨_, htv⟩
        clear htv
        subst htv1
        obtain ⟨A', cap', htv, _, _⟩ := hfit'.d.row.shape
        obtain ⟨n', htv1⟩ : ∃ n', tv' = .slice A' n' cap' := ⟨_, htv⟩
        clear htv
        subst htv1
        obtain ⟨u1, u2, wa, wb, wc, wd, V1, V2, hV1, hV2, ha1, hs1, hb1, ha2, hs2, hl1, hl2, hb2⟩ := two_r wr r r' A A' n n' cap cap'
        have hbd := HB.out.trans (hb2.mono HB.out.size)
        have hck := rcSame_any r r' (.slice A n cap) (.slice A' n' cap') wd (hfit.next hbd) (hfit'.next hbd)
        have hx1 := hld _ HB.out
        have hx2 := hld' _ (HB.out.trans (hb1.mono HB.out.size))
        clear hld hld'
        rw [hV1, hV2] at hck
        rw [hV1] at hx1
        rw [hV2] at hx2
        replace hdr : eqL sameRV (L.drop k) (K.drop k) = (sameR r r' && eqL sameRV (L.drop (k + 1)) (K.drop (k + 1))) := hdr
        obtain ⟨c, hcc⟩ : ∃ c, sameR r r' = c := ⟨_, rfl⟩
        rw [hcc] at hck hdr
        have HLd1 := Lib.hid hx1
        have HLd2 := Lib.hid hx2
        have HA1 := Lib.hid ha1
        have HA2 := Lib.hid ha2
        have HS1 := Lib.hid hs1
        have HS2 := Lib.hid hs2
        have HL1 := Lib.hid hl1
        have HL2 := Lib.hid hl2
        have HCk := Lib.hid hck
        have HDr := Lib.hid hdr
        have HBx := Lib.hid fun wx (hb : Below wd.heap.size wd wx) => hbd.trans (hb.mono hbd.size)
        clear hx1 hx2 ha1 ha2 hs1 hs2 hl1 hl2 hck hdr hcc hbd hb1 hb2 hfit hfit' hV1 hV2
        cases c
        · go_wp2_with (first | (refine wpList_load1 rfl 32 (.tmp 20) rfl _ V1 rfl HLd1.out ?_) | (refine wpList_alloc1 rfl 32 rfl u1 HA1.out ?_) | (refine wpList_store1 rfl 32 (.tmp 8) (.tmp 21) rfl u1 V1 rfl rfl HS1.out ?_) | (refine wpList_load1 rfl 32 (.tmp 24) rfl _ V2 rfl HLd2.out ?_) | (refine wpList_alloc1 rfl 32 rfl u2 HA2.out ?_) | (refine wpList_store1 rfl 32 (.tmp 9) (.tmp 25) rfl u2 V2 rfl rfl HS2.out ?_) | (refine wpList_load1 rfl 32 (.tmp 8) rfl u1 V1 rfl HL1.out ?_) | (refine wpList_load1 rfl 32 (.tmp 9) rfl u2 V2 rfl HL2.out ?_) | ((with_reducible refine HCk.out.mono ?_); rintro e w1 ⟨rfl, hb1⟩; have HB1 := Lib.hid (HBx.out _ hb1); clear hb1))
          go_ret
          exact ⟨(by rw [← HRR.out, ← HD.out, HDr.out]; first | done | rfl), HB1.out⟩
        · go_wp2_with (first | (refine wpList_load1 rfl 32 (.tmp 20) rfl _ V1 rfl HLd1.out ?_) | (refine wpList_alloc1 rfl 32 rfl u1 HA1.out ?_) | (refine wpList_store1 rfl 32 (.tmp 8) (.tmp 21) rfl u1 V1 rfl rfl HS1.out ?_) | (refine wpList_load1 rfl 32 (.tmp 24) rfl _ V2 rfl HLd2.out ?_) | (refine wpList_alloc1 rfl 32 rfl u2 HA2.out ?_) | (refine wpList_store1 rfl 32 (.tmp 9) (.tmp 25) rfl u2 V2 rfl rfl HS2.out ?_) | (refine wpList_load1 rfl 32 (.tmp 8) rfl u1 V1 rfl HL1.out ?_) | (refine wpList_load1 rfl 32 (.tmp 9) rfl u2 V2 rfl HL2.out ?_) | ((with_reducible refine HCk.out.mono ?_); rintro e w1 ⟨rfl, hb1⟩; have HB1 := Lib.hid (HBx.out _ hb1); clear hb1))
          go_roundw
          case rel => exact ⟨k + 1, by go_num, hlt, by rw [← HD.out, HDr.out]; rfl, HB1.out⟩
          case measure => simp [intOf]; omega
      · obtain rfl : k = L.length := by omega
        have hR1 : R = true := by rw [← HRR.out, ← HD.out, List.drop_length, List.drop_of_length_le (Nat.le_of_eq HLen.out.symm)]; rfl
        subst hR1
        go_wp2
        go_ret
        exact ⟨rfl, HB.out⟩
  · have hd : ((L.length : Int) != (K.length : Int)) = true := by simpa using (by omega : (L.length : Int) ≠ (K.length : Int))
    rw [eqL_ne hlen]
    clear hlen
    go_enter Tryz.func69, Tryz.ntmps69
    go_wp2
    go_ret
    exact ⟨rfl, Below.refl _ _⟩
end Go.Proofs.YtadeflehdfmilaaGreat
namespace Go.Proofs.YtadeflehdfmilaaGreat
open Go.RowKit Go.Maps
set_option linter.unusedVariables false
set_option maxRecDepth 100000

theorem wpList_bin1 {ops : Array Oper} {rest : List Oper} {o : Oper} {a : Act} {w w' : World} {Q : Exit → Act → World → Prop} (hgd : o.guard = none) (op : BinOp) (t rt : TypeId) (x y : Operand) (ho : o.op = .binOp op t x y rt) (V1 V2 u : Value) (hx : a.eval x = V1) (hy : a.eval y = V2) (hb : (do eqGuard op t x y V1 V2; binOp op t V1 V2 : Sem Value).run Tryz.prog w = .ok u w')
    (h : wpList Tryz.prog ops Q rest (a.put o.dst u) w') : wpList Tryz.prog ops Q (o :: rest) a w := by
  refine wpList_plain hgd fun K hK => ?_
  unfold Oper.wp execOp
  simp only [ho, hx, hy, Sem.run_bind, Sem.run_pure] at hb ⊢
  rw [hb]
  simp only [Result.andThen_ok]
  exact hK _ _ h
theorem hd_neq_op (a b : Hd) (x y : Operand) (w : World) : (do eqGuard .neq 50 x y (hv a) (hv b); binOp .neq 50 (hv a) (hv b) : Sem Value).run Tryz.prog w = .ok (.bool (!decide (a = b))) w := by
  have h1 := hd_neq a b w
  have h2 : (eqGuard .neq 50 x y (hv a) (hv b)).run Tryz.prog w = .ok () w := by
    unfold hv
    apply run_eqGuard_agg; kernel_rfl
  rw [Sem.run_bind, h2]
  exact h1
theorem alloc_rows (w : World) : (Instr.alloc 115 true (.tuple #[])).run Tryz.prog w = .ok (pp w.heap.size) (w.alloc (.cells #[.pointer none, .pointer none, .pointer none] 115)) := by
  go_simp
theorem store_rows (g : Nat) (w : World) : (Instr.storeAt 115 (pp w.heap.size) (rowsV g)).run Tryz.prog (w.alloc (.cells #[.pointer none, .pointer none, .pointer none] 115)) = .ok () (w.alloc (.cells #[.pointer (some ⟨g, 15, none⟩), .pointer (some ⟨g, 16, none⟩), .pointer (some ⟨g, 17, none⟩)] 115)) := by
  go_simp
theorem rows_at {w : World} {g gb j : Nat} (h : Lies w g 115 #[.pointer (some ⟨gb, 15, none⟩), .pointer (some ⟨gb, 16, none⟩), .pointer (some ⟨gb, 17, none⟩)]) (hj : j < 3) : w.cell? ⟨g, j, none⟩ = some (.pointer (some ⟨gb, 15 + j, none⟩)) := by
  obtain rfl | rfl | rfl : j = 0 ∨ j = 1 ∨ j = 2 := by omega
  · exact h.cell 0
  · exact h.cell 1
  · exact h.cell 2
theorem rows_ix (g j : Nat) (hj : j < 3) (w : World) : (Instr.indexAt 115 (pp g) (.int .i64 (j : Int))).run Tryz.prog w = .ok (.pointer (some ⟨g, j, none⟩)) w := by
  obtain rfl | rfl | rfl : j = 0 ∨ j = 1 ∨ j = 2 := by omega
  all_goals go_simp
def rows3 (m : MM) : List (List RV) := [m.a, m.u, m.m]
theorem rows3_at (m : MM) {j : Nat} (h : j < 3) : (rows3 m).drop j = rowAt m j :: (rows3 m).drop (j + 1) := by
  obtain rfl | rfl | rfl : j = 0 ∨ j = 1 ∨ j = 2 := by omega
  all_goals rfl
theorem sameM_rows (a b : MM) : sameM a b = (decide (a.h = b.h) && (eqL sameQ a.q b.q && eqL (eqL sameRV) (rows3 a) (rows3 b))) := by
  unfold sameM rows3
  simp [eqL]
end Go.Proofs.YtadeflehdfmilaaGreat
namespace Go.Proofs.YtadeflehdfmilaaGreat
open Go.RowKit Go.Maps
set_option linter.unusedVariables false
set_option maxRecDepth 100000

theorem CRow.take {α : Type} {cs : α → List Value} {k : Nat} {w : World} {A : Option Addr} {n cap : Nat} {L : List α} (h : CRow cs k w (.slice A n cap) L) (r : Nat) (hr : r ≤ L.length) : CRow cs k w (.slice A r cap) (L.take r) := by
  obtain ⟨A', cap', h1, h2, h3, h4⟩ := h.shape
  injection h1 with h1 _ h5
  subst h1 h5
  have hl : (L.take r).length = r := by rw [List.length_take]; omega
  refine ⟨A, cap, by rw [hl], by omega, h3, fun j hj => ?_⟩
  obtain ⟨g, o, e1, e2, e3⟩ := h4 j (by omega)
  refine ⟨g, o, e1, e2, ?_⟩
  rw [List.getElem_take]
  exact e3
theorem slice_row (A : Option Addr) (n cap r : Nat) (hr : r ≤ cap) (w : World) (hn : A = none → cap = 0) : (Instr.sliceAt 52 (.slice A n cap) none (some (.int .i64 (r : Int))) none).run Tryz.prog w = .ok (.slice A r cap) w := by
  cases A with
  | none =>
    have : cap = 0 := hn rfl
    subst this
    obtain rfl : r = 0 := by omega
    go_simp
  | some a =>
    have h1 : (r : Int) ≤ (cap : Int) := by omega
    go_simp
theorem store_tc {w : World} {g : Nat} {h : Hd} {vq va vu vm : Value} (l : Lies w g 54 (cellsM h vq va vu vm)) (b : Bool) : ∃ w', (Instr.storeAt 4 (.pointer (some ⟨g, 4, none⟩)) (.bool b)).run Tryz.prog w = .ok () w' ∧ Lies w' g 54 (cellsM { h with tc := b } vq va vu vm) ∧ w.grownBy w' (some g) := by
  have hc := (liesM l).1.2.2.2.2.1
  have hf := l.free 4
  refine ⟨w.setCell ⟨g, 4, none⟩ (.bool b), ?_, l.set 4 _, grown_set (base := 0) w g 4 _⟩
  clear l
  go_simp
theorem store_cnt {w : World} {g : Nat} {h : Hd} {vq va vu vm : Value} (l : Lies w g 54 (cellsM h vq va vu vm)) (a b c d : Int) : ∃ w', (Instr.storeAt 48 (.pointer (some ⟨g, 10, none⟩)) (intsV a b c d)).run Tryz.prog w = .ok () w' ∧ Lies w' g 54 (cellsM { h with n0 := a, n1 := b, n2 := c, n3 := d } vq va vu vm) ∧ w.grownBy w' (some g) := by
  have c0 := (liesM l).1.2.2.2.2.2.2.2.2.2.2.1
  have c1 := (liesM l).1.2.2.2.2.2.2.2.2.2.2.2.1
  have c2 := (liesM l).1.2.2.2.2.2.2.2.2.2.2.2.2.1
  have c3 := (liesM l).1.2.2.2.2.2.2.2.2.2.2.2.2.2
  have f0 := l.free 10
  have f1 := l.free 11
  have f2 := l.free 12
  have f3 := l.free 13
  refine ⟨(((w.setCell ⟨g, 10, none⟩ (.int .i64 a)).setCell ⟨g, 11, none⟩ (.int .i64 b)).setCell ⟨g, 12, none⟩ (.int .i64 c)).setCell ⟨g, 13, none⟩ (.int .i64 d), ?_, (((l.set 10 _).set 11 _).set 12 _).set 13 _, grown_next (grown_next (grown_next (grown_set (base := 0) w g 10 _) (grown_set (base := 0) _ g 11 _)) (grown_set (base := 0) _ g 12 _)) (grown_set (base := 0) _ g 13 _)⟩
  clear l
  unfold intsV
  go_simp
theorem store_rw {w : World} {g : Nat} {h : Hd} {vq : Value} {r : Nat → Value} (l : Lies w g 54 (cellsM h vq (r 0) (r 1) (r 2))) (j : Nat) (hj : j < 3) (A : Option Addr) (n cap : Nat) : ∃ w', (Instr.storeAt 52 (.pointer (some ⟨g, 15 + j, none⟩)) (.slice A n cap)).run Tryz.prog w = .ok () w' ∧ Lies w' g 54 (cellsM h vq (updF r j (.slice A n cap) 0) (updF r j (.slice A n cap) 1) (updF r j (.slice A n cap) 2)) ∧ w.grownBy w' (some g) := by
  refine ⟨w.setCell ⟨g, 15 + j, none⟩ (.slice A n cap), ?_, ?_, grown_set (base := 0) w g (15 + j) _⟩
  · have hc := (liesM l).2.2
    obtain ⟨x0, x1, x2⟩ := hc
    have hf := l.free (15 + j)
    obtain rfl | rfl | rfl : j = 0 ∨ j = 1 ∨ j = 2 := by omega
    all_goals
      clear l
      go_simp
  · have h2 := l.set (15 + j) (.slice A n cap)
    obtain rfl | rfl | rfl : j = 0 ∨ j = 1 ∨ j = 2 := by omega
    · exact h2
    · exact h2
    · exact h2
end Go.Proofs.YtadeflehdfmilaaGreat
namespace Go.Proofs.YtadeflehdfmilaaGreat
open Go.RowKit Go.Maps
set_option linter.unusedVariables false
set_option maxRecDepth 100000

/-- How many records stand in the rows ahead of row j. -/
def aheadM (m : MM) : Nat → Nat
  | 0 => 0
  | j + 1 => aheadM m j + (rowAt m j).length
/-- How many of row j are kept, where n are kept in all. -/
def keepM (m : MM) (n j : Nat) : Nat := min (n - aheadM m j) (rowAt m j).length
/-- The message with its first n records. -/
def shortM (m : MM) (n : Nat) : MM :=
  ⟨{ m.h with tc := true, n0 := (m.q.length : Int), n1 := (keepM m n 0 : Int), n2 := (keepM m n 1 : Int), n3 := (keepM m n 2 : Int) }, m.q, m.a.take (keepM m n 0), m.u.take (keepM m n 1), m.m.take (keepM m n 2)⟩
theorem set_rw {w : World} {g : Nat} {h : Hd} {vq : Value} {r : Nat → Value} (l : Lies w g 54 (cellsM h vq (r 0) (r 1) (r 2))) (j : Nat) (hj : j < 3) (v : Value) : Lies (w.setCell ⟨g, 15 + j, none⟩ v) g 54 (cellsM h vq (updF r j v 0) (updF r j v 1) (updF r j v 2)) := by
  have h2 := l.set (15 + j) v
  obtain rfl | rfl | rfl : j = 0 ∨ j = 1 ∨ j = 2 := by omega
  · exact h2
  · exact h2
  · exact h2
theorem row_at {w : World} {g : Nat} {t : TypeId} {h : Hd} {vq : Value} {r : Nat → Value} (l : Lies w g t (cellsM h vq (r 0) (r 1) (r 2))) (j : Nat) (hj : j < 3) : w.cell? ⟨g, 15 + j, none⟩ = some (r j) := by
  obtain rfl | rfl | rfl : j = 0 ∨ j = 1 ∨ j = 2 := by omega
  · exact l.cell 15
  · exact l.cell 16
  · exact l.cell 17
def pickN {α : Type} (a b c : α) : Nat → α
  | 0 => a
  | 1 => b
  | _ => c
/-- The rows, those from j on cut. -/
def rowsK (m : MM) (A : Nat → Option Addr) (c : Nat → Nat) (n j i : Nat) : Value := .slice (A i) (if i < j then (rowAt m i).length else keepM m n i) (c i)
theorem rowsK_upd (m : MM) (A : Nat → Option Addr) (c : Nat → Nat) (n j : Nat) : updF (rowsK m A c n (j + 1)) j (.slice (A j) (keepM m n j) (c j)) = rowsK m A c n j := by
  funext i
  unfold updF rowsK
  by_cases e : i = j
  · subst e
    rw [if_pos rfl, if_neg (by omega)]
  · rw [if_neg e]
    by_cases h : i < j
    · rw [if_pos h, if_pos (by omega)]
    · rw [if_neg h, if_neg (by omega)]
/-- The loop: rows from j on are cut. -/
structure ShJ (w : World) (m : MM) (h1 : Hd) (vq : Value) (A : Nat → Option Addr) (c : Nat → Nat) (n g4 g5 g6 j : Nat) (wr : World) : Prop where
  l5 : Lies wr g5 54 (cellsM h1 vq (rowsK m A c n j 0) (rowsK m A c n j 1) (rowsK m A c n j 2))
  l6 : Lies wr g6 115 #[.pointer (some ⟨g5, 15, none⟩), .pointer (some ⟨g5, 16, none⟩), .pointer (some ⟨g5, 17, none⟩)]
  l4 : Lies wr g4 54 zeroM
  bel : Below w.heap.size w wr
theorem ShJ.set {w wr : World} {m : MM} {h1 : Hd} {vq : Value} {A : Nat → Option Addr} {c : Nat → Nat} {n g4 g5 g6 j : Nat} (k : ShJ w m h1 vq A c n g4 g5 g6 (j + 1) wr) (hj : j < 3) (h45 : g4 ≠ g5) (h65 : g6 ≠ g5) (hw : w.heap.size ≤ g5) : ShJ w m h1 vq A c n g4 g5 g6 j (wr.drew.setCell ⟨g5, 15 + j, none⟩ (.slice (A j) (keepM m n j) (c j))) := by
  have hg : wr.drew.grownBy (wr.drew.setCell ⟨g5, 15 + j, none⟩ (.slice (A j) (keepM m n j) (c j))) (some g5) := grown_set (base := 0) _ g5 (15 + j) _
  refine ⟨?_, k.l6.drew.grown hg (fun e => h65 (by injection e)), k.l4.drew.grown hg (fun e => h45 (by injection e)), k.bel.drew.setCell hw _⟩
  have h := set_rw k.l5.drew j hj (.slice (A j) (keepM m n j) (c j))
  rw [rowsK_upd] at h
  exact h
def ShR (w : World) (m : MM) (h1 : Hd) (vq : Value) (A : Nat → Option Addr) (c : Nat → Nat) (n g4 g5 g6 : Nat) (vo vi : Value) (wr : World) : Prop := ∃ j : Nat, vi = .int .i64 ((j : Int) - 1) ∧ vo = .int .i64 ((aheadM m j - n : Nat) : Int) ∧ j ≤ 3 ∧ ShJ w m h1 vq A c n g4 g5 g6 j wr
end Go.Proofs.YtadeflehdfmilaaGreat
namespace Go.Proofs.YtadeflehdfmilaaGreat
open Go.RowKit Go.Maps
set_option linter.unusedVariables false
set_option maxRecDepth 100000

def SmR (W : World) (a b : MM) (R : Bool) (vi : Value) (wr : World) : Prop := ∃ j : Nat, vi = .int .i64 j ∧ j ≤ 3 ∧ eqL (eqL sameRV) ((rows3 a).drop j) ((rows3 b).drop j) = R ∧ Below W.heap.size W wr
set_option maxHeartbeats 4000000 in
theorem mSame_any (a b : MM) (vq va vu vm uq ua uu um : Value) (w : World) (hfa : FitM w a vq va vu vm) (hfb : FitM w b uq ua uu um) :
    Calls Tryz.prog 24 #[msgV a.h vq va vu vm, msgV b.h uq ua uu um] w (Told w (.bool (sameM a b))) := by
  have hHQ := eqQ_any vq uq a.q b.q
  obtain ⟨Aaq, caq, Aaa, caa, Aau, cau, Aam, cam, rfl, rfl, rfl, rfl, ⟨l1, l2, l3, l4⟩, _⟩ := hfa.shapes
  obtain ⟨Abq, cbq, Aba, cba, Abu, cbu, Abm, cbm, rfl, rfl, rfl, rfl, ⟨k1, k2, k3, k4⟩, _⟩ := hfb.shapes
  unfold maxLen at l1 l2 l3 l4 k1 k2 k3 k4
  obtain ⟨CA, hCA⟩ : ∃ C, (cellsM a.h (.slice Aaq a.q.length caq) (.slice Aaa a.a.length caa) (.slice Aau a.u.length cau) (.slice Aam a.m.length cam)) = C := ⟨_, rfl⟩
  obtain ⟨VA, hVA⟩ : ∃ V, (msgV a.h (.slice Aaq a.q.length caq) (.slice Aaa a.a.length caa) (.slice Aau a.u.length cau) (.slice Aam a.m.length cam)) = V := ⟨_, rfl⟩
  obtain ⟨CB, hCB⟩ : ∃ C, (cellsM b.h (.slice Abq b.q.length cbq) (.slice Aba b.a.length cba) (.slice Abu b.u.length cbu) (.slice Abm b.m.length cbm)) = C := ⟨_, rfl⟩
  obtain ⟨VB, hVB⟩ : ∃ V, (msgV b.h (.slice Abq b.q.length cbq) (.slice Aba b.a.length cba) (.slice Abu b.u.length cbu) (.slice Abm b.m.length cbm)) = V := ⟨_, rfl⟩
  obtain ⟨Ha, hHa⟩ : ∃ V, hv a.h = V := ⟨_, rfl⟩
  obtain ⟨Hb, hHb⟩ : ∃ V, hv b.h = V := ⟨_, rfl⟩
  have hbxa := box_m a.h Aaq Aaa Aau Aam a.q.length a.a.length a.u.length a.m.length caq caa cau cam w
  rw [hVA, hCA] at hbxa
  obtain ⟨W1, hW1⟩ : ∃ W, W = w.alloc (.cells CA 54) := ⟨_, rfl⟩
  rw [← hW1] at hbxa
  have hbxb := box_m b.h Abq Aba Abu Abm b.q.length b.a.length b.u.length b.m.length cbq cba cbu cbm W1
  rw [hVB, hCB] at hbxb
  obtain ⟨W, hW⟩ : ∃ W, W = W1.alloc (.cells CB 54) := ⟨_, rfl⟩
  rw [← hW] at hbxb
  have hL1 : Lies W w.heap.size 54 CA := by rw [hW, hW1]; exact (Lies.new _ _ _).alloc _
  have hL2 : Lies W W1.heap.size 54 CB := by rw [hW]; exact Lies.new _ _ _
  have hB0 : Below w.heap.size w W := by rw [hW, hW1]; exact below2 _ _ _
  obtain ⟨ga, hga⟩ : ∃ g, w.heap.size = g := ⟨_, rfl⟩
  obtain ⟨gb, hgb⟩ : ∃ g, W1.heap.size = g := ⟨_, rfl⟩
  rw [hga] at hbxa hL1
  rw [hgb] at hbxb hL2
  have HLA : Hid (∀ wx, Below W.heap.size W wx → Lies wx ga 54 (cellsM a.h (.slice Aaq a.q.length caq) (.slice Aaa a.a.length caa) (.slice Aau a.u.length cau) (.slice Aam a.m.length cam))) := Lib.hid fun wx hb => by rw [hCA]; exact hL1.next hb
  have HLB : Hid (∀ wx, Below W.heap.size W wx → Lies wx gb 54 (cellsM b.h (.slice Abq b.q.length cbq) (.slice Aba b.a.length cba) (.slice Abu b.u.length cbu) (.slice Abm b.m.length cbm))) := Lib.hid fun wx hb => by rw [hCB]; exact hL2.next hb
  have HLHa : Hid (∀ wx, Below W.heap.size W wx → (Instr.loadAt 50 (pp ga)).run Tryz.prog wx = .ok Ha wx) := Lib.hid fun wx hb => by rw [← hHa]; exact load_hd (HLA.out wx hb)
  have HLHb : Hid (∀ wx, Below W.heap.size W wx → (Instr.loadAt 50 (pp gb)).run Tryz.prog wx = .ok Hb wx) := Lib.hid fun wx hb => by rw [← hHb]; exact load_hd (HLB.out wx hb)
  have HBxA := Lib.hid hbxa
  have HBxB := Lib.hid hbxb
  have HEnt : Hid (∀ wx, Below W.heap.size W wx → Below w.heap.size w wx) := Lib.hid fun wx hb => hB0.trans (hb.mono hB0.size)
  have HRA := Lib.hid (hfa.row (t := 54) HLA.out)
  have HRB := Lib.hid (hfb.row (t := 54) HLB.out)
  have HRoA := Lib.hid fun wx => rowsOf_any ga wx
  have HRoB := Lib.hid fun wx => rowsOf_any gb wx
  have HQ : Hid (Calls Tryz.prog 67 _ W _) := Lib.hid (hHQ W (hfa.q.below hB0) (hfb.q.below hB0))
  have hHQ' : ∀ x y wx, (do eqGuard .neq 50 x y Ha Hb; binOp .neq 50 Ha Hb : Sem Value).run Tryz.prog wx = .ok (.bool (!decide (a.h = b.h))) wx := fun x y wx => by rw [← hHa, ← hHb]; exact hd_neq_op a.h b.h x y wx
  obtain ⟨nb, hnb⟩ : ∃ c, (!decide (a.h = b.h)) = c := ⟨_, rfl⟩
  rw [hnb] at hHQ'
  have HEq := Lib.hid hHQ'
  obtain ⟨cq, hcq⟩ : ∃ c, eqL sameQ a.q b.q = c := ⟨_, rfl⟩
  rw [hcq] at HQ
  obtain ⟨R, hR⟩ : ∃ c, eqL (eqL sameRV) (rows3 a) (rows3 b) = c := ⟨_, rfl⟩
  have HR := Lib.hid hR
  have hV : sameM a b = (!nb && (cq && R)) := by rw [sameM_rows, hcq, hR, ← hnb, Bool.not_not]
  obtain ⟨VV, hVV⟩ : ∃ V, sameM a b = V := ⟨_, rfl⟩
  rw [hVV] at hV ⊢
  have HV := Lib.hid hV
  have y14a := (HLA.out _ (Below.refl _ _)).cell 14
  have y14b := (HLB.out _ (Below.refl _ _)).cell 14
  rw [hVA, hVB]
  clear hfa hfb hHQ hHQ' hbxa hbxb hL1 hL2 hB0 hnb hcq hR hV hVV hCA hVA hCB hVB hHa hHb hW hW1 hga hgb
  cases nb
  · cases cq
    · as_aux_lemma =>
        go_enter Tryz.func24, Tryz.ntmps24
        go_wp2_with (first | (refine wpList_box1 rfl 54 (.tmp 0) rfl VA _ rfl HBxA.out ?_) | (refine wpList_box1 rfl 54 (.tmp 1) rfl VB _ rfl HBxB.out ?_) | (refine wpList_load1 rfl 50 (.tmp 8) rfl _ Ha rfl (HLHa.out _ (Below.refl _ _)) ?_) | (refine wpList_load1 rfl 50 (.tmp 10) rfl _ Hb rfl (HLHb.out _ (Below.refl _ _)) ?_) | (refine wpList_bin1 rfl .neq 50 _ (.tmp 9) (.tmp 11) rfl Ha Hb _ rfl rfl (HEq.out _ _ _) ?_) | (go_at_call 67; (with_reducible refine HQ.out.mono ?_); rintro e w3 ⟨rfl, hb3⟩; have HB3 := Lib.hid hb3; clear hb3))
        go_ret
        exact ⟨(by rw [HV.out]; rfl), HEnt.out _ HB3.out⟩
    · as_aux_lemma =>
        go_enter Tryz.func24, Tryz.ntmps24
        go_wp2_with (first | (refine wpList_box1 rfl 54 (.tmp 0) rfl VA _ rfl HBxA.out ?_) | (refine wpList_box1 rfl 54 (.tmp 1) rfl VB _ rfl HBxB.out ?_) | (refine wpList_load1 rfl 50 (.tmp 8) rfl _ Ha rfl (HLHa.out _ (Below.refl _ _)) ?_) | (refine wpList_load1 rfl 50 (.tmp 10) rfl _ Hb rfl (HLHb.out _ (Below.refl _ _)) ?_) | (refine wpList_bin1 rfl .neq 50 _ (.tmp 9) (.tmp 11) rfl Ha Hb _ rfl rfl (HEq.out _ _ _) ?_) | (go_at_call 67; (with_reducible refine HQ.out.mono ?_); rintro e w3 ⟨rfl, hb3⟩; have HB3 := Lib.hid hb3; clear hb3) | (go_at_call 62; (with_reducible refine (HRoB.out _).mono ?_); rintro e w4 ⟨rfl, hb4⟩; have HB4 := Lib.hid (HB3.out.trans (hb4.mono HB3.out.size)); clear hb4) | (refine wpList_alloc1 rfl 115 rfl _ (alloc_rows w4) ?_) | (refine wpList_store1 rfl 115 (.tmp 5) (.tmp 21) rfl _ _ rfl rfl (store_rows gb w4) ?_) | (go_at_call 62; (with_reducible refine (HRoA.out _).mono ?_); rintro e w5 ⟨rfl, hb5⟩))
        have hVR : VV = R := by rw [HV.out]; rfl
        subst hVR
        have hb6 := (Below.refl _ w4).alloc (Nat.le_refl _) (.cells #[.pointer (some ⟨gb, 15, none⟩), .pointer (some ⟨gb, 16, none⟩), .pointer (some ⟨gb, 17, none⟩)] 115)
        have hL3 := (Lies.new w4 115 #[.pointer (some ⟨gb, 15, none⟩), .pointer (some ⟨gb, 16, none⟩), .pointer (some ⟨gb, 17, none⟩)]).next hb5
        have HB5 := Lib.hid (HB4.out.trans (((hb6.trans (hb5.mono hb6.size))).mono HB4.out.size))
        obtain ⟨gr, hgr⟩ : ∃ g, w4.heap.size = g := ⟨_, rfl⟩
        simp only [hgr] at hL3 ⊢
        have HST : Hid (SmR w5 a b VV (.int .i64 0) w5) := Lib.hid ⟨0, rfl, by decide, HR.out, Below.refl _ _⟩
        have HL3 := Lib.hid hL3
        clear hb5 hb6 hL3 hgr y14a y14b
        go_loopw [23] (fun vi wr => SmR w5 a b VV vi wr) (fun vi _ => 3 - (intOf vi).toNat)
        case atStart => exact HST.out
        case round =>
          clear HST
          obtain ⟨j, rfl, hj, hd, hb⟩ := hrel
          have HD := Lib.hid hd
          have HBw := Lib.hid hb
          have HB := Lib.hid (HB5.out.trans (hb.mono HB5.out.size))
          clear hd hb
          rcases Nat.lt_or_ge j 3 with hlt | hge
          · obtain ⟨Ax, cx, hrowA, hcellA, hidx, hfitA, hlenA⟩ := HRA.out j hlt
            obtain ⟨Bx, dx, hrowB, hcellB, _, hfitB, hlenB⟩ := HRB.out j hlt
            have hix := rows_ix gr j hlt
            have hd1 := rows3_at a hlt
            have hd2 := rows3_at b hlt
            have hdr : eqL (eqL sameRV) ((rows3 a).drop j) ((rows3 b).drop j) = (eqL sameRV (rowAt a j) (rowAt b j) && eqL (eqL sameRV) ((rows3 a).drop (j + 1)) ((rows3 b).drop (j + 1))) := by rw [hd1, hd2]; rfl
            have hck := fun wx (hb : Below W.heap.size W wx) => eqR_any _ _ _ _ wx (hrowA.below (HEnt.out _ hb)) (hrowB.below (HEnt.out _ hb)) (fun x hx => (hfitA x hx).next (HEnt.out _ hb)) (fun x hx => (hfitB x hx).next (HEnt.out _ hb))
            obtain ⟨L, hL⟩ : ∃ L, rowAt a j = L := ⟨_, rfl⟩
            obtain ⟨K, hK⟩ : ∃ L, rowAt b j = L := ⟨_, rfl⟩
            rw [hL] at hcellA hdr hck hlenA
            rw [hK] at hcellB hdr hck hlenB
            obtain ⟨c, hcc⟩ : ∃ c, eqL sameRV L K = c := ⟨_, rfl⟩
            rw [hcc] at hck hdr
            have HDr := Lib.hid hdr
            clear hrowA hrowB hfitA hfitB hdr hL hK hcc hd1 hd2
            go_upto_region 7 with (fail)
            obtain ⟨Ix, f, i0, hf0, hCn, hstep⟩ := class_ofC wr
            haveI : Nonempty Ix := ⟨i0⟩
            have HBn := Lib.hid fun n => HB.out.trans ((hCn n).mono HB.out.size)
            have x1 := fun n => hcellA _ (HBn.out n)
            have x2 := fun n => hcellB _ (HBn.out n)
            have x3 := fun n => rows_at (HL3.out.next (HBw.out.trans ((hCn n).mono HBw.out.size))) hlt
            have V1 := Lib.hid (fun n => (hck (f n) (HBn.out n)).mono (fun _ _ h => (⟨h.1, hstep n _ h.2⟩ : _ ∧ ∃ m, _ = f m)))
            clear hstep hck hcellA hcellB
            refine wp_region_class f (by kernel_rfl) (lexB_of (by kernel_rfl) (by as_aux_lemma => kernel_rfl)) i0 hf0 ?_
            clear hf0
            repeat (go_big_quiet_step (with_reducible exact V1.out _))
            all_goals
              refine wpQuiet_nil ?_
              intro _ hw'
              obtain ⟨nE, hw''⟩ := hw'
              subst hw''
            clear x1 x2 x3 V1 hix
            have HBE := Lib.hid (HBw.out.trans ((hCn nE).mono HBw.out.size))
            have HBF := Lib.hid (HBn.out nE)
            clear hCn HBn
            obtain ⟨wE, hwE⟩ : ∃ wE, f nE = wE := ⟨_, rfl⟩
            rw [hwE] at HBE HBF ⊢
            clear hwE
            cases c
            · have hVc : VV = false := by rw [← HD.out, HDr.out]; rfl
              subst hVc
              go_wp2
              go_ret
              exact ⟨rfl, HEnt.out _ HBF.out⟩
            · go_wp2
              go_roundw
              case rel => exact ⟨j + 1, by go_num, hlt, by rw [← HD.out, HDr.out]; rfl, HBE.out⟩
              case measure => simp [intOf]; omega
          · obtain rfl : j = 3 := by omega
            have hVt : VV = true := by rw [← HD.out]; rfl
            subst hVt
            go_wp2
            go_ret
            exact ⟨rfl, HEnt.out _ HB.out⟩
  · as_aux_lemma =>
      go_enter Tryz.func24, Tryz.ntmps24
      go_wp2_with (first | (refine wpList_box1 rfl 54 (.tmp 0) rfl VA _ rfl HBxA.out ?_) | (refine wpList_box1 rfl 54 (.tmp 1) rfl VB _ rfl HBxB.out ?_) | (refine wpList_load1 rfl 50 (.tmp 8) rfl _ Ha rfl (HLHa.out _ (Below.refl _ _)) ?_) | (refine wpList_load1 rfl 50 (.tmp 10) rfl _ Hb rfl (HLHb.out _ (Below.refl _ _)) ?_) | (refine wpList_bin1 rfl .neq 50 _ (.tmp 9) (.tmp 11) rfl Ha Hb _ rfl rfl (HEq.out _ _ _) ?_))
      go_ret
      exact ⟨(by rw [HV.out]; rfl), HEnt.out _ (Below.refl _ _)⟩
end Go.Proofs.YtadeflehdfmilaaGreat
