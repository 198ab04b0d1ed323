/-
  The walk of the law RecordBack. Conditions: the rows can be read; Go can have the records.
-/
import Derived.Test.YtbbglpjhblhkdaaGreatRcBkM
import Derived.Test.YtbbglpjhblhkdaaGreatRcM3
namespace Go.Proofs.YtbbglpjhblhkdaaGreat
open Go.RowKit Go.Maps
set_option linter.unusedVariables false
set_option maxRecDepth 100000

set_option maxHeartbeats 1000000 in
theorem RecordBack_long (v0 v1 : Value) (w : World) (L0 : List MQ) (L1 : List RV) (h0 : CRow csQ 3 w v0 L0) (h1 : CRow csR 16 w v1 L1) (hl : 20 < L0.length ∨ 20 < L1.length) :
    Calls Tryz.prog 4 #[v0, v1] w fun e w' => e = .returned (.bool true) ∧ Below w.heap.size w w' := by
  obtain ⟨A0, cap0, rfl, hl0, hc0, _⟩ := h0.shape
  obtain ⟨A1, cap1, rfl, hl1, hc1, _⟩ := h1.shape
  unfold maxLen at hc0 hc1
  clear h0 h1
  by_cases h20 : 20 < L0.length
  · have hd : decide ((20 : Int) < (L0.length : Int)) = true := by simpa using (by omega : (20 : Int) < L0.length)
    clear hl
    go_enter Tryz.func4, Tryz.ntmps4
    go_wp2_with fail
    refine (lives10 _).mono ?_
    rintro e w1 ⟨rfl, hb1⟩
    have HB1 := Lib.hid hb1
    clear hb1
    go_wp2
    go_ret
    exact ⟨rfl, HB1.out⟩
  · have hd : decide ((20 : Int) < (L0.length : Int)) = false := by simpa using (by omega : (L0.length : Int) ≤ 20)
    have hl : 20 < L1.length := by omega
    have hd2 : decide ((20 : Int) < (L1.length : Int)) = true := by simpa using (by omega : (20 : Int) < L1.length)
    clear h20
    go_enter Tryz.func4, Tryz.ntmps4
    go_wp2_with fail
    refine (lives10 _).mono ?_
    rintro e w1 ⟨rfl, hb1⟩
    have HB1 := Lib.hid hb1
    clear hb1
    go_wp2
    go_ret
    exact ⟨rfl, HB1.out⟩

theorem range_next {w w' : World} {g o : Nat} {cs : List Value} (h : w.rangeAt g o cs) (hg : g < w.heap.size) (hb : Below w.heap.size w w') : w'.rangeAt g o cs := fun i v hv => (hb.cell (p := ⟨g, o + i, none⟩) hg).trans (h i v hv)
theorem r_cells {w : World} {g o : Nat} {r : MR} {tv : Value} (h : w.rangeAt g o (csR (r, tv))) : w.cell? ⟨g, o, none⟩ = some (.string r.n) ∧ w.cell? ⟨g, o + 1, none⟩ = some (.int .i64 r.t) ∧ w.cell? ⟨g, o + 2, none⟩ = some (.int .i64 r.c) ∧ w.cell? ⟨g, o + 3, none⟩ = some (.int .u32 (r.x : Int)) ∧ w.cell? ⟨g, o + 4, none⟩ = some (.bool r.d.six) ∧ w.cell? ⟨g, o + 5, none⟩ = some (.int .u64 (r.d.hi : Int)) ∧ w.cell? ⟨g, o + 6, none⟩ = some (.int .u64 (r.d.lo : Int)) ∧
    w.cell? ⟨g, o + 7, none⟩ = some (.string r.d.n) ∧ w.cell? ⟨g, o + 8, none⟩ = some (.string r.d.m) ∧ w.cell? ⟨g, o + 9, none⟩ = some (.int .u32 (r.d.v0 : Int)) ∧ w.cell? ⟨g, o + 10, none⟩ = some (.int .u32 (r.d.v1 : Int)) ∧ w.cell? ⟨g, o + 11, none⟩ = some (.int .u32 (r.d.v2 : Int)) ∧ w.cell? ⟨g, o + 12, none⟩ = some (.int .u32 (r.d.v3 : Int)) ∧ w.cell? ⟨g, o + 13, none⟩ = some (.int .u32 (r.d.v4 : Int)) ∧ w.cell? ⟨g, o + 14, none⟩ = some tv ∧ w.cell? ⟨g, o + 15, none⟩ = some (.string r.d.r) :=
  ⟨h 0 _ rfl, h 1 _ rfl, h 2 _ rfl, h 3 _ rfl, h 4 _ rfl, h 5 _ rfl, h 6 _ rfl, h 7 _ rfl, h 8 _ rfl, h 9 _ rfl, h 10 _ rfl, h 11 _ rfl, h 12 _ rfl, h 13 _ rfl, h 14 _ rfl, h 15 _ rfl⟩

set_option maxHeartbeats 8000000 in
theorem RecordBack_short (v0 v1 : Value) (w : World) (L0 : List MQ) (L1 : List RV) (h0 : CRow csQ 3 w v0 L0) (hs0 : ∀ q ∈ L0, q.n.size ≤ maxLen) (h1 : CRow csR 16 w v1 L1) (hf1 : ∀ x ∈ L1, FitR w x.1 x.2) (hl0 : L0.length ≤ 20) (hl1 : L1.length ≤ 20) :
    Calls Tryz.prog 4 #[v0, v1] w fun e w' => e = .returned (.bool true) ∧ Below w.heap.size w w' := by
  obtain ⟨A0, cap0, rfl, hc00, hc0, _⟩ := h0.shape
  obtain ⟨A1, cap1, rfl, hc10, hc1, _⟩ := h1.shape
  unfold maxLen at hc0 hc1
  have HR0 := Lib.hid h0
  have HR1 := Lib.hid h1
  have HS0 := Lib.hid hs0
  have HF1 := Lib.hid hf1
  have HNew : Hid (∀ wx, Calls Tryz.prog 16 #[.int .i64 65535] wx (NewP wx 65535)) := Lib.hid fun wx => pNew_any 65535 wx (by decide)
  clear h0 h1 hs0 hf1
  have hd : decide ((20 : Int) < (L0.length : Int)) = false := by simpa using (by omega : (L0.length : Int) ≤ 20)
  have hd2 : decide ((20 : Int) < (L1.length : Int)) = false := by simpa using (by omega : (L1.length : Int) ≤ 20)
  go_enter Tryz.func4, Tryz.ntmps4
  go_wp2_with fail
  refine (lives10 _).mono ?_
  rintro e w1 ⟨rfl, hb1⟩
  have HB1 := Lib.hid hb1
  clear hb1
  go_wp2_with fail
  refine (HNew.out _).mono ?_
  rintro e w2 ⟨g, F, rfl, hp, hb⟩
  have hst : Hid (∃ b, BB w w2 b g F ps0 (.slice none 0 0) [] (.slice none 0 0) [] nilS []) := Lib.hid ⟨w1.heap.size, hp, OwnI.nil _ _, OwnC.none_ _ _, OwnC.none_ _ _, (fun k h => by cases h), (fun k h => by cases h), (fun k h => by cases h), HB1.out.trans (hb.mono HB1.out.size), HB1.out.size⟩
  obtain ⟨b, hst'⟩ := hst.out
  have HST : Hid (Rel1 L0.length w b g (.slice none 0 0) (.slice none 0 0) (.int .i64 0) w2) := Lib.hid ⟨0, F, ps0, [], [], rfl, Nat.zero_le _, ⟨hst', goodR0, rfl, Nat.le_refl _, Nat.le_refl _⟩⟩
  clear hd hd2 hst hst' hp hb HB1 HNew
  go_wp2
  go_loopw [6, 7, 9] (fun v1 v2 vi wr => Rel1 L0.length w b g v1 v2 vi wr) (fun _ _ vi _ => L0.length - (intOf vi).toNat)
  case atStart => exact HST.out
  case round =>
    obtain ⟨k, F', s, E, Q, rfl, hk, hq⟩ := hrel
    have HQ := Lib.hid hq
    have hE := hq.ch.len
    have hQk := hq.few
    have hsl := hq.len
    clear hq HST
    rcases Nat.lt_or_ge k L0.length with hlt | hge
    · as_aux_lemma =>
        obtain ⟨gq, oq, rfl, hgl, hat⟩ := HR0.out.at k hlt
        have hxn := HS0.out _ (List.getElem_mem hlt)
        obtain ⟨x, hx⟩ : ∃ x, x = L0[k] := ⟨_, rfl⟩
        rw [← hx] at hat hxn
        have HC := Lib.hid fun wx (hb : Below w.heap.size w wx) => q_cells (range_next hat hgl hb)
        obtain ⟨c0, c1, c2⟩ := HC.out _ HQ.out.bb.bel
        clear hat hx
        by_cases hn : 400 < x.n.size
        · have hdn : decide ((400 : Int) < (x.n.size : Int)) = true := by simpa using (by omega : (400 : Int) < x.n.size)
          clear hxn
          go_wp2
          go_ret
          exact ⟨rfl, HQ.out.bb.bel⟩
        · have hdn : decide ((400 : Int) < (x.n.size : Int)) = false := by simpa using (by omega : (x.n.size : Int) ≤ 400)
          obtain ⟨hone, hno⟩ := one_q (q := x) HQ.out.good (by omega)
          have hput := rcPutQ_any x wr HQ.out.bb.pk hxn
          obtain ⟨q1, hq1⟩ : ∃ q, putQ 65535 x s = q := ⟨_, rfl⟩
          rw [hq1] at hone hno hput
          clear hq1 hxn hn
          by_cases hz : q1.1 = 0
          · obtain ⟨a1, a2, a3, a4⟩ := hone hz
            have HG := Lib.hid a1
            have HY := Lib.hid a2
            have HR := Lib.hid a4
            rw [hz] at hput
            have HPut := Lib.hid hput
            have hl1 : Q.length ≤ 1000 := by omega
            have hl2 : E.length ≤ 1000 := by omega
            clear a1 a2 a4 hput hone hno hz
            go_wp2_with (first | (go_at_call 11; (with_reducible refine HPut.out.mono ?_); rintro e w4 ⟨rfl, F4, hp4, hk4⟩; have HB4 := Lib.hid (HQ.out.bb.packed hp4 hk4); clear hp4 hk4; obtain ⟨d0, d1, d2⟩ := HC.out _ HB4.out.bel) | (at_builtin; (first | (refine app_q rfl (.tmp 53) (.tmp 58) rfl (HB4.out.alloc _) rfl x _ rfl (Lies.new _ _ _) hl1 ?_; intro v5 w5 hB5; have HB5 := Lib.hid hB5; clear hB5) | (refine app_e rfl (.tmp 60) (.tmp 63) rfl (HB5.out.alloc _) rfl q1.2.l.length _ rfl (Lies.new _ _ _) hl2 ?_; intro v6 w6 hB6; have HB6 := Lib.hid hB6; clear hB6))) | (go_at_call 17; (with_reducible refine (pLen_any HB5.out.pk).mono ?_); rintro e w' ⟨rfl, rfl⟩))
            go_roundw
            case rel => exact ⟨k + 1, F4, q1.2, _, _, by go_num, by omega, HQ.out.more HG.out HY.out a3 HR.out HB6.out⟩
            case measure => simp [intOf]; omega
          · have hs := hno hz
            rw [hs] at hput
            have hzb : ((q1.1 : Int) == 0) = false := by rw [beq_eq_false_iff_ne]; omega
            have HPut := Lib.hid hput
            clear hput hone hno hs
            go_wp2_with (go_at_call 11; (with_reducible refine HPut.out.mono ?_); rintro e w4 ⟨rfl, F4, hp4, hk4⟩; have HB4 := Lib.hid (HQ.out.bb.packed hp4 hk4); clear hp4 hk4)
            go_roundw
            case rel => exact ⟨k + 1, F4, s, _, _, by go_num, by omega, HQ.out.stay HB4.out⟩
            case measure => simp [intOf]; omega
    · obtain rfl : k = L0.length := by omega
      obtain ⟨A7, c7, rfl, hq7, hcq7⟩ := HQ.out.bb.r2.shape
      unfold maxLen at hcq7
      have HST2 : Hid (Rel2 L1.length w b g (.slice A7 Q.length c7) E Q s.l.length L1 u6 nilS (.int .i64 0) wr) := Lib.hid ⟨0, F', s, [], [], rfl, Nat.zero_le _, ⟨by rw [List.append_nil]; exact HQ.out.bb, HQ.out.good, HQ.out.ch, rfl, by omega, Nat.le_refl _, fun x h => by cases h⟩⟩
      obtain ⟨e0, he0⟩ : ∃ n, n = s.l.length := ⟨_, rfl⟩
      rw [← he0] at HST2
      clear he0 HQ hsl hge hk
      go_wp2
      go_loopw [6, 8, 10] (fun v1 v3 vi wr => Rel2 L1.length w b g (.slice A7 Q.length c7) E Q e0 L1 v1 v3 vi wr) (fun _ _ vi _ => L1.length - (intOf vi).toNat)
      case atStart => exact HST2.out
      case round =>
        obtain ⟨k, F2, s2, ER, R, rfl, hk, hr⟩ := hrel
        have HR := Lib.hid hr
        have hER := hr.chr.len
        have hRk := hr.few
        have hsl := hr.len
        clear hr HST2
        rcases Nat.lt_or_ge k L1.length with hlt | hge
        · as_aux_lemma =>
            obtain ⟨gr, or_, rfl, hgl, hat⟩ := HR1.out.at k hlt
            have hmem := List.getElem_mem hlt
            have hfit := HF1.out _ hmem
            obtain ⟨x, hx⟩ : ∃ x, x = L1[k] := ⟨_, rfl⟩
            rw [← hx] at hat hmem hfit
            obtain ⟨r, tv⟩ := x
            replace hfit : FitR w r tv := hfit
            obtain ⟨A, cap, htv, _, _⟩ := hfit.d.row.shape
            obtain ⟨n, htv'⟩ : ∃ n, tv = .slice A n cap := ⟨_, htv⟩
            clear htv hx
            subst htv'
            have hld : ∀ wx, Below w.heap.size w wx → (Instr.loadAt 33 (.pointer (some ⟨gr, or_ + k * 16, none⟩))).run Tryz.prog wx = .ok (recV r (.slice A n cap)) wx := fun wx hb => load_r (range_next hat hgl hb)
            have hbs := build_r r A n cap
            have HC := Lib.hid fun wx (hb : Below w.heap.size w wx) => r_cells (range_next hat hgl hb)
            have hsz := fun wx (hb : Below w.heap.size w wx) => rcSize_any r (.slice A n cap) wx (hfit.next hb)
            have hlt' := light_b r (.slice A n cap) wr (hfit.next HR.out.bb.bel)
            have hput := fun wx F s (hp : PK wx b F g 65535 s) (hb : Below w.heap.size w wx) => rcPut_any r (.slice A n cap) wx hp (hfit.next hb) fun j hj => Nat.lt_of_lt_of_le (blk_ltC hfit.d.row j hj) HR.out.bb.leb
            obtain ⟨C, hC⟩ : ∃ C, cellsR r (.slice A n cap) = C := ⟨_, rfl⟩
            obtain ⟨V, hV⟩ : ∃ V, recV r (.slice A n cap) = V := ⟨_, rfl⟩
            rw [hV] at hlt'
            simp only [hV] at hld hbs hput
            unfold recV cellsR at hsz
            have hL : ∀ wx : World, Lies (wx.alloc (.cells C 33)) wx.heap.size 33 (cellsR r (.slice A n cap)) := fun wx => by rw [hC]; exact Lies.new _ _ _
            simp only [hC] at hbs
            obtain ⟨sz, hszv⟩ : ∃ z, sizeR r = z := ⟨_, rfl⟩
            obtain ⟨tv, htv⟩ : ∃ v, Value.slice A n cap = v := ⟨_, rfl⟩
            rw [htv] at hmem hfit
            have h64 : Fit64 r.d := ⟨hfit.d.hi, hfit.d.lo⟩
            have hxx := hfit.x
            have HFit := Lib.hid fun wx (hb : Below w.heap.size w wx) => hfit.next hb
            simp only [htv] at hL
            have HL := Lib.hid hL
            have HLd := Lib.hid hld
            have HBs := Lib.hid hbs
            have HMem := Lib.hid hmem
            have HOne := Lib.hid (one_r (r := r) (tv := tv) HR.out.good h64 hxx (by omega))
            obtain ⟨q1, hq1⟩ : ∃ q, putR 65535 r s2 = q := ⟨_, rfl⟩
            have hput' := fun wx F (hp : PK wx b F g 65535 s2) hb => hput wx F s2 hp hb
            simp only [hq1] at hput'
            rw [hq1, hszv] at HOne
            rw [hszv] at hsz
            have HPut0 := Lib.hid hput'
            have HSz := Lib.hid hsz
            have HLt := Lib.hid hlt'
            clear hat hmem hfit hgl hld hbs hsz hlt' hput hput' hC hV htv h64 hxx hL hq1 hszv
            go_wp2_with (refine wpList_load1 rfl 33 (.tmp 73) rfl _ V rfl (HLd.out _ HR.out.bb.bel) ?_)
            refine HLt.out.mono ?_
            rintro e w3 ⟨c, rfl, hok, hb⟩
            have HB3 := Lib.hid (HR.out.bb.below hb)
            have HOk := Lib.hid hok
            clear hb HLt hok
            cases c
            · go_wp2
              go_ret
              exact ⟨rfl, HB3.out.bel⟩
            · obtain ⟨hone, hno⟩ := HOne.out (HOk.out rfl)
              have hput := HPut0.out w3 F2 HB3.out.pk HB3.out.bel
              clear HOne HOk HPut0
              by_cases hz : q1.1 = 0
              · obtain ⟨a1, a2, a3, a4, a5⟩ := hone hz
                have HG := Lib.hid a1
                have HY := Lib.hid a2
                have HRR := Lib.hid a5
                rw [hz] at hput
                have HPut := Lib.hid hput
                have hlR : R.length ≤ 1000 := by omega
                have hlE : (E ++ ER).length ≤ 1000 := by rw [List.length_append]; omega
                have HlE := Lib.hid hlE
                have hle4 := a4
                clear a1 a2 a4 a5 hput hone hno hz hlE
                go_wp2_with (first | (refine wpList_load1 rfl 33 (.tmp 82) rfl _ V rfl (HLd.out _ HB3.out.bel) ?_) | (refine wpList_load1 rfl 33 (.tmp 89) rfl _ V rfl (HLd.out _ HB4.out.bel) ?_) | (refine wpList_build1 rfl 48 (.tmp 90) rfl V _ rfl (HBs.out _) ?_) | (go_at_call 10; (with_reducible refine HPut.out.mono ?_); rintro e w4 ⟨rfl, F4, hp4, hk4⟩; have HB4 := Lib.hid (HB3.out.packed hp4 hk4); clear hp4 hk4) | (go_at_call 17; (first | (with_reducible refine (pLen_any HB5.out.pk).mono ?_) | (with_reducible refine (pLen_any HB3.out.pk).mono ?_)); rintro e w' ⟨rfl, rfl⟩) | (at_builtin; (first | (refine app_r2 rfl (.tmp 86) (.tmp 91) rfl (HB4.out.alloc _) rfl r tv (HFit.out _ (HB4.out.alloc _).bel) _ rfl (HL.out _) hlR ?_; intro v5 w5 hB5; have HB5 := Lib.hid hB5; clear hB5) | (refine app_e rfl (.tmp 93) (.tmp 96) rfl (HB5.out.alloc _) rfl q1.2.l.length _ rfl (Lies.new _ _ _) HlE.out ?_; intro v6 w6 hB6; have HB6 := Lib.hid hB6; clear hB6))))
                have hz1 : IntKind.i64.wrap ((q1.2.l.length : Int) - (s2.l.length : Int)) = (q1.2.l.length : Int) - (s2.l.length : Int) := IntWalk.i64_in _ (by omega)
                have hgt : decide ((sz : Int) < (q1.2.l.length : Int) - (s2.l.length : Int)) = false := by simp; omega
                obtain ⟨Ix, f, i0, hf0, hCn, hstep⟩ := class_ofC w6
                haveI : Nonempty Ix := ⟨i0⟩
                have HFn := Lib.hid fun n => HB6.out.below (hCn n)
                have hS := fun n => HC.out _ (HFn.out n).bel
                have y0 := fun n => (hS n).1
                have y1 := fun n => (hS n).2.1
                have y2 := fun n => (hS n).2.2.1
                have y3 := fun n => (hS n).2.2.2.1
                have y4 := fun n => (hS n).2.2.2.2.1
                have y5 := fun n => (hS n).2.2.2.2.2.1
                have y6 := fun n => (hS n).2.2.2.2.2.2.1
                have y7 := fun n => (hS n).2.2.2.2.2.2.2.1
                have y8 := fun n => (hS n).2.2.2.2.2.2.2.2.1
                have y9 := fun n => (hS n).2.2.2.2.2.2.2.2.2.1
                have y10 := fun n => (hS n).2.2.2.2.2.2.2.2.2.2.1
                have y11 := fun n => (hS n).2.2.2.2.2.2.2.2.2.2.2.1
                have y12 := fun n => (hS n).2.2.2.2.2.2.2.2.2.2.2.2.1
                have y13 := fun n => (hS n).2.2.2.2.2.2.2.2.2.2.2.2.2.1
                have y14 := fun n => (hS n).2.2.2.2.2.2.2.2.2.2.2.2.2.2.1
                have y15 := fun n => (hS n).2.2.2.2.2.2.2.2.2.2.2.2.2.2.2
                have V0 := Lib.hid (fun n => (pLen_any (HFn.out n).pk).mono (fun _ _ h => (⟨h.1, ⟨n, h.2.symm⟩⟩ : _ ∧ ∃ m, _ = f m)))
                have V1 := Lib.hid (fun n => (HSz.out _ (HFn.out n).bel).mono (fun _ _ h => (⟨h.1, hstep n _ h.2⟩ : _ ∧ ∃ m, _ = f m)))
                clear hCn hstep hS
                refine wp_region_class f (by kernel_rfl) (lexB_of (by kernel_rfl) (by as_aux_lemma => kernel_rfl)) i0 hf0 ?_
                clear hf0
                repeat (go_big_quiet_step (first | (with_reducible exact V0.out _) | (with_reducible exact V1.out _)))
                refine wpQuiet_nil ?_
                intro w7 hw'
                have HB7 : Hid (BB w w7 b g F4 q1.2 v6 (E ++ ER ++ [q1.2.l.length]) (.slice A7 Q.length c7) Q v5 (R ++ [(r, tv)])) := Lib.hid (by obtain ⟨nE, hw''⟩ := hw'; rw [hw'']; exact HFn.out nE)
                clear y0 y1 y2 y3 y4 y5 y6 y7 y8 y9 y10 y11 y12 y13 y14 y15 V0 V1 hz1 hgt HFn hw'
                go_wp2
                go_roundw
                case rel => exact ⟨k + 1, F4, q1.2, _, _, by go_num, by omega, HR.out.more HMem.out HG.out HY.out a3 HRR.out HB7.out⟩
                case measure => simp [intOf]; omega
              · have hs := hno hz
                rw [hs] at hput
                have hzb : ((q1.1 : Int) == 0) = false := by rw [beq_eq_false_iff_ne]; omega
                have HPut := Lib.hid hput
                clear hput hone hno hs
                go_wp2_with (first | (refine wpList_load1 rfl 33 (.tmp 82) rfl _ V rfl (HLd.out _ HB3.out.bel) ?_) | (go_at_call 10; (with_reducible refine HPut.out.mono ?_); rintro e w4 ⟨rfl, F4, hp4, hk4⟩; have HB4 := Lib.hid (HB3.out.packed hp4 hk4); clear hp4 hk4) | (go_at_call 17; (with_reducible refine (pLen_any HB3.out.pk).mono ?_); rintro e w' ⟨rfl, rfl⟩))
                go_roundw
                case rel => exact ⟨k + 1, F4, s2, _, _, by go_num, by omega, HR.out.stay HB4.out⟩
                case measure => simp [intOf]; omega
        · obtain rfl : k = L1.length := by omega
          obtain ⟨A6, c6, rfl, hq6, hcq6, _⟩ := HR.out.bb.r1.shape
          obtain ⟨A8, c8, rfl, hq8, hcq8⟩ := HR.out.bb.r3.shape
          obtain ⟨EE, hEE⟩ : ∃ X, E ++ ER = X := ⟨_, rfl⟩
          have HBE := Lib.hid HR.out.bb
          have HEE : Hid (EE.length = Q.length + R.length ∧ (∀ j (h : j < E.length) (h' : j < EE.length), EE[j] = E[j]) ∧ ∀ j (h : j < ER.length) (h' : Q.length + j < EE.length), EE[Q.length + j] = ER[j]) := Lib.hid (by
            subst hEE
            refine ⟨by rw [List.length_append, hE, hER], fun j h h' => List.getElem_append_left h, fun j h h' => ?_⟩
            rw [List.getElem_append_right (by rw [hE]; omega)]
            congr 1
            rw [hE]; omega)
          rw [hEE] at HBE hq6 ⊢
          clear hEE
          have hEl := HEE.out.1
          have HEl := Lib.hid hEl
          clear hEl
          unfold maxLen at hcq6 hcq8
          obtain ⟨T, hT⟩ : ∃ T : ByteArray, T = ⟨s2.l.toArray⟩ := ⟨_, rfl⟩
          have HTb : Hid (bs T = s2.l) := Lib.hid (by rw [hT]; exact bs_mk _)
          have HTs : Hid (T.size = s2.l.length) := Lib.hid (by rw [← bs_length, HTb.out])
          have hTs2 : T.size ≤ 65535 := by rw [HTs.out]; omega
          have HTx : Hid (Calls Tryz.prog 19 #[pp g] wr fun e w' => e = .returned (.string T) ∧ wr = w') := Lib.hid (by rw [hT]; exact pText_any HR.out.bb.pk)
          have HCq := Lib.hid HR.out.chq
          have HCr := Lib.hid HR.out.chr
          have HOf := Lib.hid HR.out.of
          have HHE := Lib.hid hE
          have HHR := Lib.hid hER
          obtain ⟨wE, hwE⟩ : ∃ x, x = wr := ⟨_, rfl⟩
          rw [← hwE] at HBE HTx ⊢
          clear hT HR hsl hge hk hE hER hwE
          go_wp2_with (go_at_call 19; (with_reducible refine HTx.out.mono ?_); rintro e w' ⟨rfl, rfl⟩)
          have HST3 : Hid (Rel3 Q.length 0 E wE (.int .i64 0) (.int .i64 0) wE) := Lib.hid ⟨0, rfl, Nat.zero_le _, rfl, Below.refl _ _⟩
          clear HTx
          go_loopw [13, 14] (fun va vi wr => Rel3 Q.length 0 E wE va vi wr) (fun _ vi _ => Q.length - (intOf vi).toNat)
          case atStart => exact HST3.out
          case round =>
            clear HST3
            obtain ⟨m, rfl, hm, rfl, hb⟩ := hrel
            have HB := Lib.hid hb
            clear hb
            rcases Nat.lt_or_ge m Q.length with hlt | hge
            · as_aux_lemma =>
                have hmE : m < E.length := by rw [HHE.out]; exact hlt
                have hmEE : m < EE.length := by rw [HEl.out]; omega
                have hrq := HCq.out.at m hlt hmE
                obtain ⟨gQ, rfl⟩ := HBE.out.r2.ptr csQ_len hlt
                obtain ⟨gE, rfl⟩ := ei_ptr HBE.out.r1 (by omega)
                have hcq : ∀ wx, Below wE.heap.size wE wx → wx.rangeAt gQ (m * 3) (csQ Q[m]) := fun wx hb => (HBE.out.below hb).r2.rng csQ_len m hlt
                have hce : ∀ wx, Below wE.heap.size wE wx → wx.cell? ⟨gE, m, none⟩ = some (.int .i64 (E[m] : Nat)) := fun wx hb => by rw [← HEE.out.2.1 m hmE hmEE]; exact ei_cell (HBE.out.below hb).r1 m hmEE
                have hsu := stC_succ (a := 0) hmE
                obtain ⟨x, hx⟩ : ∃ x, Q[m] = x := ⟨_, rfl⟩
                obtain ⟨n, hn⟩ : ∃ n, E[m] = n := ⟨_, rfl⟩
                obtain ⟨a, ha⟩ : ∃ n, stC 0 E m = n := ⟨_, rfl⟩
                rw [hx, hn, ha] at hrq
                rw [hx] at hcq
                rw [hn] at hce hsu
                rw [ha]
                have hrd : rdQ (bs T) (a : Nat) = ⟨0, n, x⟩ := by have := hrq []; rw [List.append_nil] at this; rw [HTb.out]; exact this
                have hcall := fun wx => rcReadQ_any T (a : Nat) wx (by omega)
                rw [hrd] at hcall
                have HCall : Hid (∀ wx, Calls Tryz.prog 9 #[.string T, .int .i64 (a : Int)] wx (Told wx (.tuple #[.agg #[.string x.n, .int .i64 x.t, .int .i64 x.c], .int .i64 (n : Int), .int .i64 0]))) := Lib.hid hcall
                have HQc := Lib.hid fun wx hb => q_cells (hcq wx hb)
                have HEc := Lib.hid hce
                have HSu := Lib.hid hsu
                have HEq : Hid (∀ wx, (Op.equalIn 10000 38 (.agg #[.string x.n, .int .i64 x.t, .int .i64 x.c]) (.agg #[.string x.n, .int .i64 x.t, .int .i64 x.c])).run Tryz.prog wx = .ok true wx) := Lib.hid fun wx => by have := q_eql x x wx; rw [sameQ_refl] at this; exact this
                clear hx hn ha hrq hrd hcall hcq hce hsu hmE
                go_wp2_with (go_at_call 9; (with_reducible refine (HCall.out _).mono ?_); rintro e w3 ⟨rfl, hb3⟩; have HB3 := Lib.hid (HB.out.trans (hb3.mono HB.out.size)); clear hb3)
                have HL4 := Lib.hid (Lies.new w3 38 #[.string x.n, .int .i64 x.t, .int .i64 x.c])
                have HB4 := Lib.hid (HB3.out.alloc HB3.out.size (.cells #[.string x.n, .int .i64 x.t, .int .i64 x.c] 38))
                obtain ⟨w4, hw4⟩ : ∃ w4, w4 = w3.alloc (.cells #[.string x.n, .int .i64 x.t, .int .i64 x.c] 38) := ⟨_, rfl⟩
                obtain ⟨g3, hg3⟩ : ∃ g3, g3 = w3.heap.size := ⟨_, rfl⟩
                rw [← hw4] at HL4 HB4 ⊢
                rw [← hg3] at HL4 ⊢
                clear hw4 hg3
                obtain ⟨Ix, f, i0, hf0, hCn, hstep⟩ := class_ofC w4
                haveI : Nonempty Ix := ⟨i0⟩
                have HFn := Lib.hid fun n => HB4.out.trans ((hCn n).mono HB4.out.size)
                have hS := fun n => HQc.out _ (HFn.out n)
                have z0 : ∀ n, (f n).cell? ⟨g3, 0, none⟩ = some (.string x.n) := fun n => (HL4.out.next (hCn n)).cell 0
                have z1 : ∀ n, (f n).cell? ⟨g3, 1, none⟩ = some (.int .i64 x.t) := fun n => (HL4.out.next (hCn n)).cell 1
                have z2 : ∀ n, (f n).cell? ⟨g3, 2, none⟩ = some (.int .i64 x.c) := fun n => (HL4.out.next (hCn n)).cell 2
                have y0 := fun n => (hS n).1
                have y1 := fun n => (hS n).2.1
                have y2 := fun n => (hS n).2.2
                have y3 := fun n => HEc.out _ (HFn.out n)
                have heq := fun n => HEq.out (f n)
                have hnn : ((n : Int) != (n : Int)) = false := by rw [bne_eq_false_iff_eq]
                clear hS hCn hstep
                refine wp_region_class f (by kernel_rfl) (lexB_of (by kernel_rfl) (by as_aux_lemma => kernel_rfl)) i0 hf0 ?_
                clear hf0
                repeat (go_big_quiet_step (fail))
                all_goals
                  refine wpQuiet_nil ?_
                  intro _ hw'
                  obtain ⟨nE, hw''⟩ := hw'
                  subst hw''
                clear z0 z1 z2 y0 y1 y2 y3 heq hnn
                go_wp2
                go_roundw
                case rel => exact ⟨m + 1, by go_num, by omega, by rw [HSu.out], HFn.out nE⟩
                case measure => simp [intOf]; omega
            · obtain rfl : m = Q.length := by omega
              have hend := HCq.out.end_
              rw [hend]
              clear hend hge hm
              obtain ⟨wF, hwF⟩ : ∃ x, x = wr := ⟨_, rfl⟩
              rw [← hwF] at HB ⊢
              clear hwF
              have HST4 : Hid (Rel3 R.length e0 ER wE (.int .i64 (e0 : Nat)) (.int .i64 0) wF) := Lib.hid ⟨0, rfl, Nat.zero_le _, rfl, HB.out⟩
              go_wp2
              go_loopw [13, 18] (fun va vi wr => Rel3 R.length e0 ER wE va vi wr) (fun _ vi _ => R.length - (intOf vi).toNat)
              case atStart => exact HST4.out
              case round =>
                clear HST4 HB
                obtain ⟨m, rfl, hm, rfl, hb⟩ := hrel
                have HB := Lib.hid hb
                clear hb
                rcases Nat.lt_or_ge m R.length with hlt | hge
                · as_aux_lemma =>
                    have hmE : m < ER.length := by rw [HHR.out]; exact hlt
                    have hmEE : Q.length + m < EE.length := by rw [HEl.out]; omega
                    have hrq := HCr.out.at m hlt hmE
                    have hfit := HF1.out _ (HOf.out _ (List.getElem_mem hlt))
                    obtain ⟨gR, rfl⟩ := HBE.out.r3.ptr csR_len hlt
                    obtain ⟨gE, rfl⟩ := ei_ptr HBE.out.r1 (by omega)
                    have hcq : ∀ wx, Below wE.heap.size wE wx → wx.rangeAt gR (m * 16) (csR R[m]) := fun wx hb => (HBE.out.below hb).r3.rng csR_len m hlt
                    have hce : ∀ wx, Below wE.heap.size wE wx → wx.cell? ⟨gE, Q.length + m, none⟩ = some (.int .i64 (ER[m] : Nat)) := fun wx hb => by rw [← HEE.out.2.2 m hmE hmEE]; exact ei_cell (HBE.out.below hb).r1 (Q.length + m) hmEE
                    have hsu := stC_succ (a := e0) hmE
                    obtain ⟨x, hx⟩ : ∃ x, R[m] = x := ⟨_, rfl⟩
                    obtain ⟨n, hn⟩ : ∃ n, ER[m] = n := ⟨_, rfl⟩
                    obtain ⟨a, ha⟩ : ∃ n, stC e0 ER m = n := ⟨_, rfl⟩
                    rw [hx, hn, ha] at hrq
                    rw [hx] at hcq hfit
                    rw [hn] at hce hsu
                    rw [ha]
                    obtain ⟨r, tv⟩ := x
                    replace hfit : FitR w r tv := hfit
                    obtain ⟨A, cap, htv, _, _⟩ := hfit.d.row.shape
                    obtain ⟨nt, htv'⟩ : ∃ n, tv = .slice A n cap := ⟨_, htv⟩
                    clear htv hx
                    subst htv'
                    have hrd : rdR (bs T) (a : Nat) = ⟨0, n, r⟩ := by have := hrq []; rw [List.append_nil] at this; rw [HTb.out]; exact this
                    have hcall := fun wx => rcRead_any T (a : Nat) wx (by omega)
                    rw [hrd] at hcall
                    have HCall : Hid (∀ wx, Calls Tryz.prog 8 #[.string T, .int .i64 (a : Int)] wx (RecR wx ⟨0, n, r⟩)) := Lib.hid hcall
                    have HQc := Lib.hid fun wx hb => r_cells (hcq wx hb)
                    have HEc := Lib.hid hce
                    have HSu := Lib.hid hsu
                    have HFit := Lib.hid fun wx (hb : Below wE.heap.size wE wx) => hfit.next (next HBE.out.bel hb)
                    clear hn ha hrq hrd hcall hcq hce hsu hmE hfit
                    go_wp2_with (go_at_call 8; (with_reducible refine (HCall.out _).mono ?_); rintro e w3 ⟨tx, rfl, hsx, ⟨Ax, nx, cx, rfl⟩, _, hb3⟩; have HB3 := Lib.hid (HB.out.trans (hb3.mono HB.out.size)); have HSx := Lib.hid hsx; clear hb3 hsx)
                    have HL4 := Lib.hid (Lies.new w3 33 (cellsR r (.slice Ax nx cx)))
                    have HB4 := Lib.hid (HB3.out.alloc HB3.out.size (.cells (cellsR r (.slice Ax nx cx)) 33))
                    have HSx4 := Lib.hid (HSx.out.next ((Below.refl _ _).alloc (Nat.le_refl _) (.cells (cellsR r (.slice Ax nx cx)) 33)))
                    obtain ⟨w4, hw4⟩ : ∃ w4, w4 = w3.alloc (.cells (cellsR r (.slice Ax nx cx)) 33) := ⟨_, rfl⟩
                    obtain ⟨g3, hg3⟩ : ∃ g3, g3 = w3.heap.size := ⟨_, rfl⟩
                    rw [← hw4] at HL4 HB4 HSx4
                    unfold cellsR at hw4
                    rw [← hw4]
                    rw [← hg3] at HL4 ⊢
                    clear hw4 hg3 HSx
                    obtain ⟨Ix, f, i0, hf0, hCn, hstep⟩ := class_ofC w4
                    haveI : Nonempty Ix := ⟨i0⟩
                    have HFn := Lib.hid fun n => HB4.out.trans ((hCn n).mono HB4.out.size)
                    have hS := fun n => HQc.out _ (HFn.out n)
                    have hZ := fun n => lies16 (HL4.out.next (hCn n))
                    have y0 := fun n => (hS n).1
                    have y1 := fun n => (hS n).2.1
                    have y2 := fun n => (hS n).2.2.1
                    have y3 := fun n => (hS n).2.2.2.1
                    have y4 := fun n => (hS n).2.2.2.2.1
                    have y5 := fun n => (hS n).2.2.2.2.2.1
                    have y6 := fun n => (hS n).2.2.2.2.2.2.1
                    have y7 := fun n => (hS n).2.2.2.2.2.2.2.1
                    have y8 := fun n => (hS n).2.2.2.2.2.2.2.2.1
                    have y9 := fun n => (hS n).2.2.2.2.2.2.2.2.2.1
                    have y10 := fun n => (hS n).2.2.2.2.2.2.2.2.2.2.1
                    have y11 := fun n => (hS n).2.2.2.2.2.2.2.2.2.2.2.1
                    have y12 := fun n => (hS n).2.2.2.2.2.2.2.2.2.2.2.2.1
                    have y13 := fun n => (hS n).2.2.2.2.2.2.2.2.2.2.2.2.2.1
                    have y14 := fun n => (hS n).2.2.2.2.2.2.2.2.2.2.2.2.2.2.1
                    have y15 := fun n => (hS n).2.2.2.2.2.2.2.2.2.2.2.2.2.2.2
                    have z0 := fun n => (hZ n).1
                    have z1 := fun n => (hZ n).2.1
                    have z2 := fun n => (hZ n).2.2.1
                    have z3 := fun n => (hZ n).2.2.2.1
                    have z4 := fun n => (hZ n).2.2.2.2.1
                    have z5 := fun n => (hZ n).2.2.2.2.2.1
                    have z6 := fun n => (hZ n).2.2.2.2.2.2.1
                    have z7 := fun n => (hZ n).2.2.2.2.2.2.2.1
                    have z8 := fun n => (hZ n).2.2.2.2.2.2.2.2.1
                    have z9 := fun n => (hZ n).2.2.2.2.2.2.2.2.2.1
                    have z10 := fun n => (hZ n).2.2.2.2.2.2.2.2.2.2.1
                    have z11 := fun n => (hZ n).2.2.2.2.2.2.2.2.2.2.2.1
                    have z12 := fun n => (hZ n).2.2.2.2.2.2.2.2.2.2.2.2.1
                    have z13 := fun n => (hZ n).2.2.2.2.2.2.2.2.2.2.2.2.2.1
                    have z14 := fun n => (hZ n).2.2.2.2.2.2.2.2.2.2.2.2.2.2.1
                    have z15 := fun n => (hZ n).2.2.2.2.2.2.2.2.2.2.2.2.2.2.2
                    have y16 := fun n => HEc.out _ (HFn.out n)
                    have V1 := Lib.hid (fun n => (show Calls Tryz.prog 20 #[recV r (.slice Ax nx cx), recV r (.slice A nt cap)] (f n) (Told (f n) (.bool true)) from by have := rcSame_any r r (.slice Ax nx cx) (.slice A nt cap) (f n) ⟨(HFit.out _ (HFn.out n)).n, (HFit.out _ (HFn.out n)).x, { (HFit.out _ (HFn.out n)).d with row := HSx4.out.next (hCn n) }⟩ (HFit.out _ (HFn.out n)); rw [sameR_refl] at this; exact this).mono (fun _ _ h => (⟨h.1, hstep n _ h.2⟩ : _ ∧ ∃ m, _ = f m)))
                    have hnn : ((n : Int) != (n : Int)) = false := by rw [bne_eq_false_iff_eq]
                    have hw1 : IntKind.i64.wrap ((Q.length : Int) + (m : Int)) = (Q.length : Int) + (m : Int) := IntWalk.i64_in _ (by omega)
                    have hw2 : 0 ≤ (Q.length : Int) + (m : Int) := by omega
                    have hw3 : ((Q.length : Int) + (m : Int)).toNat = Q.length + m := by omega
                    unfold recV cellsR at V1
                    clear hS hZ hCn hstep
                    refine wp_region_class f (by kernel_rfl) (lexB_of (by kernel_rfl) (by as_aux_lemma => kernel_rfl)) i0 hf0 ?_
                    clear hf0
                    repeat (go_big_quiet_step (with_reducible exact V1.out _))
                    all_goals
                      refine wpQuiet_nil ?_
                      intro _ hw'
                      obtain ⟨nE, hw''⟩ := hw'
                      subst hw''
                    clear y0 y1 y2 y3 y4 y5 y6 y7 y8 y9 y10 y11 y12 y13 y14 y15 z0 z1 z2 z3 z4 z5 z6 z7 z8 z9 z10 z11 z12 z13 z14 z15 y16 V1 hnn hw1 hw2 hw3
                    go_wp2
                    go_roundw
                    case rel => exact ⟨m + 1, by go_num, by omega, by rw [HSu.out], HFn.out nE⟩
                    case measure => simp [intOf]; omega
                · obtain rfl : m = R.length := by omega
                  have hend := HCr.out.end_
                  rw [hend, ← HTs.out]
                  clear hend hge hm
                  go_wp2
                  go_ret
                  exact ⟨rfl, next HBE.out.bel HB.out⟩

theorem RecordBack_walk (v0 v1 : Value) (w : World) (L0 : List MQ) (hrow0 : CRow csQ 3 w v0 L0 ∧ ∀ q ∈ L0, q.n.size ≤ maxLen) (L1 : List (MR × Value)) (hrow1 : CRow csR 16 w v1 L1 ∧ ∀ x ∈ L1, FitR w x.1 x.2) :
    Calls Tryz.prog 4 #[v0, v1] w fun e w' => e = .returned (.bool true) ∧ Below w.heap.size w w' := by
  by_cases h0 : 20 < L0.length
  · exact RecordBack_long v0 v1 w L0 L1 hrow0.1 hrow1.1 (.inl h0)
  · by_cases h1 : 20 < L1.length
    · exact RecordBack_long v0 v1 w L0 L1 hrow0.1 hrow1.1 (.inr h1)
    · exact RecordBack_short v0 v1 w L0 L1 hrow0.1 hrow0.2 hrow1.1 hrow1.2 (by omega) (by omega)
end Go.Proofs.YtbbglpjhblhkdaaGreat
