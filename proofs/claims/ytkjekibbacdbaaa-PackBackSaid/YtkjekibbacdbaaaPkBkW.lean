/-
  The walk of the law PackBack. No condition beyond that each argument can be read.
-/
import Derived.Test.YtkjekibbacdbaaaPkBkM
import Derived.Test.YtkjekibbacdbaaaPkRead
import Derived.Test.YtkjekibbacdbaaaQui
import Derived.Deep.DeepCutAuto
namespace Go.Proofs.Ytkjekibbacdbaaa
open Go.RowKit Go.Maps
set_option linter.unusedVariables false

theorem bs_cons'' {R : ByteArray} (h : 0 < R.size) : ∃ t, bs R = R[0] :: t ∧ t.length + 1 = R.size := by
  have h1 := drop_at R 0 h
  rw [List.drop_zero] at h1
  refine ⟨_, h1, ?_⟩
  have := congrArg List.length h1
  rw [bs_length, List.length_cons] at this
  omega
theorem PbRel.mk3 {L0 : List ByteArray} {w : World} {b g k m e : Nat} {A6 A7 A8 : Option Addr} {c6 c7 c8 : Nat} {wr : World} {F : Nat → Prop} {s : PS} {q0 o0 : Nat} {x y : ByteArray} {o1 o2 : List Nat} {D : List ByteArray} (h : B3 w wr b g F s q0 o0 x (.slice A6 (o1 ++ [m]).length c6) (o1 ++ [m]) (.slice A7 (o2 ++ [e]).length c7) (o2 ++ [e]) (.slice A8 (D ++ [y]).length c8) (D ++ [y])) (hk : k ≤ L0.length) (hg : GoodP s) (hl : s.l.length ≤ 300 + 257 * k) (hD : D.length + 1 ≤ k) (hr : Row3 s.l (o1 ++ [m]) (o2 ++ [e]) (D ++ [y])) (vi : Value) (hv : vi = .int .i64 (k : Nat)) :
    PbRel L0 w b g (.slice A6 (o1.length + 1) c6) (.slice A7 (o2.length + 1) c7) (.slice A8 (D.length + 1) c8) vi wr := by
  have := PbRel.mk' h hk hg hl (by rw [List.length_append, List.length_singleton]; exact hD) hr vi hv
  simpa only [List.length_append, List.length_singleton] using this
set_option maxHeartbeats 4000000 in
set_option maxRecDepth 100000 in
theorem PackBack_walk (v0 v1 : Value) (ah : ByteArray) (hah : ah.size ≤ maxLen) (w : World) (L0 : List ByteArray) (hrow0 : NRow w v0 L0) (L1 : List Bool) (hrow1 : BRow w v1 L1) :
    Calls Try.prog 3 #[v0, v1, .string ah] w fun e w' => e = .returned (.bool true) ∧ Below w.heap.size w w' := by
  obtain ⟨A0, cap0, rfl, hl0, hc0⟩ := hrow0.shape
  obtain ⟨A1, cap1, rfl, hl1, hc1⟩ := hrow1.shape
  have HR0 := Lib.hid hrow0
  have HR1 := Lib.hid hrow1
  have HNew : Hid (∀ wx, Calls Try.prog 5 #[.int .i64 65535] wx (NewP wx 65535)) := Lib.hid fun wx => pNew_any 65535 wx (by decide)
  clear hrow0 hrow1
  unfold maxLen at hc0 hc1
  by_cases hbig : 60 < L0.length
  · have hd : decide ((60 : Int) < (L0.length : Int)) = true := by simpa using (by omega : (60 : Int) < L0.length)
    go_enter Try.func3, Try.ntmps3
    go_wp2_with fail
    refine (lives_any _).mono ?_
    rintro e w1 ⟨rfl, hb1⟩
    have HB1 := Lib.hid hb1
    clear hb1
    go_wp2
    go_ret
    exact ⟨rfl, HB1.out⟩
  have hd : decide ((60 : Int) < (L0.length : Int)) = false := by simpa using (by omega : (L0.length : Int) ≤ 60)
  have hL0 : L0.length ≤ 60 := by omega
  by_cases hbig2 : 300 < ah.size
  · have hd2 : decide ((300 : Int) < (ah.size : Int)) = true := by simpa using (by omega : (300 : Int) < ah.size)
    go_enter Try.func3, Try.ntmps3
    go_wp2_with fail
    refine (lives_any _).mono ?_
    rintro e w1 ⟨rfl, hb1⟩
    have HB1 := Lib.hid hb1
    clear hb1
    go_wp2
    go_ret
    exact ⟨rfl, HB1.out⟩
  have hd2 : decide ((300 : Int) < (ah.size : Int)) = false := by simpa using (by omega : (ah.size : Int) ≤ 300)
  have hah3 : ah.size ≤ 300 := by omega
  have hput := put_room (M := 65535) (s := ps0) (x := bs ah) rfl (by show 0 + (bs ah).length ≤ _; rw [bs_length]; omega)
  have HPut : Hid (∀ wx b F g, PK wx b F g 65535 ps0 → Calls Try.prog 6 #[pp g, .string ah] wx (Pkr wx b F g 65535 { ps0 with l := bs ah } (.int .i64 0))) := Lib.hid fun wx b F g hx => by
    have := pPut_any hx ah (by omega)
    rw [hput] at this
    exact this
  have HGood : Hid (GoodP { ps0 with l := bs ah }) := Lib.hid (good0.app (bs ah))
  clear hbig hbig2 hput hah
  go_enter Try.func3, Try.ntmps3
  go_wp2_with fail
  refine (lives_any _).mono ?_
  rintro e w1 ⟨rfl, hb1⟩
  have HB1 := Lib.hid hb1
  clear hb1
  go_wp2_with fail
  refine (HNew.out _).mono ?_
  rintro e w2 ⟨g, F, rfl, hp, hb⟩
  have HP2 := Lib.hid hp
  have HB2 := Lib.hid (HB1.out.trans (hb.mono HB1.out.size))
  have hS1 := HB1.out.size
  clear hp hb HB1
  obtain ⟨b, hbw⟩ : ∃ b, b = w1.heap.size := ⟨_, rfl⟩
  rw [← hbw] at HP2 hS1
  clear hbw
  go_wp2_with (go_at_call 6; (with_reducible refine (HPut.out _ _ _ _ HP2.out).mono ?_); rintro e w3 ⟨rfl, F3, hp3, hk3⟩; have HP3 := Lib.hid hp3; have HB3 := Lib.hid (HB2.out.trans (hk3.below.mono hS1)); clear hp3 hk3)
  clear hd hd2
  go_loopw [8, 9, 10, 11] (fun v1 v2 v3 vi wr => PbRel L0 w b g v1 v2 v3 vi wr) (fun _ _ _ vi _ => L0.length - (intOf vi).toNat)
  case atStart => exact ⟨0, F3, _, [], [], [], rfl, Nat.zero_le _, HP3.out, HGood.out, by show (bs ah).length ≤ _; rw [bs_length]; omega, Nat.zero_le _, Row3.nil _, OwnI.nil _ _, OwnI.nil _ _, TOwn.none_ _ _, (fun q hq => by cases hq), (fun q hq => by cases hq), (fun q hq => by cases hq), (fun q hq => by cases hq), HB3.out⟩
  case round =>
    obtain ⟨k, F', s, o1, o2, D, rfl, hk, hp, hg, hsl, hDk, hr3, hv1, hv2, hv3, hd1, hd2, hd3, hd12, hb⟩ := hrel
    have HB := Lib.hid hb
    have HG := Lib.hid hg
    have HRow := Lib.hid hr3
    rcases Nat.lt_or_ge k L0.length with hlt | hge
    · obtain ⟨q0, o0, rfl, hq0, hcell0⟩ := (HR0.out.below HB.out (Nat.le_refl _)).at k hlt
      obtain ⟨x, hx⟩ : ∃ x, L0[k] = x := ⟨_, rfl⟩
      have hxs : x.size ≤ maxLen := by rw [← hx]; exact HR0.out.2 _ (List.getElem_mem hlt)
      rw [hx] at hcell0
      clear hx
      have hqw : q0 < w.heap.size := by
        obtain ⟨g', o', e, hlt', _⟩ := HR0.out.at k hlt
        injection e with e
        injection e with e1 e2
        omega
      have HS : Hid (B3 w wr b g F' s q0 (o0 + k) x _ o1 _ o2 _ D) := Lib.hid ⟨hp, hv1, hv2, hv3, hd1, hd2, hd3, hd12, hcell0, by omega, HB.out, hS1⟩
      have hinv := hp.inv
      have hk60 : k < 60 := by omega
      have HB' := HB
      clear hp hv1 hv2 hv3 hd1 hd2 hd3 hd12 hr3 hb hg
      have HLen := Lib.hid (pLen_any HS.out.pk)
      obtain ⟨pl, hpl⟩ : ∃ pl : Bool, pl = ((L1[k]?).getD false) := ⟨_, rfl⟩
      have HPl := Lib.hid hpl
      clear hpl
      go_upto_region 15 with (go_at_call 7; (with_reducible refine HLen.out.mono ?_); rintro e w' ⟨rfl, rfl⟩)
      go_cut [51] (fun t wc => t = .bool pl ∧ wc = wr)
      case first =>
        rcases Nat.lt_or_ge k L1.length with hk1 | hk1
        · obtain ⟨q1, p1, rfl, hq1, hcell1⟩ := (HR1.out.below HB.out (Nat.le_refl _)).at k hk1
          have hl1' : L1[k] = pl := by rw [HPl.out, List.getElem?_eq_getElem hk1]; rfl
          rw [hl1'] at hcell1
          clear hl1'
          go_wp2
          go_meet
          case rel => exact ⟨rfl, rfl⟩
        · have hplf : pl = false := by rw [HPl.out, List.getElem?_eq_none hk1]; rfl
          subst hplf
          have hkd : decide (k < L1.length) = false := by simp; omega
          go_wp2
          go_meet
          case rel => exact ⟨rfl, rfl⟩
      case rest =>
        obtain ⟨rfl, rfl⟩ := hcut
        go_upto_if 51 with (fail)
        go_cut [12, 13, 14] (fun vm va ve wc => PbCut L0 w b g s k q0 (o0 + k) x u8 o1 u9 o2 u10 D vm va ve wc)
        case first =>
          cases pl
          · obtain ⟨q1, hq1⟩ : ∃ q, nameS 65535 s (bs x) = q := ⟨_, rfl⟩
            obtain ⟨q2, hq2⟩ : ∃ q, nameS 65535 q1.2 (bs x) = q := ⟨_, rfl⟩
            have HN1 := Lib.hid (pName_any HS.out.pk x hxs)
            rw [hq1] at HN1
            have HN2 := Lib.hid fun wx Fx (hx : PK wx b Fx g 65535 q1.2) => pName_any hx x hxs
            rw [hq2] at HN2
            have HMath := Lib.hid fun hi1 => pb_name HG.out hinv hsl hk60 x q1 q2 hq1 hi1 hq2
            have hi1 : Inv 65535 q1.2 := by rw [← hq1]; exact nameS_inv hinv (bs x)
            obtain ⟨hm1, hm2, hm3⟩ := HMath.out hi1
            have HM2 := Lib.hid hm2
            have hlen2 : q1.2.l.length ≤ 70000 := Nat.le_trans hm2.le (Nat.le_trans hm2.len (by omega))
            clear hq1 hq2 hi1 hm2
            by_cases hc : q1.1 = 0
            · rw [hc] at HN1
              by_cases hx0 : x.size = 0
              · have e1 : x.toList = [] := by rw [bs_toList]; exact List.eq_nil_of_length_eq_zero (by rw [bs_length]; exact hx0)
                have e2 : x.toList.isEmpty = true := by rw [e1]; rfl
                clear hc hx0 hm1 hm3
                go_wp2_with (first | (go_at_call 9; (first | ((with_reducible refine HN1.out.mono ?_); rintro e w3 ⟨rfl, F3, hp3, hk3⟩; have HS3 := Lib.hid (HS.out.packed hp3 hk3); have hcell3 := HS3.out.arg; clear hp3 hk3) | ((with_reducible refine (HN2.out _ _ HS3.out.pk).mono ?_); rintro e w4 ⟨rfl, F4, hp4, hk4⟩; have HS4 := Lib.hid (HS3.out.packed hp4 hk4); have hcell4 := HS4.out.arg; clear hp4 hk4))) | (go_at_call 7; (first | ((with_reducible refine (pLen_any HS4.out.pk).mono ?_); rintro e w' ⟨rfl, rfl⟩) | ((with_reducible refine (pLen_any HS3.out.pk).mono ?_); rintro e w' ⟨rfl, rfl⟩))))
                go_meet
                case rel => exact ⟨_, _, _, _, rfl, rfl, rfl, HM2.out, HS4.out⟩
              · have hpos : 0 < x.size := by omega
                obtain ⟨t0, ht0, _⟩ := bs_cons'' hpos
                have e1 : ¬ x.toList = [] := by rw [bs_toList, ht0]; simp
                have e2 : x.toList.isEmpty = false := by rw [bs_toList, ht0]; rfl
                have hag := hm3 hc (by rw [ht0]; simp)
                have hne : ((q2.2.l.length : Int) != (q1.2.l.length : Int) + 2) = false := by rw [bne_eq_false_iff_eq]; omega
                clear hc hx0 hm1 hm3 hag ht0
                go_wp2_with (first | (go_at_call 9; (first | ((with_reducible refine HN1.out.mono ?_); rintro e w3 ⟨rfl, F3, hp3, hk3⟩; have HS3 := Lib.hid (HS.out.packed hp3 hk3); have hcell3 := HS3.out.arg; clear hp3 hk3) | ((with_reducible refine (HN2.out _ _ HS3.out.pk).mono ?_); rintro e w4 ⟨rfl, F4, hp4, hk4⟩; have HS4 := Lib.hid (HS3.out.packed hp4 hk4); have hcell4 := HS4.out.arg; clear hp4 hk4))) | (go_at_call 7; (first | ((with_reducible refine (pLen_any HS4.out.pk).mono ?_); rintro e w' ⟨rfl, rfl⟩) | ((with_reducible refine (pLen_any HS3.out.pk).mono ?_); rintro e w' ⟨rfl, rfl⟩))))
                go_meet
                case rel => exact ⟨_, _, _, _, rfl, rfl, rfl, HM2.out, HS4.out⟩
            · have hcb : ((q1.1 : Int) == 0) = false := by rw [beq_eq_false_iff_ne]; omega
              clear hc hm1 hm3
              go_wp2_with (first | (go_at_call 9; (first | ((with_reducible refine HN1.out.mono ?_); rintro e w3 ⟨rfl, F3, hp3, hk3⟩; have HS3 := Lib.hid (HS.out.packed hp3 hk3); have hcell3 := HS3.out.arg; clear hp3 hk3) | ((with_reducible refine (HN2.out _ _ HS3.out.pk).mono ?_); rintro e w4 ⟨rfl, F4, hp4, hk4⟩; have HS4 := Lib.hid (HS3.out.packed hp4 hk4); have hcell4 := HS4.out.arg; clear hp4 hk4))) | (go_at_call 7; (first | ((with_reducible refine (pLen_any HS4.out.pk).mono ?_); rintro e w' ⟨rfl, rfl⟩) | ((with_reducible refine (pLen_any HS3.out.pk).mono ?_); rintro e w' ⟨rfl, rfl⟩))))
              go_meet
              case rel => exact ⟨_, _, _, _, rfl, rfl, rfl, HM2.out, HS4.out⟩
          · have HPl2 := Lib.hid (pPlain_any HS.out.pk x hxs)
            have HM2 := Lib.hid (pb_plain HG.out hsl hk60 x)
            obtain ⟨q, hq⟩ : ∃ q, plainS 65535 s (bs x) = q := ⟨_, rfl⟩
            rw [hq] at HPl2 HM2
            clear hq
            go_wp2_with (go_at_call 8; (with_reducible refine HPl2.out.mono ?_); rintro e w3 ⟨rfl, F3, hp3, hk3⟩; have HS3 := Lib.hid (HS.out.packed hp3 hk3); clear hp3 hk3)
            go_meet
            case rel => exact ⟨_, _, _, _, rfl, rfl, rfl, HM2.out, HS3.out⟩
        case rest =>
          obtain ⟨m, s', c, F', rfl, rfl, rfl, hmid, hs3⟩ := hcut
          have HMid := Lib.hid hmid
          have HS := Lib.hid hs3
          have hcx := hmid.err
          have hmle := hmid.le
          have hml := hmid.len
          have hcC : Hid (∀ wx, Calls Try.prog 10 #[.string x] wx fun e w' => e = .returned (.int .i64 c) ∧ Below wx.heap.size wx w') := Lib.hid fun wx => by rw [hcx]; exact nCheck_any x wx hxs
          go_upto_region 22 with (fail)
          obtain ⟨Ix, f, i0, hf0, hCn', hstep'⟩ : ∃ (Ix : Type) (f : Ix → World) (i0 : Ix), wc.drew = f i0 ∧ (∀ n, Below wc.heap.size wc (f n)) ∧ (∀ n w'', Below (f n).heap.size (f n) w'' → ∃ m, w'' = f m) := ⟨{w' // Below wc.heap.size wc w'}, Subtype.val, ⟨wc.drew, ⟨rfl, rfl, rfl, Nat.le_refl _, fun _ _ => rfl⟩⟩, rfl, fun n => n.2, fun n w'' h => ⟨⟨w'', next n.2 h⟩, rfl⟩⟩
          have HCn := Lib.hid hCn'
          have Hstep := Lib.hid hstep'
          clear hCn' hstep'
          haveI : Nonempty Ix := ⟨i0⟩
          have hxc : ∀ n, (f n).cell? ⟨q0, o0 + k, none⟩ = some (.string x) := fun n => (HS.out.below (HCn.out n)).arg
          have V0 := Lib.hid (fun n => (hcC.out (f n)).mono (fun _ _ h => (⟨h.1, Hstep.out n _ h.2⟩ : _ ∧ ∃ m, _ = f m)))
          have V1 := Lib.hid (fun n => (pLen_any (HS.out.below (HCn.out n)).pk).mono (fun _ _ h => (⟨h.1, ⟨n, h.2.symm⟩⟩ : _ ∧ ∃ m, _ = f m)))
          have hcc : ((c : Int) != (c : Int)) = false := by rw [bne_eq_false_iff_eq]
          have hz1 : IntKind.i64.wrap ((s'.l.length : Int) - (m : Int)) = (s'.l.length : Int) - (m : Int) := IntWalk.i64_in _ (by omega)
          by_cases hc0 : c = 0
          · obtain ⟨hy1, hy2⟩ := hmid.yes hc0
            subst hc0
            have HSz : Hid (∀ wx, Calls Try.prog 11 #[.string x] wx fun e w' => e = .returned (.int .i64 ((x.size + 1 : Nat) : Int)) ∧ Below wx.heap.size wx w') := Lib.hid fun wx => by
              have := pSize_any x wx hxs
              rw [show sizeN (bs x) = x.size + 1 from by unfold sizeN; rw [if_pos hcx.symm, bs_length]] at this
              exact this
            have V2 := Lib.hid (fun n => (HSz.out (f n)).mono (fun _ _ h => (⟨h.1, Hstep.out n _ h.2⟩ : _ ∧ ∃ m, _ = f m)))
            rw [bs_length] at hy1
            have hgt : decide (((x.size + 1 : Nat) : Int) < (s'.l.length : Int) - (m : Int)) = false := by simp; omega
            have hgt' : decide ((x.size : Int) + 1 < (s'.l.length : Int) - (m : Int)) = false := by simp; omega
            have HY := Lib.hid hy2
            clear hmid hs3 hcx hy1 hy2 hinv
            refine wp_region_class f (by kernel_rfl) (lexB_of (by kernel_rfl) (by as_aux_lemma => kernel_rfl)) i0 hf0 ?_
            clear hf0
            repeat (go_big_quiet_step (first | (with_reducible exact V0.out _) | (with_reducible exact V1.out _) | (with_reducible exact V2.out _)))
            all_goals
              refine wpQuiet_nil ?_
              intro _ hw'
              obtain ⟨nE, hw''⟩ := hw'
              subst hw''
              have HS2 := Lib.hid (HS.out.below (HCn.out nE))
            have hlen1 : o1.length ≤ 100000 := by have := HRow.out.l1; omega
            have hlen2 : o2.length ≤ 100000 := by have := HRow.out.l2; omega
            have hlen3 : D.length ≤ 100000 := by omega
            obtain ⟨w5, hw5⟩ : ∃ w5, f nE = w5 := ⟨_, rfl⟩
            rw [hw5] at HS2
            have hxw : w5.cell? ⟨q0, o0 + k, none⟩ = some (.string x) := HS2.out.arg
            clear HCn Hstep hxc V0 V1 V2 HS hgt hgt' hz1 hcC HSz hcc
            go_wp2
            try rw [hw5]
            clear hw5
            go_region_held3 (fun w' => w'.cell? ⟨q0, o0 + k, none⟩ = some (.string x)) (first | go_keep | exact (show B3 w _ b g F' s' q0 (o0 + k) x _ _ _ _ _ _ from by (repeat (first | (with_reducible refine B3.alloc ?_ _) | (with_reducible refine B3.drew ?_) | (with_reducible refine B3.drewN ?_ _))); first | exact HT3.out | exact HT2.out | exact HT1.out | exact HS2.out).arg) (first | (refine stepB1 (w0 := w) (b := b) (g := g) (F := F') (s := s') (q0 := q0) (o0 := o0 + k) (x := x) (v1 := u8) (o1 := o1) (v2 := u9) (o2 := o2) (v3 := u10) (D := D) (by rfl) (.tmp 117) (.tmp 119) (by rfl) ?_ (by rfl) _ m (by rfl) ?_ hlen1 ?_; ((repeat (first | (with_reducible refine B3.alloc ?_ _) | (with_reducible refine B3.drew ?_) | (with_reducible refine B3.drewN ?_ _))); exact HS2.out); (refine Lies.cell0 (t := 3) ?_; (repeat (first | exact Lies.newAt _ _ _ (by simp) | (with_reducible refine Lies.alloc ?_ _) | (with_reducible refine Lies.drew ?_) | (with_reducible refine Lies.drewN ?_ _)))); intro A6 cap6 w6 hB6 hS6; have HT1 := Lib.hid hB6; have HP1 := Lib.hid hS6; clear hB6 hS6) | (go_at_call 7; (first | (with_reducible refine (pLen_any HT1.out.pk).mono ?_) | (with_reducible refine (pLen_any (HT1.out.alloc _).pk).mono ?_) | (with_reducible refine (pLen_any (HT1.out.alloc _).drew.pk).mono ?_) | (with_reducible refine (pLen_any HT1.out.drew.pk).mono ?_)); rintro e w' ⟨rfl, rfl⟩) | (refine stepB2 (w0 := w) (b := b) (g := g) (F := F') (s := s') (q0 := q0) (o0 := o0 + k) (x := x) (v1 := .slice A6 (o1 ++ [m]).length cap6) (o1 := o1 ++ [m]) (v2 := u9) (o2 := o2) (v3 := u10) (D := D) (by rfl) (.tmp 121) (.tmp 124) (by rfl) ?_ (by rfl) _ s'.l.length (by rfl) ?_ hlen2 ?_; ((repeat (first | (with_reducible refine B3.alloc ?_ _) | (with_reducible refine B3.drew ?_) | (with_reducible refine B3.drewN ?_ _))); exact HT1.out); (refine Lies.cell0 (t := 3) ?_; (repeat (first | exact Lies.newAt _ _ _ (by simp) | (with_reducible refine Lies.alloc ?_ _) | (with_reducible refine Lies.drew ?_) | (with_reducible refine Lies.drewN ?_ _)))); intro A7 cap7 w7 hB7 hS7; have HT2 := Lib.hid hB7; have HP2 := Lib.hid hS7; clear hB7 hS7) | (refine stepB3 (w0 := w) (b := b) (g := g) (F := F') (s := s') (q0 := q0) (o0 := o0 + k) (x := x) (v1 := .slice A6 (o1 ++ [m]).length cap6) (o1 := o1 ++ [m]) (v2 := .slice A7 (o2 ++ [s'.l.length]).length cap7) (o2 := o2 ++ [s'.l.length]) (v3 := u10) (D := D) (by rfl) (.tmp 126) (.tmp 131) (by rfl) ?_ (by rfl) _ x (by rfl) ?_ hlen3 ?_; ((repeat (first | (with_reducible refine B3.alloc ?_ _) | (with_reducible refine B3.drew ?_) | (with_reducible refine B3.drewN ?_ _))); exact HT2.out); (refine Lies.cell0 (t := 32) ?_; (repeat (first | exact Lies.newAt _ _ _ (by simp) | (with_reducible refine Lies.alloc ?_ _) | (with_reducible refine Lies.drew ?_) | (with_reducible refine Lies.drewN ?_ _) | (refine HP2.out.2 _ _ ?_) | (refine HP1.out.2 _ _ ?_)))); intro A8 cap8 w8 hB8 hS8; have HT3 := Lib.hid hB8; clear hB8 hS8) | fail)
            all_goals
              clear HB' HPl
              go_wp2
              go_roundw
              case rel => exact PbRel.mk3 (k := k + 1) HT3.out hlt HMid.out.good HMid.out.len (by omega) (HRow.out.more HMid.out.app HY.out) _ (by go_num)
              case measure => simp [intOf]; omega
          · have hcz : ((c : Int) == 0) = false := by rw [beq_eq_false_iff_ne]; omega
            clear hmid hs3 hcx hinv
            refine wp_region_class f (by kernel_rfl) (lexB_of (by kernel_rfl) (by as_aux_lemma => kernel_rfl)) i0 hf0 ?_
            clear hf0
            repeat (go_big_quiet_step (first | (with_reducible exact V0.out _) | (with_reducible exact V1.out _)))
            all_goals
              refine wpQuiet_nil ?_
              intro _ hw'
              obtain ⟨nE, hw''⟩ := hw'
              subst hw''
              have HS2 := Lib.hid (HS.out.below (HCn.out nE))
            obtain ⟨w5, hw5⟩ : ∃ w5, f nE = w5 := ⟨_, rfl⟩
            rw [hw5] at HS2
            clear HCn Hstep hxc V0 V1 HS hz1 hcC hcc
            go_wp2
            go_roundw
            case rel => exact PbRel.mk' HS2.out hlt HMid.out.good HMid.out.len (by omega) (HRow.out.stay HMid.out.app) _ (by go_num)
            case measure => simp [intOf]; omega
    · obtain rfl : k = L0.length := by omega
      have HP := Lib.hid hp
      have HV1 := Lib.hid hv1
      have HV2 := Lib.hid hv2
      have HV3 := Lib.hid hv3
      obtain ⟨A4, cap4, rfl, hsh4⟩ := hv1.shape
      obtain ⟨A5, cap5, rfl, hsh5⟩ := hv2.shape
      obtain ⟨A6, cap6, rfl⟩ := hv3.shape
      have HDk := Lib.hid hDk
      obtain ⟨T, hT⟩ : ∃ T : ByteArray, T = ⟨s.l.toArray⟩ := ⟨_, rfl⟩
      have hTb : bs T = s.l := by rw [hT]; exact bs_mk _
      have hTs : T.size = s.l.length := by rw [← bs_length, hTb]
      have hTs2 : T.size ≤ 65535 := by omega
      have hD60 : D.length ≤ 60 := by omega
      have HTB := Lib.hid hTb
      have HTx := Lib.hid fun m : Nat => (hT ▸ pText_any (hp.next (below_draws (Below.refl _ _) m)) : Calls Try.prog 13 #[pp g] (wr.drewN m) fun e w' => e = .returned (.string T) ∧ wr.drewN m = w')
      clear hp hv1 hv2 hv3 hd1 hd2 hd3 hd12 hr3 hb hg hsh4 hsh5 hT hTb hTs hDk hsl
      rw [HRow.out.l1] at HV1 ⊢
      rw [HRow.out.l2] at HV2 ⊢
      go_wp2
      go_loopw [16] (fun vi wr' => PcRel D.length wr vi wr') (fun vi _ => D.length - (intOf vi).toNat)
      case atStart => exact ⟨0, 0, rfl, Nat.zero_le _, rfl⟩
      case round =>
        obtain ⟨p, mm, rfl, hp, rfl⟩ := hrel
        rcases Nat.lt_or_ge p D.length with hlt | hge
        · obtain ⟨d, hd0⟩ : ∃ d, D[p]? = some d := ⟨_, List.getElem?_eq_getElem hlt⟩
          obtain ⟨a, e, n, ha1, he1, hr1, hn1⟩ := HRow.out.rd p d hd0
          obtain ⟨q1, rfl⟩ := HV1.out.ptr (fun e => by rw [e] at ha1; simp at ha1)
          obtain ⟨q2, rfl⟩ := HV2.out.ptr (fun e => by rw [e] at he1; simp at he1)
          obtain ⟨q3, rfl⟩ := HV3.out.ptr (fun e => by rw [e] at hlt; simp at hlt)
          have hca : ∀ mm, (wr.drewN mm).cell? ⟨q1, p, none⟩ = some (.int .i64 (a : Int)) := fun mm => at_cell HV1.out ha1
          have hce : ∀ mm, (wr.drewN mm).cell? ⟨q2, p, none⟩ = some (.int .i64 (e : Int)) := fun mm => at_cell HV2.out he1
          have hcd : ∀ mm, (wr.drewN mm).cell? ⟨q3, p, none⟩ = some (.string d) := fun mm => HV3.out.at hd0
          have HRd := Lib.hid fun m : Nat => read_any T a (bs d) d e n (by rw [HTB.out]; exact hr1) rfl hn1 hTs2 (wr.drewN m)
          clear hd0 ha1 he1 hr1 hn1
          obtain ⟨Ix, f, i0, hf0, hff'⟩ : ∃ (Ix : Type) (f : Ix → World) (i0 : Ix), (wr.drewN mm).drew = f i0 ∧ ∀ n, ∃ m, f n = wr.drewN m := ⟨Nat, fun n => wr.drewN n, mm + 1, rfl, fun n => ⟨n, rfl⟩⟩
          have HFF := Lib.hid hff'
          clear hff'
          haveI : Nonempty Ix := ⟨i0⟩
          have hcaf : ∀ n, (f n).cell? ⟨q1, p, none⟩ = some (.int .i64 (a : Int)) := fun n => by obtain ⟨m, e⟩ := HFF.out n; rw [e]; exact hca m
          have hcef : ∀ n, (f n).cell? ⟨q2, p, none⟩ = some (.int .i64 (e : Int)) := fun n => by obtain ⟨m, e⟩ := HFF.out n; rw [e]; exact hce m
          have hcdf : ∀ n, (f n).cell? ⟨q3, p, none⟩ = some (.string d) := fun n => by obtain ⟨m, e⟩ := HFF.out n; rw [e]; exact hcd m
          have V0 := Lib.hid (fun n => ((HFF.out n).choose_spec ▸ HTx.out (HFF.out n).choose : Calls Try.prog 13 #[pp g] (f n) fun e w' => e = .returned (.string T) ∧ f n = w').mono (fun _ _ h => (⟨h.1, ⟨n, h.2.symm⟩⟩ : _ ∧ ∃ m, _ = f m)))
          have V1 := Lib.hid (fun n => ((HFF.out n).choose_spec ▸ HRd.out (HFF.out n).choose : Calls Try.prog 12 #[.string T, .int .i64 a] (f n) fun e' w' => e' = .returned (.tuple #[.string d, .int .i64 e, .bool true]) ∧ f n = w').mono (fun _ _ h => (⟨h.1, ⟨n, h.2.symm⟩⟩ : _ ∧ ∃ m, _ = f m)))
          go_wp2
          try simp only [List.append_eq, List.cons_append, List.nil_append]
          refine wp_region_class f (by kernel_rfl) (lexB_of (by kernel_rfl) (by as_aux_lemma => kernel_rfl)) i0 hf0 ?_
          clear hf0
          repeat (go_big_quiet_step (first | (with_reducible exact V0.out _) | (with_reducible exact V1.out _)))
          all_goals
            refine wpQuiet_nil ?_
            intro _ hw'
            obtain ⟨nE, hw''⟩ := hw'
            obtain ⟨mE, hmE⟩ := HFF.out nE
            rw [hmE] at hw''
            subst hw''
            clear hmE
            have hca2 := hca mE
            have hce2 := hce mE
            have hcd2 := hcd mE
            go_wp2
            go_roundw
            case rel => exact ⟨p + 1, mE, by go_num, by omega, rfl⟩
            case measure => simp [intOf]; omega
        · obtain rfl : p = D.length := by omega
          have HEr := Lib.hid fun m : Nat => pErr_any (HP.out.next (below_draws (Below.refl _ _) m))
          have hf := HG.out.f
          go_wp2_with (go_at_call 14; (with_reducible refine (HEr.out _).mono ?_); rintro e w' ⟨rfl, rfl⟩)
          go_ret
          exact ⟨rfl, below_draws HB.out _⟩
end Go.Proofs.Ytkjekibbacdbaaa
