/-
  The walk of the law PackLengths. No condition beyond that each argument can be read.
-/
import Derived.Test.YtlpgoeigcccmhaaPkLenK
import Derived.Test.YtlpgoeigcccmhaaQui
namespace Go.Proofs.Ytlpgoeigcccmhaa
open Go.RowKit Go.Maps
set_option linter.unusedVariables false

set_option maxHeartbeats 4000000 in
set_option maxRecDepth 100000 in
theorem PackLengths_walk (v0 : Value) (w : World) (L0 : List ByteArray) (hrow0 : NRow w v0 L0) :
    Calls Try.prog 4 #[v0] w fun e w' => e = .returned (.bool true) ∧ Below w.heap.size w w' := by
  obtain ⟨A0, cap0, rfl, hl0, hc0⟩ := hrow0.shape
  have HR0 := Lib.hid hrow0
  have HNew : Hid (∀ wx, Calls Try.prog 10 #[.int .i64 65535] wx (NewP wx 65535)) := Lib.hid fun wx => pNew_any 65535 wx (by decide)
  clear hrow0
  unfold maxLen at hc0
  by_cases hbig : 20 < L0.length
  · have hd : decide ((20 : Int) < (L0.length : Int)) = true := by simpa using (by omega : (20 : Int) < L0.length)
    go_enter Try.func4, Try.ntmps4
    go_wp2_with fail
    refine (lives_any _).mono ?_
    rintro e w1 ⟨rfl, hb1⟩
    have HB1 := Lib.hid hb1
    clear hb1
    go_wp2
    go_ret
    exact ⟨rfl, HB1.out⟩
  · have hd : decide ((20 : Int) < (L0.length : Int)) = false := by simpa using (by omega : (L0.length : Int) ≤ 20)
    have hL0 : L0.length ≤ 20 := by omega
    obtain ⟨R, hR⟩ : ∃ R, R = L0.map bs := ⟨_, rfl⟩
    have hRl : R.length = L0.length := by rw [hR, List.length_map]
    have HRg : Hid (∀ j (h : j < R.length) (h' : j < L0.length), R[j] = bs L0[j]) := Lib.hid (by
      intro j h h'
      subst hR
      exact List.getElem_map ..)
    obtain ⟨i0, hi, hz0, hz1, hz2⟩ := info_parts infoI
    clear hbig hR
    go_enter Try.func4, Try.ntmps4
    go_wp2_with fail
    refine (lives_any _).mono ?_
    rintro e w1 ⟨rfl, hb1⟩
    have HB1 := Lib.hid hb1
    clear hb1
    go_wp2_with fail
    refine (HNew.out _).mono ?_
    rintro e w2 ⟨g, F, rfl, hp, hb⟩
    have HP2 := Lib.hid hp
    have HB2 := Lib.hid (HB1.out.trans (hb.mono HB1.out.size))
    have hS1 := HB1.out.size
    clear hp hb HB1 hd
    obtain ⟨b, hbw⟩ : ∃ b, b = w1.heap.size := ⟨_, rfl⟩
    rw [← hbw] at HP2 hS1
    clear hbw
    have HRl := Lib.hid hRl
    go_wp2
    go_loopw [4, 5] (fun va vi wr => LnRel R w b g va vi wr) (fun _ vi _ => L0.length - (intOf vi).toNat)
    case atStart => exact ⟨0, F, rfl, Nat.zero_le _, Nat.zero_le _, HP2.out, OwnI.nil _ _, fun q (hq : (none : Option Nat) = some q) => (nomatch hq), HB2.out⟩
    case round =>
      obtain ⟨k, F', rfl, hk, hoff, hp, hv, hdj, hb⟩ := hrel
      rw [hRl] at hk
      have HB := Lib.hid hb
      have HP := Lib.hid hp
      have HV := Lib.hid hv
      have HD := Lib.hid hdj
      obtain ⟨A4, cap4, rfl, hsh⟩ := hv.shape
      clear hsh
      clear hp hv hb hdj
      rcases Nat.lt_or_ge k L0.length with hlt | hge
      · obtain ⟨q0, o0, rfl, hq0, hcell0⟩ := (HR0.out.below HB.out (Nat.le_refl _)).at k hlt
        obtain ⟨x, hx⟩ : ∃ x, L0[k] = x := ⟨_, rfl⟩
        have HXk := Lib.hid hx
        rw [hx] at hcell0
        have hRk : R[k]'(by omega) = bs x := by rw [HRg.out k (by omega) hlt, hx]
        have HRk := Lib.hid hRk
        clear hx hRk
        by_cases h300 : 300 < x.size
        · have hd3 : decide ((300 : Int) < (x.size : Int)) = true := by simpa using (by omega : (300 : Int) < x.size)
          go_wp2
          go_ret
          exact ⟨rfl, HB.out⟩
        · have hd3 : decide ((300 : Int) < (x.size : Int)) = false := by simpa using (by omega : (x.size : Int) ≤ 300)
          have hkR : k < R.length := by omega
          have HBeg : Hid (Calls Try.prog 20 #[pp g] wr (Pkr wr b F' g 65535 (stM R k) (.tuple #[.int .i64 (off R k), .int .i64 0]))) := Lib.hid (by
            have := pBegin_any HP.out
            rw [stL_begin R (by omega) (by omega)] at this
            exact this)
          have hxl : (R[k]'hkR).length = x.size := by rw [HRk.out, bs_length]
          have HPut : Hid (∀ w3 F3, PK w3 b F3 g 65535 (stM R k) → Calls Try.prog 11 #[pp g, .string x] w3 (Pkr w3 b F3 g 65535 (stL R (k + 1)) (.int .i64 0))) := Lib.hid fun w3 F3 h3 => by
            have := pPut_any h3 x (by omega)
            rw [← HRk.out, stM_put R hkR (by omega)] at this
            exact this
          have hoff' : off R (k + 1) ≤ 302 * (k + 1) := by rw [off_succ R k hkR]; omega
          have h1 : ∀ u ∈ [I64 (off R k)], u.oneCell' = true := fun u hu => by rw [List.mem_singleton.1 hu]; rfl
          have hm1 : (atsN R k).length + 1 ≤ maxLen := by rw [atsN_length]; unfold maxLen; omega
          have hm2 : ((atsN R k).length + 1) * 8 ≤ 140737488355328 := by rw [atsN_length]; omega
          clear h300 hxl
          go_wp2_with (first | (go_at_call 20; (with_reducible refine HBeg.out.mono ?_); rintro e w3 ⟨rfl, F3, hp3, hk3⟩; have HP3 := Lib.hid hp3; have HK3 := Lib.hid hk3; have HB3 := Lib.hid (HB.out.trans (hk3.below.mono hS1)); have hcell3 := (HR0.out.below HB3.out (Nat.le_refl _)).cell k hlt; rw [HXk.out] at hcell3; clear hp3 hk3) | (go_at_call 11; (with_reducible refine (HPut.out _ _ HP3.out).mono ?_); rintro e w4 ⟨rfl, F4, hp4, hk4⟩; have HP4 := Lib.hid hp4; have HK4 := Lib.hid (HK3.out.trans hk4); have HV4 := Lib.hid (at_pk HV.out HD.out HK4.out); have HA4 : Hid ((w4.alloc (.cells #[I64 (off R k)] 3)).ownsRow b 3 1 (.slice A4 (atsN R k).length cap4) (atsN R k).length ((atsN R k).map I64)) := Lib.hid (World.ownsRow.alloc HV4.out.1 _); have hbl4 : b ≤ (w4.alloc (.cells #[I64 (off R k)] 3)).heap.size := le_alloc hp4.base_le _; clear hp4 hk4) | (at_builtin; refine wpList_append_own_at _ rfl _ _ 29 rfl b 3 i0 (.int .i64 0) 1 8 Try.underlying29 hi hz0 hz1 hz2 rfl (by decide) (.slice A4 (atsN R k).length cap4) (atsN R k).length ((atsN R k).map I64) rfl HA4.out ⟨w4.heap.size, 0, none⟩ 1 1 [I64 (off R k)] rfl rfl (cell_one_new _ _ _) h1 hm1 hm2 hbl4 ?_; intro v5 w5 hown5 hg5 hnil5 hob5; have HE := Lib.hid (at_app HP4.out HV4.out.1 HV4.out.2 HP4.out.base_le hown5 hg5 hob5); clear hown5 hg5 hnil5 hob5))
          go_roundw
          case rel =>
            rw [← atsN_succ] at HE
            exact ⟨k + 1, F4, by go_num, by omega, hoff', HE.out.2.2.1, HE.out.1, HE.out.2.1, (HB.out.trans (HK4.out.below.mono hS1)).trans (HE.out.2.2.2.mono hS1)⟩
          case measure => simp [intOf]; omega
      · obtain rfl : k = L0.length := by omega
        have HOff : Hid (off R R.length ≤ 6040) := Lib.hid (by rw [HRl.out]; omega)
        rw [atsN_length] at HV HD ⊢
        go_wp2
        go_loopw [8] (fun vi wr' => LdRel R w b g (.slice A4 L0.length cap4) vi wr') (fun vi _ => (intOf vi + 1).toNat)
        case atStart =>
          have e : flat (R.take L0.length) = flat R := by rw [← HRl.out, List.take_length]
          refine ⟨L0.length, F', flat R, rfl, by rw [HRl.out]; exact Nat.le_refl _, by rw [← HRl.out]; exact fil_start R, ?_, by rw [HRl.out]; exact HV.out, HD.out, HB.out⟩
          have := HP.out
          unfold stL at this
          rw [e] at this
          exact this
        case round =>
          clear HP HV HD HB hoff
          obtain ⟨j, F2, l, hv8, hj, hfil, hp, hv, hdj, hb⟩ := hrel
          rw [HRl.out] at hj
          have HP := Lib.hid hp
          have HV := Lib.hid hv
          have HD := Lib.hid hdj
          have HB := Lib.hid hb
          have HFil := Lib.hid hfil
          clear hp hdj hb hfil
          rcases j with _ | j
          · obtain rfl : _ = Value.int .i64 (-1) := hv8
            obtain ⟨T, hT⟩ : ∃ T : ByteArray, T = ⟨l.toArray⟩ := ⟨_, rfl⟩
            have hTb : bs T = l := by rw [hT]; exact bs_mk _
            have hTs : T.size = off R R.length := by rw [← bs_length, hTb]; exact HFil.out.len
            have HTx : Hid (Calls Try.prog 18 #[pp g] wr fun e w' => e = .returned (.string T) ∧ wr = w') := Lib.hid (by rw [hT]; exact pText_any HP.out)
            have hbig : T.size ≤ 6040 := by have := HOff.out; omega
            have HTB := Lib.hid hTb
            have HTS := Lib.hid hTs
            clear hv hj hT hTb hTs
            go_wp2_with (go_at_call 18; (with_reducible refine HTx.out.mono ?_); rintro e w' ⟨rfl, rfl⟩)
            go_loopw [10] (fun vi wr' => LtRel L0.length wr vi wr') (fun vi _ => L0.length - (intOf vi).toNat)
            case atStart => exact ⟨0, 0, rfl, Nat.zero_le _, rfl⟩
            case round =>
              obtain ⟨p, mm, rfl, hp, rfl⟩ := hrel
              rcases Nat.lt_or_ge p L0.length with hlt | hge
              · have hpR : p < R.length := by have := HRl.out; omega
                obtain ⟨q, rfl⟩ := HV.out.ptr (fun e => by have := atsN_length R R.length; rw [e, HRl.out] at this; simp at this; omega)
                obtain ⟨q0, o0, rfl, hq0, hcx'⟩ := (HR0.out.below HB.out (Nat.le_refl _)).at p hlt
                have hca' := at_cell HV.out (atsN_get R hpR)
                obtain ⟨x, hx⟩ : ∃ x, L0[p] = x := ⟨_, rfl⟩
                obtain ⟨a, ha⟩ : ∃ a, off R p = a := ⟨_, rfl⟩
                have hRx : R[p]'hpR = bs x := by rw [HRg.out p hpR hlt, hx]
                have hmo := off_mono R hpR R.length hpR (Nat.le_refl _)
                have hTs := HTS.out
                rw [hRx, bs_length, ← hTs, ha] at hmo
                obtain ⟨c, d, hc, hd, hcd⟩ := num2 (by have := HFil.out.len; omega) (HFil.out.nums p hpR (Nat.zero_le _))
                rw [ha, ← HTB.out] at hc hd
                have hrow := HFil.out.rows p hpR
                rw [hRx, bs_length, ha, ← HTB.out] at hrow
                have hsl : (T.extract (a + 2) (a + 2 + x.size)).toList = x.toList := by
                  rw [bs_toList, bs_toList, bs_extract, ← hrow]
                  congr 1
                  omega
                have hls : l.length = T.size := by rw [← bs_length, HTB.out]
                rw [hls, ha] at hcd
                have hca : ∀ mm, (wr.drewN mm).cell? ⟨q, p, none⟩ = some (.int .i64 (a : Int)) := fun mm => by rw [ha] at hca'; exact hca'
                have hcx : ∀ mm, (wr.drewN mm).cell? ⟨q0, o0 + p, none⟩ = some (.string x) := fun mm => by rw [hx] at hcx'; exact hcx'
                have b3 : a + 1 < T.size := by omega
                have b4 : a < T.size := by omega
                have hTa : T[a]'b4 = c := by
                  have := List.getElem?_eq_some_iff.1 hc
                  exact this.2
                have hTd : T[a + 1]'b3 = d := by
                  have := List.getElem?_eq_some_iff.1 hd
                  exact this.2
                have hc8 := c.toNat_lt
                have hd8 := d.toNat_lt
                have z1 : IntKind.i64.wrap ((a : Int) + 1) = (a : Int) + 1 := IntWalk.i64_in _ (by omega)
                have z2 : IntKind.i64.wrap ((a : Int) + 2) = (a : Int) + 2 := IntWalk.i64_in _ (by omega)
                have z3 : IntKind.i64.wrap ((a : Int) + 2 + (x.size : Int)) = (a : Int) + 2 + (x.size : Int) := IntWalk.i64_in _ (by omega)
                have z4 : IntKind.i64.wrap ((T.size : Int) - (a : Int)) = (T.size : Int) - (a : Int) := IntWalk.i64_in _ (by omega)
                have z5 : IntKind.i64.wrap ((T.size : Int) - (a : Int) - 2) = (T.size : Int) - (a : Int) - 2 := IntWalk.i64_in _ (by omega)
                have z6 : IntKind.i64.wrap (256 * (c.toNat : Int)) = 256 * (c.toNat : Int) := IntWalk.i64_in _ (by omega)
                have z7 : IntKind.i64.wrap (256 * (c.toNat : Int) + (d.toNat : Int)) = 256 * (c.toNat : Int) + (d.toNat : Int) := IntWalk.i64_in _ (by omega)
                have y1 : ((a : Int) + 1).toNat = a + 1 := by omega
                have y2 : ((a : Int) + 2).toNat = a + 2 := by omega
                have y3 : ((a : Int) + 2 + (x.size : Int)).toNat = a + 2 + x.size := by omega
                have b1 : (0 : Int) ≤ (a : Int) := by omega
                have b2 : (a : Int) + 2 + (x.size : Int) ≤ (T.size : Int) := by omega
                have hne : ((256 * (c.toNat : Int) + (d.toNat : Int)) != ((T.size : Int) - (a : Int) - 2)) = false := by simp only [bne_eq_false_iff_eq]; omega
                clear hmo hc hd hrow hls hcd hRx hx ha hca' hcx' hTs
                obtain ⟨Ix, f, i0, hf0, hff'⟩ : ∃ (Ix : Type) (f : Ix → World) (i0 : Ix), (wr.drewN mm).drew = f i0 ∧ ∀ n, ∃ m, f n = wr.drewN m := ⟨Nat, fun n => wr.drewN n, mm + 1, rfl, fun n => ⟨n, rfl⟩⟩
                have HFF := Lib.hid hff'
                clear hff'
                haveI : Nonempty Ix := ⟨i0⟩
                have hcaf : ∀ n, (f n).cell? ⟨q, p, none⟩ = some (.int .i64 (a : Int)) := fun n => by obtain ⟨m, e⟩ := HFF.out n; rw [e]; exact hca m
                have hcxf : ∀ n, (f n).cell? ⟨q0, o0 + p, none⟩ = some (.string x) := fun n => by obtain ⟨m, e⟩ := HFF.out n; rw [e]; exact hcx m
                clear hca hcx
                go_wp2
                try simp only [List.append_eq, List.cons_append, List.nil_append]
                refine wp_region_class f (by kernel_rfl) (lexB_of (by kernel_rfl) (by as_aux_lemma => kernel_rfl)) i0 hf0 ?_
                clear hf0
                repeat (go_big_quiet_step (fail))
                all_goals
                  refine wpQuiet_nil ?_
                  intro _ hw'
                  obtain ⟨nE, hw''⟩ := hw'
                  obtain ⟨mE, hmE⟩ := HFF.out nE
                  rw [hmE] at hw''
                  subst hw''
                  clear hmE
                  go_wp2
                  go_roundw
                  case rel => exact ⟨p + 1, mE, by go_num, by omega, rfl⟩
                  case measure => simp [intOf]; omega
              · obtain rfl : p = L0.length := by omega
                go_wp2
                go_ret
                exact ⟨rfl, below_draws HB.out mm⟩
          · have hv9 : _ = Value.int .i64 (j : Int) := hv8.trans (congrArg (Value.int .i64) (by omega))
            subst hv9
            obtain ⟨q, rfl⟩ := hv.ptr (fun e => by have := atsN_length R R.length; rw [e, HRl.out] at this; simp at this; omega)
            have hjR : j < R.length := by have := HRl.out; omega
            have hcj := at_cell HV.out (atsN_get R hjR)
            clear hv hv8
            have HOk : Hid (∀ w3 F3, PK w3 b F3 g 65535 (stE R l (j + 1)) → Calls Try.prog 21 #[pp g, .int .i64 (off R j)] w3 (Pkr w3 b F3 g 65535 (stE R (over l (off R j) (octs (l.length - off R j - 2) 2)) j) (.int .i64 0))) := Lib.hid fun w3 F3 h3 => by
              have := pEnd_any h3 (off R j)
              rw [stE_ok] at this
              exact this
            rcases j with _ | m
            · go_wp2_with (go_at_call 21; (with_reducible refine (HOk.out _ _ HP.out).mono ?_); rintro e w3 ⟨rfl, F3, hp3, hk3⟩; have HP3 := Lib.hid hp3; have HK3 := Lib.hid hk3; clear hp3 hk3)
              go_roundw
              case rel =>
                have ha := at_pk HV.out HD.out HK3.out
                have hfin : LdRel R w b g (.slice (some ⟨q, 0, none⟩) L0.length cap4) (.int .i64 ((0 : Int) - 1)) w3 := ⟨0, F3, _, rfl, Nat.zero_le _, fil_step HFil.out hjR, HP3.out, ha.1, ha.2, HB.out.trans (HK3.out.below.mono hS1)⟩
                first | exact hfin | ((repeat apply Exists.intro); exact ⟨hfin, rfl⟩)
              case measure => simp [intOf]
            · have hcm := at_cell HV.out (atsN_get R (show m < R.length by omega))
              have hm1 : ((m + 1 : Nat) : Int) - 1 = (m : Int) := by omega
              have HNo : Hid (Calls Try.prog 21 #[pp g, .int .i64 (off R m)] wr (Pkr wr b F2 g 65535 (stE R l (m + 1 + 1)) (.int .i64 9))) := Lib.hid (by
                have := pEnd_any HP.out (off R m)
                rw [stE_no R l m (by omega)] at this
                exact this)
              go_wp2_with (go_at_call 21; (first | ((with_reducible refine HNo.out.mono ?_); rintro e w3 ⟨rfl, F3, hp3, hk3⟩; have HP3 := Lib.hid hp3; have HK3 := Lib.hid hk3; have hcj3 := at_cell (at_pk HV.out HD.out hk3).1 (atsN_get R hjR); clear hp3 hk3) | ((with_reducible refine (HOk.out _ _ HP3.out).mono ?_); rintro e w4 ⟨rfl, F4, hp4, hk4⟩; have HP4 := Lib.hid hp4; have HK4 := Lib.hid (HK3.out.trans hk4); clear hp4 hk4)))
              go_roundw
              case rel =>
                have ha := at_pk HV.out HD.out HK4.out
                have hfin : LdRel R w b g (.slice (some ⟨q, 0, none⟩) L0.length cap4) (.int .i64 (m : Int)) w4 := ⟨m + 1, F4, _, congrArg (Value.int .i64) (by omega), by omega, fil_step HFil.out hjR, HP4.out, ha.1, ha.2, HB.out.trans (HK4.out.below.mono hS1)⟩
                first | exact hfin | ((repeat apply Exists.intro); exact ⟨hfin, rfl⟩)
              case measure => simp [intOf]; omega
end Go.Proofs.Ytlpgoeigcccmhaa
