/-
  What a packer's Name answers: the walk. Conditions: as the theorem names them.
-/
import Derived.Test.YtodedbokeodmkaaGreatZk23
namespace Go.Proofs.YtodedbokeodmkaaGreat
open Go.RowKit Go.Maps
set_option linter.unusedVariables false
set_option maxRecDepth 100000

section
variable {w : World} {base g M : Nat} {F : Nat → Prop} {s : PS}
theorem headN_len {c : UInt8} {t : List UInt8} (h1 : 1 ≤ c.toNat) (h2 : c.toNat ≤ t.length) : 2 ≤ (headN (c :: t)).length := by
  rw [headN_cons, List.length_cons, List.length_take]
  omega
set_option maxHeartbeats 2000000 in
theorem pName_any (h : PK w base F g M s) (x : ByteArray) (hs : x.size ≤ maxLen) :
    Calls Tryz.prog 71 #[pp g, .string x] w (Pkr w base F g M (nameS M s (bs x)).2 (.int .i64 (nameS M s (bs x)).1)) := by
  have HR := Lib.hid (prefusal_any h x hs)
  have hbl := h.base_le
  have HP := Lib.hid h
  clear h
  by_cases hz : refN s (bs x) = 0
  · obtain ⟨hv, _, hc, _⟩ := nameS_run (M := M) (bs x) hz
    rw [hv]
    obtain ⟨K0, hK0⟩ : ∃ K0, nameF M ((bs x).length + 1) (bs x) s = K0 := ⟨_, rfl⟩
    rw [hK0]
    have hx254 := (chkN_iff.1 hc).1
    rw [bs_length] at hK0 hx254
    have HL0 := Lib.hid (labs_of_chk hc)
    have HK0 := Lib.hid hK0
    have HCl := Lib.hid fun wx => Clone_any x wx (by omega)
    rw [hz] at HR
    clear hz hv hc hK0
    go_enter Tryz.func71, Tryz.ntmps71
    go_wp2_with (first | (go_at_call 103; (with_reducible refine HR.out.mono ?_); rintro e w1 ⟨rfl, hb1⟩; have HB1 := Lib.hid hb1; clear hb1) | (go_at_call 104; (with_reducible refine (HCl.out _).mono ?_); rintro e w1' ⟨rfl, hb1'⟩; have HB1' := Lib.hid hb1'; clear hb1'))
    go_loopw [6] (fun v wr => NmRel w base F g M K0 v wr) (fun v _ => strLen v)
    case atStart => exact ⟨x, x.size + 1, s, F, rfl, by omega, HL0.out, hx254, (HP.out.next HB1.out).next HB1'.out, (Kf.of_below HB1.out hbl).trans (Kf.of_below HB1'.out (HP.out.next HB1.out).base_le), HK0.out⟩
    case round =>
      obtain ⟨r, k, s', F', rfl, hk, hlb, hr254, hp, hkf, hre⟩ := hrel
      obtain ⟨k, rfl⟩ : ∃ j, k = j + 1 := ⟨k - 1, by omega⟩
      obtain ⟨gw, gm, n, sv, hx⟩ := hp
      have hcw := hx.cw
      have hcm := hx.cm
      have HMp := Lib.hid hx.mp
      have HX := Lib.hid hx
      have HKF := Lib.hid hkf
      have hrs : r.size ≤ maxLen := by unfold maxLen; omega
      clear hx hkf
      rcases Nat.eq_zero_or_pos r.size with h0 | h0
      · have e1 := empty_yes h0
        rw [bs_nil_size h0, nameF_nil] at hre
        have HPut : Hid (Calls Tryz.prog 106 #[.pointer (some ⟨gw, 0, none⟩), .string ⟨#[0]⟩] wr (Pkr wr base F' g M K0.2 (.int .i64 K0.1))) := Lib.hid (by
          have := HX.out.wput ⟨#[0]⟩ (by decide)
          rw [show bs ⟨#[0]⟩ = [0] from rfl, hre] at this
          exact this)
        clear hlb hre h0 hk hrs
        go_wp2_with (go_at_call 106; (with_reducible refine HPut.out.mono ?_); rintro e w2 ⟨rfl, F2, hp2, hk2⟩; have HP2 := Lib.hid hp2; have HK2 := Lib.hid hk2; clear hp2 hk2)
        go_ret
        exact ⟨rfl, _, HP2.out, HKF.out.trans HK2.out⟩
      · obtain ⟨e1, e2⟩ := empty_no h0
        obtain ⟨c, t, hct, hc1, hc2, hc3, hlb'⟩ := hlb.step (bs_ne h0)
        have HLB := Lib.hid hlb'
        have hrl := rest_lt (bs_ne h0)
        have hh2 := headN_len hc1 hc3
        rw [← hct] at hh2
        rcases hm : s'.m (bs r) with _ | a
        · obtain ⟨x1, hx1⟩ : ∃ x1 : ByteArray, bs x1 = headN (bs r) := ⟨⟨(headN (bs r)).toArray⟩, bs_mk _⟩
          obtain ⟨y1, hy1⟩ : ∃ y1 : ByteArray, bs y1 = restN (bs r) := ⟨⟨(restN (bs r)).toArray⟩, bs_mk _⟩
          have HC := Lib.hid (pcut_any r wr c t hct hc3 (by omega) x1 y1 hx1 hy1)
          rw [← hy1, bs_length, bs_length] at hrl
          rw [← hy1] at HLB
          have hx1s : x1.size ≤ 1099511627776 := by
            have := congrArg List.length hx1
            rw [bs_length] at this
            have h2 : (headN (bs r)).length ≤ (bs r).length := by unfold headN; rw [List.length_take]; exact Nat.min_le_right _ _
            rw [bs_length] at h2
            omega
          have HLen := Lib.hid (wLen_any HX.out.wr)
          have HPut := Lib.hid fun w1 hb1 => (HX.out.next (w' := w1) hb1).wputx x1 hx1s
          rw [hx1] at HPut
          have HM := Lib.hid hm
          by_cases hz : (putS M s' (headN (bs r))).1 = 0
          · rw [nameF_next (bs_ne h0) hm hz, ← hy1] at hre
            have hok := (put_ok hz).2.2
            obtain ⟨q, hq⟩ : ∃ q, putS M s' (headN (bs r)) = q := ⟨_, rfl⟩
            rw [hq] at HPut hz hre hok
            rw [hz] at HPut
            have hql : n + 1 ≤ q.2.l.length := by
              have := HX.out.hn
              rw [hok]
              simp only [List.length_append]
              omega
            have ha : s'.l.length ≤ 65535 := by
              have h1 := HX.out.inv.le
              have h2 := HX.out.inv.most
              omega
            have HKeep := Lib.hid fun w1 F1 (hx : PKx w1 base F1 g gw gm n sv M q.2) => pkeep_any hx r s'.l.length hrs ha hql
            have HRE := Lib.hid hre
            clear hre hq hz hct hlb hlb' hx1 hy1 hc1 hc2 hc3 hm hok hql ha hh2
            go_wp2_with (first | (at_lookup; refine wpList_look_no _ rfl _ _ rfl gm n s'.m rfl HMp.out r rfl hrs HM.out ?_) | (go_at_call 78; (with_reducible refine HLen.out.mono ?_); rintro e w2' ⟨rfl, rfl⟩) | (go_at_call 105; (with_reducible refine HC.out.mono ?_); rintro e w2 ⟨rfl, hb2⟩; have HB2 := Lib.hid hb2; have hcw2 := (HX.out.next hb2).cw; clear hb2) | (go_at_call 106; (with_reducible refine (HPut.out _ HB2.out).mono ?_); rintro e w3 ⟨rfl, F3, hp3, hk3⟩; have HP3 := Lib.hid hp3; have HK3 := Lib.hid hk3; clear hp3 hk3) | (go_at_call 107; (with_reducible refine (HKeep.out _ _ HP3.out).mono ?_); rintro e w4 ⟨rfl, F4, hp4, hk4⟩; have HP4 := Lib.hid hp4; have HK4 := Lib.hid hk4; clear hp4 hk4))
            go_roundw
            case rel => exact ⟨y1, k, _, F4, rfl, by omega, HLB.out, by omega, HP4.out, HKF.out.trans ((Kf.of_below HB2.out HX.out.base_le).trans (HK3.out.trans HK4.out)), HRE.out⟩
            case measure => exact hrl
          · rw [nameF_long (bs_ne h0) hm hz] at hre
            rw [hre] at HPut hz
            have hne : ((K0.1 : Int) != 0) = true := by rw [bne_iff_ne]; omega
            clear hre hz hct hlb hlb' hx1 hy1 hc1 hc2 hc3 hm hh2
            go_wp2_with (first | (at_lookup; refine wpList_look_no _ rfl _ _ rfl gm n s'.m rfl HMp.out r rfl hrs HM.out ?_) | (go_at_call 78; (with_reducible refine HLen.out.mono ?_); rintro e w2' ⟨rfl, rfl⟩) | (go_at_call 105; (with_reducible refine HC.out.mono ?_); rintro e w2 ⟨rfl, hb2⟩; have HB2 := Lib.hid hb2; have hcw2 := (HX.out.next hb2).cw; clear hb2) | (go_at_call 106; (with_reducible refine (HPut.out _ HB2.out).mono ?_); rintro e w3 ⟨rfl, F3, hp3, hk3⟩; have HP3 := Lib.hid hp3.pk; have HK3 := Lib.hid hk3; clear hp3 hk3))
            go_ret
            exact ⟨rfl, _, HP3.out, HKF.out.trans ((Kf.of_below HB2.out HX.out.base_le).trans HK3.out)⟩
        · rw [nameF_some (bs_ne h0) hm] at hre
          have ha := HX.out.inv.mark _ _ hm
          have HM := Lib.hid hm
          obtain ⟨v, hv⟩ : ∃ v : Nat, (49152 : Int) + (a : Int) = (v : Int) := ⟨49152 + a, by omega⟩
          have hva : 49152 + a = v := by omega
          rw [hva] at hre
          have HNum := Lib.hid (HX.out.wnum v 2 (by omega))
          rw [hre] at HNum
          clear hre hct hlb hlb' hc1 hc2 hc3 hm hh2 hva
          go_wp2_with (first | (at_lookup; refine wpList_look_yes _ rfl _ _ rfl gm n s'.m rfl HMp.out r rfl hrs a HM.out ?_) | (go_at_call 72; (with_reducible refine HNum.out.mono ?_); rintro e w2 ⟨rfl, F2, hp2, hk2⟩; have HP2 := Lib.hid hp2; have HK2 := Lib.hid hk2; clear hp2 hk2))
          go_ret
          exact ⟨rfl, _, HP2.out, HKF.out.trans HK2.out⟩
  · rw [(nameS_err (M := M) (bs x) hz).1]
    have hne : ((refN s (bs x) : Int) != 0) = true := by rw [bne_iff_ne]; omega
    clear hz
    go_enter Tryz.func71, Tryz.ntmps71
    go_wp2_with (go_at_call 103; (with_reducible refine HR.out.mono ?_); rintro e w1 ⟨rfl, hb1⟩; have HB1 := Lib.hid hb1; clear hb1)
    go_ret
    exact ⟨rfl, F, HP.out.next HB1.out, Kf.of_below HB1.out hbl⟩
end
end Go.Proofs.YtodedbokeodmkaaGreat
