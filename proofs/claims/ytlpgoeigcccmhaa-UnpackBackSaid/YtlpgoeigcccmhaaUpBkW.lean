/-
  The walk of the law UnpackBack. No condition beyond that each argument can be read.
-/
import Derived.Test.YtlpgoeigcccmhaaUpBkK
import Derived.Test.YtlpgoeigcccmhaaUpLives
namespace Go.Proofs.Ytlpgoeigcccmhaa
open Go.RowKit
set_option linter.unusedVariables false

set_option maxHeartbeats 4000000 in
set_option maxRecDepth 100000 in
theorem UnpackBack_walk (v0 : Value) (w : World) (L0 : List ByteArray) (hrow0 : NRow w v0 L0) :
    Calls Try.prog 7 #[v0] w fun e w' => e = .returned (.bool true) ∧ Below w.heap.size w w' := by
  obtain ⟨A0, cap0, rfl, hl0, hc0⟩ := hrow0.shape
  have HR0 := Lib.hid hrow0
  clear hrow0
  unfold maxLen at hc0
  by_cases hbig : 60 < L0.length
  · have hd : decide ((60 : Int) < (L0.length : Int)) = true := by simpa using (by omega : (60 : Int) < L0.length)
    have hbb := Below.refl w.heap.size w
    go_enter Try.func7, Try.ntmps7
    go_wp2_with fail
    refine (ulives.go _).mono ?_
    rintro e w' ⟨rfl, hb'⟩
    replace hbb := next hbb hb'
    clear hb'
    go_wp2
    go_ret
    exact ⟨rfl, hbb⟩
  · have hd : decide ((60 : Int) < (L0.length : Int)) = false := by simpa using (by omega : (L0.length : Int) ≤ 60)
    have hL0 : L0.length ≤ 60 := by omega
    obtain ⟨i0, hi, hz0, hz1, hz2⟩ := info_parts stNm.info
    clear hbig
    go_enter Try.func7, Try.ntmps7
    go_wp2_with fail
    refine (ulives_any _).mono ?_
    rintro e w1 ⟨rfl, hb1⟩
    have HB1 := Lib.hid hb1
    clear hb1
    go_wp2_with fail
    refine (rpNew_any _).mono ?_
    rintro e w2 ⟨gp, gw, F, rfl, hp, hb⟩
    have HP2 := Lib.hid hp
    have HB2 := Lib.hid (HB1.out.trans (hb.mono HB1.out.size))
    have hS1 := HB1.out.size
    clear hp hb HB1 hd
    obtain ⟨b, hbw⟩ : ∃ b, b = w1.heap.size := ⟨_, rfl⟩
    rw [← hbw] at HP2 hS1
    clear hbw
    go_wp2
    go_loopw [4, 5] (fun vd vi wr => BkRel L0 w b gp gw vd vi wr) (fun _ vi _ => L0.length - (intOf vi).toNat)
    case atStart => exact ⟨0, F, _, [], _, [], rfl, Nat.zero_le _, HP2.out, GM.nil _, Nat.zero_le _, Nat.zero_le _, TOwn.none_ _ _, (fun q hq => by cases hq), Nat.zero_le _, rfl, HB2.out⟩
    case round =>
      obtain ⟨k, F', S, ms, vm, D, rfl, hk, hx, hg, hSl, hml, hv, hdj, hDk, hch, hb⟩ := hrel
      have HB := Lib.hid hb
      have HX := Lib.hid hx
      have HV := Lib.hid hv
      have HD := Lib.hid hdj
      have HG := Lib.hid hg
      have HCh := Lib.hid hch
      obtain ⟨A4, cap4, rfl⟩ := hv.shape
      rcases Nat.lt_or_ge k L0.length with hlt | hge
      · obtain ⟨q0, o0, rfl, hq0, hcell0⟩ := (HR0.out.below HB.out (Nat.le_refl _)).at k hlt
        obtain ⟨x, hx0⟩ : ∃ x, L0[k] = x := ⟨_, rfl⟩
        have HXk := Lib.hid hx0
        rw [hx0] at hcell0
        clear hx0
        by_cases h400 : 400 < x.size
        · have hd4 : decide ((x.size : Int) ≤ 400) = false := by simp; omega
          clear hx hg hv hdj hch hb
          go_wp2
          go_roundw
          case rel => exact ⟨k + 1, F', S, ms, vm, D, by go_num, hlt, HX.out, HG.out, by omega, by omega, HV.out, HD.out, by omega, HCh.out, HB.out⟩
          case measure => simp [intOf]; omega
        · have hd4 : decide ((x.size : Int) ≤ 400) = true := by simp; omega
          by_cases hc : chkN (bs x) = 0
          · have hxl : x.size ≤ 254 := by have := (chkN_iff.1 hc).1; rw [bs_length] at this; exact this
            have HN := Lib.hid (rpName_ok hx x hc (by omega) (by omega) hg)
            have h1 : ∀ u ∈ [Value.string x], u.oneCell' = true := fun u hu => by rw [List.mem_singleton.1 hu]; rfl
            have hm1 : D.length + 1 ≤ maxLen := by unfold maxLen; omega
            have hm2 : (D.length + 1) * 16 ≤ 140737488355328 := by omega
            clear hx hg hv hdj hch hb hc
            go_wp2_with (first | (go_at_call 29; (with_reducible refine HN.out.mono ?_); rintro e w3 ⟨rfl, F3, vm3, S3, ms3, hx3, hput, hml3, hk3⟩; have HX3 := Lib.hid hx3; have HPut := Lib.hid hput; have HML3 := Lib.hid hml3; have HB3 := Lib.hid (HB.out.trans (hk3.below.mono hS1)); have HV3 := Lib.hid (bk_pk HV.out HD.out hk3); have hcell3 := (HR0.out.below HB3.out (Nat.le_refl _)).cellB k hlt; rw [HXk.out] at hcell3; have HA3 := Lib.hid (World.ownsRow.alloc HV3.out.1 (.cells #[.string x] 32)); have hbl3 : b ≤ (w3.alloc (.cells #[.string x] 32)).heap.size := le_alloc hx3.base_le _; clear hx3 hput hml3 hk3) | (at_builtin; refine wpList_append_own_at _ rfl _ _ 22 rfl b 32 i0 (.string ⟨#[]⟩) 1 16 Try.underlying22 hi hz0 hz1 hz2 rfl (by decide) (.slice A4 D.length cap4) D.length (D.map Value.string) rfl HA3.out ⟨w3.heap.size, 0, none⟩ 1 1 [.string x] rfl rfl (cell_one_new _ _ _) h1 hm1 hm2 hbl3 ?_; intro v5 w5 hown5 hg5 hnil5 hob5; have HE := Lib.hid (bk_app HX3.out HV3.out.1 HV3.out.2 HX3.out.base_le hown5 hg5 hob5); clear hown5 hg5 hnil5 hob5))
            go_roundw
            case rel =>
              obtain ⟨⟨y, hy, hy1, hy2⟩, hg3, c, hr3⟩ := HPut.out
              have hS3 := congrArg List.length hy
              rw [List.length_append, bs_length, bs_length] at hS3
              rw [bs_length] at hy2
              have hr3' : Ru (bs S3) S.size S.size (bs x) S3.size c := by rw [bs_length, bs_length] at hr3; exact hr3
              have hch3 : Chn (bs S3) 0 (D ++ [x]) S3.size := Chn.snoc (by rw [hy]; exact HCh.out.app y) hr3' (by rw [bs_length]; exact hxl) (by omega)
              exact ⟨k + 1, F3, S3, ms3, vm3, D ++ [x], by go_num, hlt, HE.out.2.2.1, hg3, by omega, by have := HML3.out; omega, HE.out.1, HE.out.2.1, by simp; omega, hch3, HB3.out.trans (HE.out.2.2.2.mono hS1)⟩
            case measure => simp [intOf]; omega
          · have HN := Lib.hid (rpName_bad hx x (by unfold maxLen; omega) hc)
            have hne : ((chkN (bs x) : Int) == 0) = false := by rw [beq_eq_false_iff_ne]; omega
            clear hx hg hv hdj hch hb hc
            go_wp2_with (go_at_call 29; (with_reducible refine HN.out.mono ?_); rintro e w3 ⟨rfl, rfl⟩)
            go_roundw
            case rel => exact ⟨k + 1, F', S, ms, vm, D, by go_num, hlt, HX.out, HG.out, by omega, by omega, HV.out, HD.out, by omega, HCh.out, HB.out⟩
            case measure => simp [intOf]; omega
      · obtain rfl : k = L0.length := by omega
        have c0 : wr.cell? ⟨gp, 0, none⟩ = some (.pointer (some ⟨gw, 0, none⟩)) := hx.lies.cell 0
        have d0 : wr.cell? ⟨gw, 0, none⟩ = some (.string S) := hx.wr.cell 0
        have HSm : Hid (S.size ≤ maxLen) := Lib.hid (by unfold maxLen; omega)
        clear hx hg hv hdj hch hb
        go_wp2
        obtain ⟨wE, hwE⟩ : ∃ wE, wE = wr := ⟨_, rfl⟩
        rw [← hwE] at HX HV HB
        rw [← hwE]
        rw [← hwE] at c0 d0
        go_loopw [6, 7] (fun va vi wr' => BlRel S D wE va vi wr') (fun _ vi _ => D.length - (intOf vi).toNat)
        case atStart => exact ⟨0, 0, rfl, rfl, Nat.zero_le _, HCh.out, by rw [hwE]; exact Below.refl _ _⟩
        case round =>
          clear hwE
          obtain ⟨j, p, rfl, rfl, hj, hch, hb⟩ := hrel
          have HBr := Lib.hid hb
          have hX := HX.out.next hb
          have c1 : wr.cell? ⟨gp, 0, none⟩ = some (.pointer (some ⟨gw, 0, none⟩)) := hX.lies.cell 0
          have d1 : wr.cell? ⟨gw, 0, none⟩ = some (.string S) := hX.wr.cell 0
          have HXr := Lib.hid hX
          have hBw := HB.out.trans (hb.mono HB.out.size)
          have HBw := Lib.hid hBw
          clear hX hb hBw
          rcases Nat.lt_or_ge j D.length with hlt | hge
          · obtain ⟨q, rfl⟩ := HV.out.ptr (fun e => by rw [e] at hlt; simp at hlt)
            obtain ⟨d, hdj⟩ : ∃ d, D[j]? = some d := ⟨_, List.getElem?_eq_getElem hlt⟩
            have hdr : D.drop j = d :: D.drop (j + 1) := by
              obtain ⟨_, rfl⟩ := List.getElem?_eq_some_iff.1 hdj
              exact List.drop_eq_getElem_cons hlt
            have hle := Chn.le hch
            rw [hdr] at hch
            obtain ⟨e, c, hru, hd254, hpe, hch'⟩ := hch
            obtain ⟨r1, r2, r3, _⟩ := hru.read hd254 (by rw [bs_length]; exact hle)
            have HN := Lib.hid (uN S d p e 0 HSm.out ⟨r2, by rw [r3], by rw [r1]; rfl⟩)
            have HCh' := Lib.hid hch'
            have HDj := Lib.hid hdj
            clear hdj hdr hle hru hd254 hpe hch' r1 r2 r3
            go_wp2_with (go_at_call 23; (with_reducible refine (HN.out.go _).mono ?_); rintro e w3 ⟨rfl, hb3⟩; have hb3' := HBr.out.trans (hb3.mono HBr.out.size); have HB3 := Lib.hid hb3'; have ccell := (TOwn.below HV.out hb3' (Nat.le_refl _)).at HDj.out; clear hb3 hb3')
            go_roundw
            case rel => exact ⟨j + 1, e, by go_num, rfl, hlt, HCh'.out, HB3.out⟩
            case measure => simp [intOf]; omega
          · obtain rfl : j = D.length := by omega
            rw [List.drop_length] at hch
            obtain rfl : p = S.size := hch
            go_wp2
            go_ret
            exact ⟨rfl, HBw.out⟩
end Go.Proofs.Ytlpgoeigcccmhaa
