/-
  The walk of the law PackGrows. No condition beyond that each argument can be read.
-/
import Derived.Test.YtdjmjhcflnoojaaPkLives
import Derived.Test.YtdjmjhcflnoojaaPkGrow
import Derived.Test.YtdjmjhcflnoojaaPkOpen
namespace Go.Proofs.Ytdjmjhcflnoojaa
open Go.RowKit Go.Maps
set_option linter.unusedVariables false

theorem vlen_nil : (0 : Nat) = 0 := rfl
/-- What a name that is put, or not, makes of the octets. -/
structure Step (s : PS) (q : Nat × PS) : Prop where
  good : GoodP q.2
  way : (q.1 = 0 ∧ ∃ y, q.2.l = s.l ++ y ∧ 1 ≤ y.length ∧ y.length ≤ 255) ∨ (q.1 ≠ 0 ∧ q.2.l = s.l)
theorem step_name {s : PS} (h : GoodP s) (hi : Inv 65535 s) (x : List UInt8) (hl : s.l.length + 255 ≤ 65535) : Step s (nameS 65535 s x) := by
  by_cases hc : chkN x = 0
  · have hx := (chkN_iff.1 hc).1
    obtain ⟨h1, h2, _⟩ := nameS_good (M := 65535) h hi hc (by omega)
    obtain ⟨y, hy, hy1, hy2⟩ := h1.l
    exact ⟨h2, .inl ⟨h1.ok, y, hy, hy1, by omega⟩⟩
  · rw [(nameS_bad h.f hc).1]
    exact ⟨h, .inr ⟨hc, rfl⟩⟩
theorem step_plain {s : PS} (h : GoodP s) (x : List UInt8) (hl : s.l.length + 255 ≤ 65535) : Step s (plainS 65535 s x) := by
  by_cases hc : chkN x = 0
  · have hx := (chkN_iff.1 hc).1
    obtain ⟨h1, h2⟩ := plainS_good (M := 65535) h hc (by omega)
    obtain ⟨y, hy, hy1, hy2⟩ := h1.l
    exact ⟨h2, .inl ⟨h1.ok, y, hy, hy1, by omega⟩⟩
  · rw [(nameS_bad h.f hc).2]
    exact ⟨h, .inr ⟨hc, rfl⟩⟩
def GrRel (L0 : List ByteArray) (w : World) (b g : Nat) (vw vi : Value) (wr : World) : Prop :=
  ∃ (k : Nat) (was : ByteArray) (s : PS) (F : Nat → Prop), vi = .int .i64 k ∧ k ≤ L0.length ∧ vw = .string was ∧ bs was = s.l ∧ PK wr b F g 65535 s ∧ GoodP s ∧ s.l.length ≤ 255 * k ∧ Below w.heap.size w wr
set_option maxHeartbeats 4000000 in
set_option maxRecDepth 100000 in
theorem PackGrows_walk (v0 v1 : Value) (w : World) (L0 : List ByteArray) (hrow0 : NRow w v0 L0) (L1 : List Bool) (hrow1 : BRow w v1 L1) :
    Calls Try.prog 7 #[v0, v1] w fun e w' => e = .returned (.bool true) ∧ Below w.heap.size w w' := by
  obtain ⟨A0, cap0, rfl, hl0, hc0⟩ := hrow0.shape
  obtain ⟨A1, cap1, rfl, hl1, hc1⟩ := hrow1.shape
  have HR0 := Lib.hid hrow0
  have HR1 := Lib.hid hrow1
  have HNew : Hid (∀ wx, Calls Try.prog 9 #[.int .i64 65535] wx (NewP wx 65535)) := Lib.hid fun wx => pNew_any 65535 wx (by decide)
  clear hrow0 hrow1
  unfold maxLen at hc0 hc1
  by_cases hbig : 60 < L0.length
  · have hd : decide ((60 : Int) < (L0.length : Int)) = true := by simpa using (by omega : (60 : Int) < L0.length)
    go_enter Try.func7, Try.ntmps7
    go_wp2_with fail
    refine (lives_any _).mono ?_
    rintro e w1 ⟨rfl, hb1⟩
    have HB1 := Lib.hid hb1
    clear hb1
    go_wp2
    go_ret
    exact ⟨rfl, HB1.out⟩
  · have hd : decide ((60 : Int) < (L0.length : Int)) = false := by simpa using (by omega : (L0.length : Int) ≤ 60)
    have hL0 : L0.length ≤ 60 := by omega
    clear hbig
    go_enter Try.func7, Try.ntmps7
    go_wp2_with fail
    refine (lives_any _).mono ?_
    rintro e w1 ⟨rfl, hb1⟩
    have HB1 := Lib.hid hb1
    clear hb1
    go_wp2_with fail
    refine (HNew.out _).mono ?_
    rintro e w2 ⟨g, F, rfl, hp, hb⟩
    have HP2 := Lib.hid hp
    have HB2 := Lib.hid (HB1.out.trans (hb.mono HB1.out.size))
    have HS1 := Lib.hid HB1.out.size
    clear hp hb HB1 hd
    go_wp2
    go_loopw [6, 7] (fun vw vi wr => GrRel L0 w w1.heap.size g vw vi wr) (fun _ vi _ => L0.length - (intOf vi).toNat)
    case atStart => exact ⟨0, ⟨#[]⟩, ps0, F, rfl, Nat.zero_le _, rfl, rfl, HP2.out, good0, Nat.zero_le _, HB2.out⟩
    case round =>
      obtain ⟨k, was, s, F', rfl, hk, rfl, hws, hp, hg, hsl, hb⟩ := hrel
      have HB := Lib.hid hb
      have HP := Lib.hid hp
      have HG := Lib.hid hg
      have HWS := Lib.hid hws
      have hsz : was.size = s.l.length := by rw [← bs_length, hws]
      rcases Nat.lt_or_ge k L0.length with hlt | hge
      · obtain ⟨q0, o0, rfl, hq0, hcell0⟩ := (HR0.out.below HB.out (Nat.le_refl _)).at k hlt
        obtain ⟨x, hx⟩ : ∃ x, L0[k] = x := ⟨_, rfl⟩
        have hxs : x.size ≤ maxLen := by rw [← hx]; exact HR0.out.2 _ (List.getElem_mem hlt)
        rw [hx] at hcell0
        clear hx hp hg hws hb
        have hsl' : s.l.length + 255 ≤ 65535 := by omega
        -- the two ways: without pointers, with them
        by_cases hpl : ∃ h : k < L1.length, L1[k] = true
        · obtain ⟨hk1, hb1⟩ := hpl
          obtain ⟨q1, o1, rfl, hq1, hcell1⟩ := (HR1.out.below HB.out (Nat.le_refl _)).at k hk1
          rw [hb1] at hcell1
          clear hb1
          have HC := Lib.hid (show x.size ≤ maxLen → Calls Try.prog 11 #[pp g, .string x] wr (Pkr wr w1.heap.size F' g 65535 (plainS 65535 s (bs x)).2 (.int .i64 (plainS 65535 s (bs x)).1)) from fun hx => pPlain_any HP.out x hx)
          have hst := step_plain HG.out (bs x) hsl'
          obtain ⟨q, hq⟩ : ∃ q, plainS 65535 s (bs x) = q := ⟨_, rfl⟩
          rw [hq] at HC hst
          clear hq
          obtain ⟨T, hT⟩ : ∃ T : ByteArray, T = ⟨q.2.l.toArray⟩ := ⟨_, rfl⟩
          have hTb : bs T = q.2.l := by rw [hT]; exact bs_mk _
          have hTs : T.size = q.2.l.length := by rw [← bs_length, hTb]
          have HT := Lib.hid hT
          have HG2 := Lib.hid hst.good
          rcases hst.way with ⟨he, y, hy, hy1, hy2⟩ | ⟨he, hy⟩
          · have hE : T.extract 0 was.size = was := bs_inj (by rw [bs_extract, hTb, hy, HWS.out, hsz]; simp)
            have hEl : (T.extract 0 was.size).toList = was.toList := by rw [hE]
            have hlen := congrArg List.length hy
            rw [List.length_append] at hlen
            have hn1 : decide (T.size < was.size) = false := by simp; omega
            have hn2 : ((T.size : Int) == (was.size : Int)) = false := by rw [beq_eq_false_iff_ne]; omega
            have hn3 : ¬ T.size = was.size := by omega
            have hn4 : (T.size == was.size) = false := by rw [beq_eq_false_iff_ne]; omega
            have hql : q.2.l.length ≤ 255 * (k + 1) := by omega
            have hle : was.size ≤ T.size := by omega
            have hTl : ((q.2.l.length : Int) != (T.size : Int)) = false := by rw [hTs]; simp
            rw [he] at HC
            have HTS := Lib.hid hTs
            have HTB := Lib.hid hTb
            clear hst hy hlen hT hTb hTs hy1 hy2 he hsz hE
            go_wp2_with (first | (go_at_call 11; (with_reducible refine (HC.out hxs).mono ?_); rintro e w3 ⟨rfl, F2, hp3, hk3⟩; have HP3 := Lib.hid hp3; have HK3 := Lib.hid hk3; clear hp3 hk3) | (go_at_call 15; (with_reducible refine (pText_any HP3.out).mono ?_); rintro e w' ⟨rfl, rfl⟩; rw [← HT.out]) | (go_at_call 19; (with_reducible refine (pLen_any HP3.out).mono ?_); rintro e w' ⟨rfl, rfl⟩))
            go_roundw
            case rel => exact ⟨k + 1, T, q.2, F2, by go_num, by omega, rfl, HTB.out, HP3.out, HG2.out, hql, HB.out.trans (HK3.out.below.mono (Nat.le_trans HS1.out (Nat.le_refl _)))⟩
            case measure => simp [intOf]; omega
          · obtain rfl : T = was := bs_inj (by rw [hTb, hy, HWS.out])
            have hE : T.extract 0 T.size = T := bs_inj (by rw [bs_extract]; simp [← bs_length])
            have hne : ((q.1 : Int) != 0) = true := by rw [bne_iff_ne]; omega
            have hne2 : ((q.1 : Int) == 0) = false := by rw [beq_eq_false_iff_ne]; omega
            have hql : q.2.l.length ≤ 255 * (k + 1) := by rw [hy]; omega
            have hTl : ((q.2.l.length : Int) != (T.size : Int)) = false := by rw [hTs]; simp
            have HTB := Lib.hid hTb
            clear hst hy hT hTb hTs he hsz
            go_wp2_with (first | (go_at_call 11; (with_reducible refine (HC.out hxs).mono ?_); rintro e w3 ⟨rfl, F2, hp3, hk3⟩; have HP3 := Lib.hid hp3; have HK3 := Lib.hid hk3; clear hp3 hk3) | (go_at_call 15; (with_reducible refine (pText_any HP3.out).mono ?_); rintro e w' ⟨rfl, rfl⟩; rw [← HT.out]) | (go_at_call 19; (with_reducible refine (pLen_any HP3.out).mono ?_); rintro e w' ⟨rfl, rfl⟩))
            go_roundw
            case rel => exact ⟨k + 1, T, q.2, F2, by go_num, by omega, rfl, HTB.out, HP3.out, HG2.out, hql, HB.out.trans (HK3.out.below.mono (Nat.le_trans HS1.out (Nat.le_refl _)))⟩
            case measure => simp [intOf]; omega
        · by_cases hk1 : k < L1.length
          · have hb1 : L1[k] = false := by cases hh : L1[k] with | false => rfl | true => exact absurd ⟨hk1, hh⟩ hpl
            obtain ⟨q1, o1, rfl, hq1, hcell1⟩ := (HR1.out.below HB.out (Nat.le_refl _)).at k hk1
            rw [hb1] at hcell1
            clear hb1 hpl
            have HC := Lib.hid (show x.size ≤ maxLen → Calls Try.prog 10 #[pp g, .string x] wr (Pkr wr w1.heap.size F' g 65535 (nameS 65535 s (bs x)).2 (.int .i64 (nameS 65535 s (bs x)).1)) from fun hx => pName_any HP.out x hx)
            have hst := step_name HG.out HP.out.inv (bs x) hsl'
            obtain ⟨q, hq⟩ : ∃ q, nameS 65535 s (bs x) = q := ⟨_, rfl⟩
            rw [hq] at HC hst
            clear hq
            obtain ⟨T, hT⟩ : ∃ T : ByteArray, T = ⟨q.2.l.toArray⟩ := ⟨_, rfl⟩
            have hTb : bs T = q.2.l := by rw [hT]; exact bs_mk _
            have hTs : T.size = q.2.l.length := by rw [← bs_length, hTb]
            have HT := Lib.hid hT
            have HG2 := Lib.hid hst.good
            rcases hst.way with ⟨he, y, hy, hy1, hy2⟩ | ⟨he, hy⟩
            · have hE : T.extract 0 was.size = was := bs_inj (by rw [bs_extract, hTb, hy, HWS.out, hsz]; simp)
              have hEl : (T.extract 0 was.size).toList = was.toList := by rw [hE]
              have hlen := congrArg List.length hy
              rw [List.length_append] at hlen
              have hn1 : decide (T.size < was.size) = false := by simp; omega
              have hn2 : ((T.size : Int) == (was.size : Int)) = false := by rw [beq_eq_false_iff_ne]; omega
              have hn3 : ¬ T.size = was.size := by omega
              have hn4 : (T.size == was.size) = false := by rw [beq_eq_false_iff_ne]; omega
              have hql : q.2.l.length ≤ 255 * (k + 1) := by omega
              have hle : was.size ≤ T.size := by omega
              have hTl : ((q.2.l.length : Int) != (T.size : Int)) = false := by rw [hTs]; simp
              rw [he] at HC
              have HTS := Lib.hid hTs
              have HTB := Lib.hid hTb
              clear hst hy hlen hT hTb hTs hy1 hy2 he hsz hE
              go_wp2_with (first | (go_at_call 10; (with_reducible refine (HC.out hxs).mono ?_); rintro e w3 ⟨rfl, F2, hp3, hk3⟩; have HP3 := Lib.hid hp3; have HK3 := Lib.hid hk3; clear hp3 hk3) | (go_at_call 15; (with_reducible refine (pText_any HP3.out).mono ?_); rintro e w' ⟨rfl, rfl⟩; rw [← HT.out]) | (go_at_call 19; (with_reducible refine (pLen_any HP3.out).mono ?_); rintro e w' ⟨rfl, rfl⟩))
              go_roundw
              case rel => exact ⟨k + 1, T, q.2, F2, by go_num, by omega, rfl, HTB.out, HP3.out, HG2.out, hql, HB.out.trans (HK3.out.below.mono (Nat.le_trans HS1.out (Nat.le_refl _)))⟩
              case measure => simp [intOf]; omega
            · obtain rfl : T = was := bs_inj (by rw [hTb, hy, HWS.out])
              have hE : T.extract 0 T.size = T := bs_inj (by rw [bs_extract]; simp [← bs_length])
              have hne : ((q.1 : Int) != 0) = true := by rw [bne_iff_ne]; omega
              have hne2 : ((q.1 : Int) == 0) = false := by rw [beq_eq_false_iff_ne]; omega
              have hql : q.2.l.length ≤ 255 * (k + 1) := by rw [hy]; omega
              have hTl : ((q.2.l.length : Int) != (T.size : Int)) = false := by rw [hTs]; simp
              have HTB := Lib.hid hTb
              clear hst hy hT hTb hTs he hsz
              go_wp2_with (first | (go_at_call 10; (with_reducible refine (HC.out hxs).mono ?_); rintro e w3 ⟨rfl, F2, hp3, hk3⟩; have HP3 := Lib.hid hp3; have HK3 := Lib.hid hk3; clear hp3 hk3) | (go_at_call 15; (with_reducible refine (pText_any HP3.out).mono ?_); rintro e w' ⟨rfl, rfl⟩; rw [← HT.out]) | (go_at_call 19; (with_reducible refine (pLen_any HP3.out).mono ?_); rintro e w' ⟨rfl, rfl⟩))
              go_roundw
              case rel => exact ⟨k + 1, T, q.2, F2, by go_num, by omega, rfl, HTB.out, HP3.out, HG2.out, hql, HB.out.trans (HK3.out.below.mono (Nat.le_trans HS1.out (Nat.le_refl _)))⟩
              case measure => simp [intOf]; omega
          · clear hpl
            have hk1' : L1.length ≤ k := by omega
            have HC := Lib.hid (show x.size ≤ maxLen → Calls Try.prog 10 #[pp g, .string x] wr (Pkr wr w1.heap.size F' g 65535 (nameS 65535 s (bs x)).2 (.int .i64 (nameS 65535 s (bs x)).1)) from fun hx => pName_any HP.out x hx)
            have hst := step_name HG.out HP.out.inv (bs x) hsl'
            obtain ⟨q, hq⟩ : ∃ q, nameS 65535 s (bs x) = q := ⟨_, rfl⟩
            rw [hq] at HC hst
            clear hq
            obtain ⟨T, hT⟩ : ∃ T : ByteArray, T = ⟨q.2.l.toArray⟩ := ⟨_, rfl⟩
            have hTb : bs T = q.2.l := by rw [hT]; exact bs_mk _
            have hTs : T.size = q.2.l.length := by rw [← bs_length, hTb]
            have HT := Lib.hid hT
            have HG2 := Lib.hid hst.good
            rcases hst.way with ⟨he, y, hy, hy1, hy2⟩ | ⟨he, hy⟩
            · have hE : T.extract 0 was.size = was := bs_inj (by rw [bs_extract, hTb, hy, HWS.out, hsz]; simp)
              have hEl : (T.extract 0 was.size).toList = was.toList := by rw [hE]
              have hlen := congrArg List.length hy
              rw [List.length_append] at hlen
              have hn1 : decide (T.size < was.size) = false := by simp; omega
              have hn2 : ((T.size : Int) == (was.size : Int)) = false := by rw [beq_eq_false_iff_ne]; omega
              have hn3 : ¬ T.size = was.size := by omega
              have hn4 : (T.size == was.size) = false := by rw [beq_eq_false_iff_ne]; omega
              have hql : q.2.l.length ≤ 255 * (k + 1) := by omega
              have hle : was.size ≤ T.size := by omega
              have hTl : ((q.2.l.length : Int) != (T.size : Int)) = false := by rw [hTs]; simp
              rw [he] at HC
              have HTS := Lib.hid hTs
              have HTB := Lib.hid hTb
              clear hst hy hlen hT hTb hTs hy1 hy2 he hsz hE
              go_wp2_with (first | (go_at_call 10; (with_reducible refine (HC.out hxs).mono ?_); rintro e w3 ⟨rfl, F2, hp3, hk3⟩; have HP3 := Lib.hid hp3; have HK3 := Lib.hid hk3; clear hp3 hk3) | (go_at_call 15; (with_reducible refine (pText_any HP3.out).mono ?_); rintro e w' ⟨rfl, rfl⟩; rw [← HT.out]) | (go_at_call 19; (with_reducible refine (pLen_any HP3.out).mono ?_); rintro e w' ⟨rfl, rfl⟩))
              go_roundw
              case rel => exact ⟨k + 1, T, q.2, F2, by go_num, by omega, rfl, HTB.out, HP3.out, HG2.out, hql, HB.out.trans (HK3.out.below.mono (Nat.le_trans HS1.out (Nat.le_refl _)))⟩
              case measure => simp [intOf]; omega
            · obtain rfl : T = was := bs_inj (by rw [hTb, hy, HWS.out])
              have hE : T.extract 0 T.size = T := bs_inj (by rw [bs_extract]; simp [← bs_length])
              have hne : ((q.1 : Int) != 0) = true := by rw [bne_iff_ne]; omega
              have hne2 : ((q.1 : Int) == 0) = false := by rw [beq_eq_false_iff_ne]; omega
              have hql : q.2.l.length ≤ 255 * (k + 1) := by rw [hy]; omega
              have hTl : ((q.2.l.length : Int) != (T.size : Int)) = false := by rw [hTs]; simp
              have HTB := Lib.hid hTb
              clear hst hy hT hTb hTs he hsz
              go_wp2_with (first | (go_at_call 10; (with_reducible refine (HC.out hxs).mono ?_); rintro e w3 ⟨rfl, F2, hp3, hk3⟩; have HP3 := Lib.hid hp3; have HK3 := Lib.hid hk3; clear hp3 hk3) | (go_at_call 15; (with_reducible refine (pText_any HP3.out).mono ?_); rintro e w' ⟨rfl, rfl⟩; rw [← HT.out]) | (go_at_call 19; (with_reducible refine (pLen_any HP3.out).mono ?_); rintro e w' ⟨rfl, rfl⟩))
              go_roundw
              case rel => exact ⟨k + 1, T, q.2, F2, by go_num, by omega, rfl, HTB.out, HP3.out, HG2.out, hql, HB.out.trans (HK3.out.below.mono (Nat.le_trans HS1.out (Nat.le_refl _)))⟩
              case measure => simp [intOf]; omega
      · obtain rfl : k = L0.length := by omega
        clear hp hg hws hb
        go_wp2
        go_ret
        exact ⟨rfl, HB.out⟩
end Go.Proofs.Ytdjmjhcflnoojaa
