/-
  The walk of the law RdataTexts. No condition beyond that each argument can be read.
-/
import Derived.Test.YtjollpgkmcinjaaGreatRdLv
import Derived.Test.YtjollpgkmcinjaaGreatRdTm
import Derived.Test.YtjollpgkmcinjaaGreatPkLives
import Derived.Test.YtjollpgkmcinjaaGreatPkOpen
import Derived.Deep.RegionHeld3
namespace Go.Proofs.YtjollpgkmcinjaaGreat
open Go.RowKit Go.Maps
set_option linter.unusedVariables false

theorem srow_of {w : World} {A : Option Addr} {cap : Nat} {L : List ByteArray} (h : NRow w (.slice A L.length cap) L) (hn : L ≠ []) (hl : L.length ≤ cap) (hc : cap ≤ maxLen) : SRow w (.slice A L.length cap) L := by
  obtain ⟨g, o, rfl, h2, _⟩ := h.at 0 (List.length_pos_iff.2 hn)
  refine .inr ⟨g, o, cap, rfl, h2, hl, hc, fun j hj => ?_⟩
  obtain ⟨g', o', e1, _, e3⟩ := h.at j hj
  injection e1 with e1
  injection e1 with e1 e2
  rw [e1, e2]
  exact e3
abbrev txV (v : Value) : Value := .agg #[.bool false, .int .u64 0, .int .u64 0, .string ⟨#[]⟩, .string ⟨#[]⟩, .int .u32 0, .int .u32 0, .int .u32 0, .int .u32 0, .int .u32 0, v, .string ⟨#[]⟩]
abbrev rwV (r : ByteArray) : Value := .agg #[.bool false, .int .u64 0, .int .u64 0, .string ⟨#[]⟩, .string ⟨#[]⟩, .int .u32 0, .int .u32 0, .int .u32 0, .int .u32 0, .int .u32 0, nilS, .string r]
theorem fit_tx {w : World} {v : Value} {L : List ByteArray} (h : SRow w v L) (ht : ∀ x ∈ L, x.size ≤ maxLen) (hl : L.length ≤ 20) : Fit w (txD L) v := by
  constructor
  all_goals first | exact h | exact ht | exact nobS | (show L.length ≤ _; omega) | (show (0 : Nat) < _; decide)
theorem fit_rw (w : World) {r : ByteArray} (hr : r.size ≤ maxLen) : Fit w (rwD r) nilS := fit_nil w (rwD r) rfl nobS nobS hr (Nat.two_pow_pos _) (Nat.two_pow_pos _) (Nat.two_pow_pos _) (Nat.two_pow_pos _) (Nat.two_pow_pos _) (Nat.two_pow_pos _) (Nat.two_pow_pos _)
/-- What the raw data's reading leaves. -/
def RwR (r : ByteArray) (w : World) (e : Ending) (w' : World) : Prop :=
  ∃ A n cap, e = .returned (.tuple #[.agg #[.bool false, .int .u64 0, .int .u64 0, .string ⟨#[]⟩, .string ⟨#[]⟩, .int .u32 0, .int .u32 0, .int .u32 0, .int .u32 0, .int .u32 0, .slice A n cap, .string r], .int .i64 0]) ∧ Below w.heap.size w w'
def TxsRel (L0 : List ByteArray) (w : World) (vw vi : Value) (wr : World) : Prop :=
  ∃ (k : Nat) (was : ByteArray), vi = .int .i64 k ∧ k ≤ L0.length ∧ vw = .string was ∧ bs was = txB (L0.take k) ∧ (∀ x ∈ L0.take k, x.size ≤ 255) ∧ Below w.heap.size w wr
set_option maxHeartbeats 4000000 in
set_option maxRecDepth 100000 in
theorem RdataTexts_walk (v0 : Value) (r : ByteArray) (hr : r.size ≤ maxLen) (w : World) (L0 : List ByteArray) (hrow0 : NRow w v0 L0) :
    Calls Tryz.prog 4 #[v0, .string r] w fun e w' => e = .returned (.bool true) ∧ Below w.heap.size w w' := by
  obtain ⟨A0, cap0, rfl, hl0, hc0⟩ := hrow0.shape
  by_cases hbig : L0.length = 0 ∨ 20 < L0.length ∨ 1500 < r.size
  · have HR0 := Lib.hid hrow0
    clear hrow0
    go_enter Tryz.func4, Tryz.ntmps4
    go_wp2_with fail
    refine (lives9 _).mono ?_
    rintro e w1 ⟨rfl, hb1⟩
    have HB1 := Lib.hid hb1
    clear hb1
    rcases hbig with h | h | h
    · have hd : ((L0.length : Int) == 0) = true := by rw [h]; rfl
      go_wp2
      go_ret
      exact ⟨rfl, HB1.out⟩
    · have hd0 : ((L0.length : Int) == 0) = false := by rw [beq_eq_false_iff_ne]; omega
      have hd : decide ((20 : Int) < (L0.length : Int)) = true := by simpa using (by omega : (20 : Int) < L0.length)
      go_wp2
      go_ret
      exact ⟨rfl, HB1.out⟩
    · have hd : decide ((1500 : Int) < (r.size : Int)) = true := by simpa using (by omega : (1500 : Int) < r.size)
      go_wp2
      all_goals
        go_ret
        exact ⟨rfl, HB1.out⟩
  · have hn0 : L0.length ≠ 0 := fun h => hbig (.inl h)
    have hL0 : L0.length ≤ 20 := by omega
    have hr0 : r.size ≤ 1500 := by omega
    have hne : L0 ≠ [] := fun h => hn0 (by rw [h]; rfl)
    have hd0 : ((L0.length : Int) == 0) = false := by rw [beq_eq_false_iff_ne]; omega
    have hd1 : decide ((20 : Int) < (L0.length : Int)) = false := by simpa using (by omega : (L0.length : Int) ≤ 20)
    have hd2 : decide ((1500 : Int) < (r.size : Int)) = false := by simpa using (by omega : (r.size : Int) ≤ 1500)
    have hs0 := srow_of hrow0 hne hl0 hc0
    have HF : Hid (∀ wx, Below w.heap.size w wx → Fit wx (txD L0) (.slice A0 L0.length cap0)) := Lib.hid fun wx hb => fit_tx (hs0.below hb (Nat.le_refl _)) hrow0.2 hL0
    have HBk : Hid (∀ j, blk (.slice A0 L0.length cap0) = some j → j < w.heap.size) := Lib.hid fun j hj => by
      rcases hs0 with ⟨_, h⟩ | ⟨g, off, cap, h1, h2, _⟩
      · exact absurd h hne
      · injection h1 with h1
        subst h1
        injection hj with hj
        subst hj
        exact h2
    have HR0 := Lib.hid hrow0
    have HN := Lib.hid hne
    have HNew : Hid (∀ wx, Calls Tryz.prog 9 #[.int .i64 65535] wx (NewP wx 65535)) := Lib.hid fun wx => pNew_any 65535 wx (by decide)
    clear hrow0 hs0 hbig hne
    unfold maxLen at hc0 hr
    go_enter Tryz.func4, Tryz.ntmps4
    go_wp2_with fail
    refine (lives9 _).mono ?_
    rintro e w1 ⟨rfl, hb1⟩
    have HB1 := Lib.hid hb1
    clear hb1
    go_wp2
    go_loopw [5, 6] (fun vw vi wr => TxsRel L0 w vw vi wr) (fun _ vi _ => L0.length - (intOf vi).toNat)
    case atStart => exact ⟨0, ⟨#[]⟩, rfl, Nat.zero_le _, rfl, rfl, fun x h => by simp at h, HB1.out⟩
    case round =>
      clear HB1 hd0 hd1 hd2
      obtain ⟨k, was, rfl, hk, rfl, hws, hall, hb⟩ := hrel
      have HB := Lib.hid hb
      have HA := Lib.hid hall
      have HW := Lib.hid hws
      have hwz : was.size ≤ 256 * 20 := by
        have h1 := sizeT_most _ hall
        rw [← txB_length, ← hws, bs_length, List.length_take] at h1
        omega
      clear hb hall hws
      rcases Nat.lt_or_ge k L0.length with hlt | hge
      · obtain ⟨q0, o0, rfl, hq0, hcell0⟩ := (HR0.out.below HB.out (Nat.le_refl _)).at k hlt
        obtain ⟨x, hx⟩ : ∃ x, L0[k] = x := ⟨_, rfl⟩
        have hxs : x.size ≤ maxLen := by rw [← hx]; exact HR0.out.2 _ (List.getElem_mem hlt)
        have hxm : x ∈ L0 := by rw [← hx]; exact List.getElem_mem hlt
        rw [hx] at hcell0
        have hltI : (k : Int) < (L0.length : Int) := by omega
        by_cases h255 : 255 < x.size
        · have hg : decide ((255 : Int) < (x.size : Int)) = true := by simpa using (by omega : (255 : Int) < x.size)
          have HC : Hid (Calls Tryz.prog 8 #[.int .i64 16, txV (.slice (some ⟨q0, o0, none⟩) L0.length cap0)] wr (Told wr (.int .i64 3))) := Lib.hid (by
            have h := Check_anyD 16 (txD L0) _ wr (HF.out wr HB.out)
            rw [tx_long HN.out hxm h255] at h
            exact h)
          clear hx hxs hxm
          go_wp2_with (go_at_call 8; (with_reducible refine HC.out.mono ?_); rintro e w2 ⟨rfl, hb⟩; have HB2 := Lib.hid (HB.out.trans (hb.mono HB.out.size)); clear hb)
          go_ret
          exact ⟨rfl, HB2.out⟩
        · have hg : decide ((255 : Int) < (x.size : Int)) = false := by simpa using (by omega : (x.size : Int) ≤ 255)
          have h255' : x.size ≤ 255 := by omega
          have n1 : IntKind.u8.wrap (x.size : Int) = (x.size : Int) := by rw [IntKind.wrap_u8]; omega
          have m1 : (x.size : Int) % 256 = (x.size : Int) := by omega
          obtain ⟨Z, hZ⟩ : ∃ Z : ByteArray, Z = ⟨#[UInt8.ofNat x.size]⟩ := ⟨_, rfl⟩
          have hZs : Z.size = 1 := by rw [hZ]; rfl
          have hZb : bs Z = [UInt8.ofNat x.size] := by rw [hZ]; rfl
          have HCV := Lib.hid (fun (wx : World) (g : Nat) (hx : Lies wx g 5 #[.int .u8 (x.size : Int)]) => (show (convert 47 9 (.slice (some ⟨g, 0, none⟩) 1 1)).run Tryz.prog wx = .ok (.string Z) wx from by
            rw [hZ]
            refine run_convert_bytes_back wx 47 9 5 ⟨g, 0, none⟩ 1 [UInt8.ofNat x.size] bt.us bt.ub bt.ut fun j hj => ?_
            have hj0 : j = 0 := by simp at hj; exact hj
            subst hj0
            have e : (⟨g, 0, none⟩ : Addr).add 0 = ⟨g, 0, none⟩ := by unfold Addr.add; split <;> simp_all
            rw [e]
            refine (hx.cell 0).trans ?_
            simp
            omega))
          obtain ⟨Y, hY⟩ : ∃ Y, was ++ Z = Y := ⟨_, rfl⟩
          have hYs : Y.size = was.size + Z.size := by rw [← hY, ByteArray.size_append]
          have q1 : ¬ 9223372036854775807 < was.size + Z.size := by omega
          have q2 : ¬ 9223372036854775807 < Y.size + x.size := by omega
          have htk : L0.take (k + 1) = L0.take k ++ [x] := by rw [List.take_succ_eq_append_getElem hlt, hx]
          have HE := Lib.hid (show bs (Y ++ x) = txB (L0.take (k + 1)) by
            rw [htk, txB_snoc, bs_append, ← hY, bs_append, HW.out, hZb]
            simp)
          have HA1 := Lib.hid (show ∀ y ∈ L0.take (k + 1), y.size ≤ 255 by
            intro y hy
            rw [htk, List.mem_append] at hy
            rcases hy with hy | hy
            · exact HA.out y hy
            · rw [List.mem_singleton.1 hy]; exact h255')
          have hcv := HCV.out (wr.alloc (.cells #[.int .u8 (x.size : Int)] 5)).drew wr.heap.size (Lies.drew (Lies.new _ _ _))
          have hcv2 := HCV.out (wr.alloc (.cells #[.int .u8 (x.size : Int)] 5)) wr.heap.size (Lies.new _ _ _)
          have hcv3 := HCV.out (wr.drew.alloc (.cells #[.int .u8 (x.size : Int)] 5)) wr.heap.size (Lies.new wr.drew _ _)
          have HQ := Lib.hid (fun wx (hb : Below w.heap.size w wx) => (show wx.cell? ⟨q0, o0 + k, none⟩ = some (.string x) from by
            obtain ⟨q, o, e1, _, e3⟩ := (HR0.out.below hb (Nat.le_refl _)).at k hlt
            injection e1 with e1
            injection e1 with e1 e2
            rw [hx] at e3
            rw [e1, e2]
            exact e3))
          have HBd := Lib.hid (show Below w.heap.size w wr.drew from HB.out.trans ⟨rfl, rfl, rfl, Nat.le_refl _, fun _ _ => rfl⟩)
          have HBa := Lib.hid (show Below w.heap.size w (wr.alloc (.cells #[.int .u8 (x.size : Int)] 5)) from HB.out.alloc HB.out.size _)
          have HBda := Lib.hid (show Below w.heap.size w (wr.drew.alloc (.cells #[.int .u8 (x.size : Int)] 5)) from HBd.out.alloc HBd.out.size _)
          have HBad := Lib.hid (show Below w.heap.size w (wr.alloc (.cells #[.int .u8 (x.size : Int)] 5)).drew from HBa.out.trans ⟨rfl, rfl, rfl, Nat.le_refl _, fun _ _ => rfl⟩)
          have kc1 := HQ.out _ HBd.out
          have kc2 := HQ.out _ HBa.out
          have kc3 := HQ.out _ HBda.out
          have kc4 := HQ.out _ HBad.out
          have HK := Lib.hid (show k + 1 ≤ L0.length by omega)
          clear hx hxs hxm hZ hZb HCV h255 hYs hZs htk
          go_upto_region 11 with (fail)
          go_region
          all_goals
            go_wp2
            go_roundw
            case rel => exact ⟨k + 1, _, by go_num, HK.out, rfl, HE.out, HA1.out, by first | exact HBad.out | exact HBda.out | exact HBa.out⟩
            case measure => simp [intOf]; omega
      · obtain rfl : k = L0.length := by omega
        have hws := HW.out
        have hall := HA.out
        rw [List.take_length] at hws hall
        have hT5 : sizeT L0 ≤ 5120 := Nat.le_trans (sizeT_most _ hall) (by omega)
        have hwS : was.size = sizeT L0 := by rw [← bs_length, hws, txB_length]
        obtain ⟨V, hV⟩ : ∃ V, V = Value.slice A0 L0.length cap0 := ⟨_, rfl⟩
        have HPT : Hid (∀ wx F g b, PK wx b F g 65535 ps0 → w.heap.size ≤ b → Below w.heap.size w wx → Calls Tryz.prog 12 #[pp g, .int .i64 16, txV (.slice A0 L0.length cap0)] wx (Pkr wx b F g 65535 { ps0 with l := txB L0 } (.int .i64 0))) := Lib.hid fun wx F g b hp hle hb => by
          have h := Put_anyD 16 (txD L0) _ wx hp (by decide) (HF.out wx hb) (fun j hj => Nat.lt_of_lt_of_le (HBk.out j hj) hle)
          rw [tx_put HN.out hall (by omega)] at h
          exact h
        have HPR : Hid (∀ wx F g b, PK wx b F g 65535 ps0 → Calls Tryz.prog 12 #[pp g, .int .i64 9999, rwV r] wx (Pkr wx b F g 65535 { ps0 with l := bs r } (.int .i64 0))) := Lib.hid fun wx F g b hp => by
          have h := Put_anyD 9999 (rwD r) nilS wx hp (by decide) (fit_rw wx hr) (fun j hj => by cases hj)
          rw [rw_put (by omega)] at h
          exact h
        have HRD : Hid (∀ wx, Calls Tryz.prog 15 #[.string r, .int .i64 0, .int .i64 (r.size : Int), .int .i64 9999] wx (RwR r wx)) := Lib.hid fun wx => by
          have h := Read_anyD r 0 (r.size : Nat) 9999 wx (by omega)
          rw [rw_read (by omega)] at h
          refine h.mono ?_
          rintro e w' ⟨tv, rfl, _, ⟨n, cap, A, rfl⟩, _, hb⟩
          exact ⟨A, n, cap, rfl, hb⟩
        have HSZ : Hid (∀ wx, Below w.heap.size w wx → Calls Tryz.prog 13 #[.int .i64 16, txV (.slice A0 L0.length cap0)] wx (Told wx (.int .i64 (was.size : Int)))) := Lib.hid fun wx hb => by
          have h := Size_anyD 16 (txD L0) _ wx (HF.out wx hb)
          rw [tx_size HN.out hall, ← hwS] at h
          exact h
        have HT1 : Hid (∀ wx F g b, PK wx b F g 65535 { ps0 with l := txB L0 } → Calls Tryz.prog 14 #[pp g] wx fun e w' => e = .returned (.string was) ∧ wx = w') := Lib.hid fun wx F g b hp => by
          have h := pText_any hp
          rw [show (⟨(txB L0).toArray⟩ : ByteArray) = was from by rw [← hws]; exact mkb_bs was] at h
          exact h
        have HT2 : Hid (∀ wx F g b, PK wx b F g 65535 { ps0 with l := bs r } → Calls Tryz.prog 14 #[pp g] wx fun e w' => e = .returned (.string r) ∧ wx = w') := Lib.hid fun wx F g b hp => by
          have h := pText_any hp
          rw [show (⟨(bs r).toArray⟩ : ByteArray) = r from mkb_bs r] at h
          exact h
        clear hws hall hT5 hwS HW HA HF HBk HN HR0 hwz hV
        go_wp2_with fail
        refine (HNew.out _).mono ?_
        rintro e w2 ⟨g1, F1, rfl, hp1, hb⟩
        have hB2 := HB.out.trans (hb.mono HB.out.size)
        have hz1 := HB.out.size
        clear hb
        go_wp2_with fail
        refine (HNew.out _).mono ?_
        rintro e w3 ⟨g2, F2, rfl, hq2, hb⟩
        have hB3 := hB2.trans (hb.mono hB2.size)
        have hz2 := hB2.size
        have hap := apart_new hp1 hq2 (Nat.le_refl _)
        have hp3 := hp1.next hb
        clear hb hp1
        have HP := Lib.hid hp3
        have HQ := Lib.hid hq2
        have HAp := Lib.hid hap
        have HB3 := Lib.hid hB3
        clear hp3 hq2 hap hB3 hB2 HNew
        go_wp2_with fail
        refine (HPT.out _ _ _ _ HP.out hz1 HB3.out).mono ?_
        rintro e w4 ⟨rfl, F1', hp4, hk4⟩
        have HP4 := Lib.hid hp4
        have HQ4 := Lib.hid (HQ.out.other hk4 (apart_symm HAp.out))
        have HAp4 := Lib.hid (apart_next HAp.out hk4 HQ.out)
        have HB4 := Lib.hid (HB3.out.trans (hk4.below.mono hz1))
        clear hp4 hk4 HP HQ HAp
        go_wp2_with fail
        refine (HPR.out _ _ _ _ HQ4.out).mono ?_
        rintro e w5 ⟨rfl, F2', hq5, hk5⟩
        have HQ5 := Lib.hid hq5
        have HP5 := Lib.hid (HP4.out.other hk5 HAp4.out)
        have HB5 := Lib.hid (HB4.out.trans (hk5.below.mono hz2))
        clear hq5 hk5 HP4 HQ4 HAp4
        go_wp2_with (go_at_call 15; (with_reducible refine (HRD.out _).mono ?_); rintro e w6 ⟨A, n, cap, rfl, hb⟩; have HB6 := Lib.hid (HB5.out.trans (hb.mono HB5.out.size)); have HP6 := Lib.hid (HP5.out.next hb); have HQ6 := Lib.hid (HQ5.out.next hb); have HL6 := Lib.hid (Lies.new w6 30 #[.bool false, .int .u64 0, .int .u64 0, .string ⟨#[]⟩, .string ⟨#[]⟩, .int .u32 0, .int .u32 0, .int .u32 0, .int .u32 0, .int .u32 0, .slice A n cap, .string r]); clear hb)
        have HP7 := Lib.hid (HP6.out.next ((Below.refl _ w6).alloc (Nat.le_refl _) (.cells #[.bool false, .int .u64 0, .int .u64 0, .string ⟨#[]⟩, .string ⟨#[]⟩, .int .u32 0, .int .u32 0, .int .u32 0, .int .u32 0, .int .u32 0, .slice A n cap, .string r] 30)))
        have HQ7 := Lib.hid (HQ6.out.next ((Below.refl _ w6).alloc (Nat.le_refl _) (.cells #[.bool false, .int .u64 0, .int .u64 0, .string ⟨#[]⟩, .string ⟨#[]⟩, .int .u32 0, .int .u32 0, .int .u32 0, .int .u32 0, .int .u32 0, .slice A n cap, .string r] 30)))
        have HB7 := Lib.hid (HB6.out.alloc HB6.out.size (.cells #[.bool false, .int .u64 0, .int .u64 0, .string ⟨#[]⟩, .string ⟨#[]⟩, .int .u32 0, .int .u32 0, .int .u32 0, .int .u32 0, .int .u32 0, .slice A n cap, .string r] 30))
        go_wp2_with (first | (go_at_call 14; (with_reducible refine (HT1.out _ _ _ _ HP7.out).mono ?_); rintro e w' ⟨rfl, rfl⟩) | (go_at_call 13; (with_reducible refine (HSZ.out _ HB7.out).mono ?_); rintro e w8 ⟨rfl, hb⟩; have HQ8 := Lib.hid (HQ7.out.next hb); have HB8 := Lib.hid (HB7.out.trans (hb.mono HB7.out.size)); have kc := (HL6.out.next hb).cell 11; clear hb) | (go_at_call 14; (with_reducible refine (HT2.out _ _ _ _ HQ8.out).mono ?_); rintro e w' ⟨rfl, rfl⟩) | fail)
        go_ret
        exact ⟨rfl, HB8.out⟩
end Go.Proofs.YtjollpgkmcinjaaGreat
