/-
  What the document's own Compare, Under answer for layer 2: the walks. Condition: the names are no longer than Go's own limit.
-/
import Derived.Test.YtjflmifolmpdgaaNmRefD
import Derived.Deep.RegionWith
namespace Go.Proofs.Ytjflmifolmpdgaa
open Go.RowKit
set_option linter.unusedVariables false

/-- The relation of Compare's loop. -/
def RkRel (X Y : List ByteArray) (w : World) (R : Int) (i : Value) (wr : World) : Prop :=
  ∃ k : Nat, i = .int .i64 ((k : Int) + 1) ∧ k ≤ X.length ∧ k ≤ Y.length ∧ Hid (cmpW ((X.reverse.map bs).drop k) ((Y.reverse.map bs).drop k) = R) ∧ Below w.heap.size w wr
theorem rev_at (X : List ByteArray) (k : Nat) (h : k < X.length) : X.reverse[k]'(by rw [List.length_reverse]; exact h) = X[X.length - (k + 1)] := by
  rw [List.getElem_reverse]
  congr 1
  omega

set_option maxHeartbeats 4000000 in
theorem rnCompare_any (a b : ByteArray) (w : World) (ha : a.size ≤ maxLen) (hb : b.size ≤ maxLen) :
    Calls Try.prog 35 #[.string a, .string b] w fun e w' => e = .returned (.int .i64 (cmpN (bs a) (bs b))) ∧ Below w.heap.size w w' := by
  have HA := Lib.hid (fun wx => rLabels_any a wx ha)
  have HB := Lib.hid (fun wx => rLabels_any b wx hb)
  have hNa := nlabs_len (bs a)
  have hNb := nlabs_len (bs b)
  obtain ⟨R, hR⟩ : ∃ R, R = cmpN (bs a) (bs b) := ⟨_, rfl⟩
  rw [← hR]
  have HRR := Lib.hid hR
  clear ha hb hR
  go_enter Try.func35, Try.ntmps35
  go_wp2_with fail
  refine (HA.out _).mono ?_
  rintro e w1 ⟨v1, X, rfl, hX, hXL, hb1⟩
  have hXn : X.length ≤ 127 := by rw [labs_len hXL]; exact hNa
  have HX := Lib.hid hX.row
  obtain ⟨A, ca, rfl⟩ := hX.shape
  have HXL := Lib.hid hXL
  have HXS : Hid (∀ x ∈ X, x.size ≤ 1099511627776) := Lib.hid (fun x hx => by
    have := (nlabs_ok (bs a) (bs x) (by rw [← hXL]; exact List.mem_map_of_mem hx)).2
    rw [bs_length] at this
    omega)
  clear hX hXL
  go_wp2_with fail
  refine (HB.out _).mono ?_
  rintro e w2 ⟨v2, Y, rfl, hY, hYL, hb2⟩
  have hYn : Y.length ≤ 127 := by rw [labs_len hYL]; exact hNb
  have HY := Lib.hid hY.row
  obtain ⟨C, cc, rfl⟩ := hY.shape
  have HYL := Lib.hid hYL
  have HYS : Hid (∀ x ∈ Y, x.size ≤ 1099511627776) := Lib.hid (fun x hx => by
    have := (nlabs_ok (bs b) (bs x) (by rw [← hYL]; exact List.mem_map_of_mem hx)).2
    rw [bs_length] at this
    omega)
  have HX2 := Lib.hid (HX.out.next hb2)
  have HBB := Lib.hid (next hb1 hb2)
  clear hY hYL hb1 hb2 hNa hNb
  have HR0 : Hid (cmpW (X.reverse.map bs) (Y.reverse.map bs) = R) := Lib.hid (by
    have eX : X.reverse.map bs = (nlabs (bs a)).reverse := by rw [List.map_reverse, HXL.out]
    have eY : Y.reverse.map bs = (nlabs (bs b)).reverse := by rw [List.map_reverse, HYL.out]
    rw [HRR.out, cmpW_R, eX, eY, List.map_reverse, List.map_reverse]
    rfl)
  go_wp2
  go_loopw [7] (fun i wr => RkRel X Y w2 R i wr) (fun i _ => X.length + 1 - (intOf i).toNat)
  case atStart => exact ⟨0, rfl, Nat.zero_le _, Nat.zero_le _, HR0, Below.refl _ _⟩
  case round =>
    clear HR0
    obtain ⟨k, rfl, hkx, hky, hr, hbk⟩ := hrel
    have hkz := hbk.size
    by_cases hx : k < X.length
    · by_cases hy : k < Y.length
      · have hpx : X.length - (k + 1) < X.length := by omega
        have hpy : Y.length - (k + 1) < Y.length := by omega
        obtain ⟨g, off, hA, hcx⟩ := (HX2.out.below hbk (Nat.le_refl _)).at hpx
        obtain ⟨g', off', hC, hcy⟩ := (HY.out.below hbk (Nat.le_refl _)).at hpy
        subst hA
        subst hC
        have hs := hr.out
        rw [drop_str X.reverse k (by rw [List.length_reverse]; exact hx), drop_str Y.reverse k (by rw [List.length_reverse]; exact hy), rev_at X k hx, rev_at Y k hy] at hs
        obtain ⟨x, hxe⟩ : ∃ x, x = X[X.length - (k + 1)] := ⟨_, rfl⟩
        obtain ⟨y, hye⟩ : ∃ y, y = Y[Y.length - (k + 1)] := ⟨_, rfl⟩
        have hxs := HXS.out _ (List.getElem_mem hpx)
        have hys := HYS.out _ (List.getElem_mem hpy)
        rw [← hxe] at hcx hs hxs
        rw [← hye] at hcy hs hys
        have HC := Lib.hid (fun wx => rCompare_any x y wx hxs hys)
        have hs' : (if cmp (bs x) (bs y) = 0 then cmpW ((X.reverse.map bs).drop (k + 1)) ((Y.reverse.map bs).drop (k + 1)) else cmp (bs x) (bs y)) = R := hs
        clear hs hxe hye hxs hys hr
        obtain ⟨p, hp⟩ : ∃ p, p = X.length - (k + 1) := ⟨_, rfl⟩
        obtain ⟨q, hq⟩ : ∃ q, q = Y.length - (k + 1) := ⟨_, rfl⟩
        rw [← hp] at hcx hpx
        rw [← hq] at hcy hpy
        have i1 : ((k : Int) + 1) ≤ X.length := by omega
        have i2 : ((k : Int) + 1) ≤ Y.length := by omega
        have i3 : (p : Int) < X.length := by omega
        have i4 : (q : Int) < Y.length := by omega
        have hmx : Try.prog.follows .mixedOrders = true := by kernel_rfl
        have w1' : IntKind.i64.wrap ((X.length : Int) - ((k : Int) + 1)) = (p : Int) := by rw [IntWalk.i64_in _ (by omega)]; omega
        have w2' : IntKind.i64.wrap ((Y.length : Int) - ((k : Int) + 1)) = (q : Int) := by rw [IntWalk.i64_in _ (by omega)]; omega
        have W1 := Lib.hid w1'
        have W2 := Lib.hid w2'
        clear hp hq w1' w2'
        by_cases h0 : cmp (bs x) (bs y) = 0
        · rw [if_pos h0] at hs'
          have HS := Lib.hid hs'
          have hb0 : (cmp (bs x) (bs y) != 0) = false := bne_eq_false_iff_eq.2 h0
          clear hs' h0
          go_wp2
          have w1' := W1.out
          have w2' := W2.out
          go_region_with (go_at_call 59; refine (HC.out _).mono ?_; rintro e w3 ⟨rfl, hb3⟩)
          all_goals
            clear w1' w2'
            go_wp2
            go_roundw
            case rel => exact ⟨k + 1, by go_num, hx, hy, HS, (hbk.drew).trans (hb3.mono hkz)⟩
            case measure => simp [intOf]; omega
        · rw [if_neg h0] at hs'
          have HS := Lib.hid hs'
          have hb0 : (cmp (bs x) (bs y) != 0) = true := bne_iff_ne.2 h0
          clear hs' h0
          go_wp2
          have w1' := W1.out
          have w2' := W2.out
          go_region_with (go_at_call 59; refine (HC.out _).mono ?_; rintro e w3 ⟨rfl, hb3⟩)
          all_goals
            clear w1' w2'
            go_wp2
            go_ret
            exact ⟨by rw [← HS.out]; rfl, HBB.out.trans (((hbk.drew).trans (hb3.mono hkz)).mono HBB.out.size)⟩
      · have hs := hr.out
        rw [drop_str X.reverse k (by rw [List.length_reverse]; exact hx), drop_nil Y.reverse k (by rw [List.length_reverse]; omega)] at hs
        have HS : Hid (R = 1) := Lib.hid hs.symm
        have i2 : ¬ ((k : Int) + 1 ≤ Y.length) := by omega
        have i3 : ((Y.length : Int)) < X.length := by omega
        have i4 : ¬ ((X.length : Int) < Y.length) := by omega
        clear hs hr
        go_wp2
        go_ret
        exact ⟨by rw [HS.out]; rfl, HBB.out.trans (hbk.mono HBB.out.size)⟩
    · have hs := hr.out
      have i1 : ¬ ((k : Int) + 1 ≤ X.length) := by omega
      rw [drop_nil X.reverse k (by rw [List.length_reverse]; omega)] at hs
      by_cases hy : k < Y.length
      · rw [drop_str Y.reverse k (by rw [List.length_reverse]; exact hy)] at hs
        have HS : Hid (R = -1) := Lib.hid hs.symm
        have i3 : ((X.length : Int)) < Y.length := by omega
        clear hs hr
        go_wp2
        go_ret
        exact ⟨by rw [HS.out]; rfl, HBB.out.trans (hbk.mono HBB.out.size)⟩
      · rw [drop_nil Y.reverse k (by rw [List.length_reverse]; omega)] at hs
        have HS : Hid (R = 0) := Lib.hid hs.symm
        have i3 : ¬ ((X.length : Int)) < Y.length := by omega
        have i4 : ¬ ((Y.length : Int)) < X.length := by omega
        clear hs hr
        go_wp2
        go_ret
        exact ⟨by rw [HS.out]; rfl, HBB.out.trans (hbk.mono HBB.out.size)⟩
end Go.Proofs.Ytjflmifolmpdgaa
