/-
  What the document's own Under answers for layer 2: the walk. Condition: the names are no longer than Go's own limit.
-/
import Derived.Test.YtjflmifolmpdgaaNmRefE
namespace Go.Proofs.Ytjflmifolmpdgaa
open Go.RowKit
set_option linter.unusedVariables false

/-- The relation of Under's loop. -/
def RuRel (X Y : List ByteArray) (w : World) (R : Bool) (i : Value) (wr : World) : Prop :=
  ∃ k : Nat, i = .int .i64 ((k : Int) + 1) ∧ k ≤ Y.length ∧ Hid (eqW (((X.reverse.take Y.length).map bs).drop k) ((Y.reverse.map bs).drop k) = R) ∧ Below w.heap.size w wr

set_option maxHeartbeats 4000000 in
theorem rnUnder_any (a b : ByteArray) (w : World) (ha : a.size ≤ maxLen) (hb : b.size ≤ maxLen) :
    Calls Try.prog 36 #[.string a, .string b] w fun e w' => e = .returned (.bool (undN (bs a) (bs b))) ∧ Below w.heap.size w w' := by
  have HA := Lib.hid (fun wx => rLabels_any a wx ha)
  have HB := Lib.hid (fun wx => rLabels_any b wx hb)
  have CA := Lib.hid (fun wx => rnCheck_any a wx ha)
  have CB := Lib.hid (fun wx => rnCheck_any b wx hb)
  have hNa := nlabs_len (bs a)
  have hNb := nlabs_len (bs b)
  obtain ⟨R, hR⟩ : ∃ R, R = undN (bs a) (bs b) := ⟨_, rfl⟩
  rw [← hR]
  have HRR := Lib.hid hR
  clear ha hb hR
  go_enter Try.func36, Try.ntmps36
  go_wp2_with fail
  refine (HA.out _).mono ?_
  rintro e w1 ⟨v1, X, rfl, hX, hXL, hb1⟩
  have hXn : X.length ≤ 127 := by rw [labs_len hXL]; exact hNa
  have HX := Lib.hid hX.row
  obtain ⟨A, ca, rfl⟩ := hX.shape
  have HXL := Lib.hid hXL
  have HXS : Hid (∀ x ∈ X, x.size ≤ 1099511627776) := Lib.hid (fun x hx => by
    have := (nlabs_ok (bs a) (bs x) (by rw [← hXL]; exact List.mem_map_of_mem hx)).2
    rw [bs_length] at this
    omega)
  clear hX hXL
  go_wp2_with fail
  refine (HB.out _).mono ?_
  rintro e w2 ⟨v2, Y, rfl, hY, hYL, hb2⟩
  have hYn : Y.length ≤ 127 := by rw [labs_len hYL]; exact hNb
  have HY := Lib.hid hY.row
  obtain ⟨C, cc, rfl⟩ := hY.shape
  have HYL := Lib.hid hYL
  have HYS : Hid (∀ x ∈ Y, x.size ≤ 1099511627776) := Lib.hid (fun x hx => by
    have := (nlabs_ok (bs b) (bs x) (by rw [← hYL]; exact List.mem_map_of_mem hx)).2
    rw [bs_length] at this
    omega)
  have HX2 := Lib.hid (HX.out.next hb2)
  have HBB := Lib.hid (next hb1 hb2)
  clear hY hYL hb1 hb2 hNa hNb
  by_cases ca0 : chkN (bs a) = 0
  · have ba0 : ((chkN (bs a) : Int) != 0) = false := by rw [ca0]; rfl
    by_cases cb0 : chkN (bs b) = 0
    · have bb0 : ((chkN (bs b) : Int) != 0) = false := by rw [cb0]; rfl
      have hw := undN_walk ca0 cb0
      by_cases hle : Y.length ≤ X.length
      · have HR0 : Hid (eqW ((X.reverse.take Y.length).map bs) (Y.reverse.map bs) = R) := Lib.hid (by
          have lX := labs_len HXL.out
          have lY := labs_len HYL.out
          rw [HRR.out, hw, ← lX, ← lY, decide_eq_true hle, Bool.true_and, List.map_take, List.map_reverse, HXL.out, List.map_reverse, HYL.out])
        have i0 : ¬ ((X.length : Int) < Y.length) := by omega
        have d0 : decide (X.length < Y.length) = false := decide_eq_false (by omega)
        have d1 : decide ((X.length : Int) < Y.length) = false := decide_eq_false i0
        clear ca0 cb0 hw
        go_wp2_with fail
        refine (CA.out _).mono ?_
        rintro e w3 ⟨rfl, rfl⟩
        go_wp2_with fail
        refine (CB.out _).mono ?_
        rintro e w3 ⟨rfl, rfl⟩
        go_wp2
        go_loopw [7] (fun i wr => RuRel X Y w2 R i wr) (fun i _ => Y.length + 1 - (intOf i).toNat)
        case atStart => exact ⟨0, rfl, Nat.zero_le _, HR0, Below.refl _ _⟩
        case round =>
          clear HR0
          obtain ⟨k, rfl, hky, hr, hbk⟩ := hrel
          have hkz := hbk.size
          by_cases hy : k < Y.length
          · have hx : k < X.length := by omega
            have hpx : X.length - (k + 1) < X.length := by omega
            have hpy : Y.length - (k + 1) < Y.length := by omega
            obtain ⟨g, off, hA, hcx⟩ := (HX2.out.below hbk (Nat.le_refl _)).at hpx
            obtain ⟨g', off', hC, hcy⟩ := (HY.out.below hbk (Nat.le_refl _)).at hpy
            subst hA
            subst hC
            have hs := hr.out
            have ht : k < (X.reverse.take Y.length).length := by rw [List.length_take, List.length_reverse]; omega
            have hxk : (X.reverse.take Y.length)[k] = X[X.length - (k + 1)] := by rw [List.getElem_take]; exact rev_at X k hx
            rw [drop_str (X.reverse.take Y.length) k ht, drop_str Y.reverse k (by rw [List.length_reverse]; exact hy), hxk, rev_at Y k hy] at hs
            obtain ⟨x, hxe⟩ : ∃ x, x = X[X.length - (k + 1)] := ⟨_, rfl⟩
            obtain ⟨y, hye⟩ : ∃ y, y = Y[Y.length - (k + 1)] := ⟨_, rfl⟩
            have hxs := HXS.out _ (List.getElem_mem hpx)
            have hys := HYS.out _ (List.getElem_mem hpy)
            rw [← hxe] at hcx hs hxs
            rw [← hye] at hcy hs hys
            have HC := Lib.hid (fun wx => rSame_any x y wx hxs hys)
            have hs' : ((cmp (bs x) (bs y) == 0) && eqW (((X.reverse.take Y.length).map bs).drop (k + 1)) ((Y.reverse.map bs).drop (k + 1))) = R := hs
            clear hs hxe hye hxs hys hr ht hxk
            obtain ⟨p, hp⟩ : ∃ p, p = X.length - (k + 1) := ⟨_, rfl⟩
            obtain ⟨q, hq⟩ : ∃ q, q = Y.length - (k + 1) := ⟨_, rfl⟩
            rw [← hp] at hcx hpx
            rw [← hq] at hcy hpy
            have i2 : (k : Int) + 1 ≤ Y.length := by omega
            have i3 : (p : Int) < X.length := by omega
            have i4 : (q : Int) < Y.length := by omega
            have hmx : Try.prog.follows .mixedOrders = true := by kernel_rfl
            have w1' : IntKind.i64.wrap ((X.length : Int) - ((k : Int) + 1)) = (p : Int) := by rw [IntWalk.i64_in _ (by omega)]; omega
            have w2' : IntKind.i64.wrap ((Y.length : Int) - ((k : Int) + 1)) = (q : Int) := by rw [IntWalk.i64_in _ (by omega)]; omega
            have W1 := Lib.hid w1'
            have W2 := Lib.hid w2'
            clear hp hq w1' w2'
            cases h0 : (cmp (bs x) (bs y) == 0)
            · rw [h0, Bool.false_and] at hs'
              rw [h0] at HC
              have HS := Lib.hid hs'
              clear hs' h0
              go_wp2
              have w1' := W1.out
              have w2' := W2.out
              go_region_with (go_at_call 60; refine (HC.out _).mono ?_; rintro e w3 ⟨rfl, hb3⟩)
              all_goals
                clear w1' w2'
                go_wp2
                go_ret
                exact ⟨by rw [← HS.out]; rfl, HBB.out.trans (((hbk.drew).trans (hb3.mono hkz)).mono HBB.out.size)⟩
            · rw [h0, Bool.true_and] at hs'
              rw [h0] at HC
              have HS := Lib.hid hs'
              clear hs' h0
              go_wp2
              have w1' := W1.out
              have w2' := W2.out
              go_region_with (go_at_call 60; refine (HC.out _).mono ?_; rintro e w3 ⟨rfl, hb3⟩)
              all_goals
                clear w1' w2'
                go_wp2
                go_roundw
                case rel => exact ⟨k + 1, by go_num, hy, HS, (hbk.drew).trans (hb3.mono hkz)⟩
                case measure => simp [intOf]; omega
          · have hs := hr.out
            rw [drop_nil Y.reverse k (by rw [List.length_reverse]; omega), drop_nil (X.reverse.take Y.length) k (by rw [List.length_take]; omega)] at hs
            have HS : Hid (R = true) := Lib.hid hs.symm
            have i2 : ¬ ((k : Int) + 1 ≤ Y.length) := by omega
            clear hs hr
            go_wp2
            go_ret
            exact ⟨by rw [HS.out]; rfl, HBB.out.trans (hbk.mono HBB.out.size)⟩
      · have HE : Hid (R = false) := Lib.hid (by
          have lX := labs_len HXL.out
          have lY := labs_len HYL.out
          rw [HRR.out, hw, ← lX, ← lY, decide_eq_false hle, Bool.false_and])
        have i0 : ((X.length : Int) < Y.length) := by omega
        clear ca0 cb0 hw
        go_wp2_with fail
        refine (CA.out _).mono ?_
        rintro e w3 ⟨rfl, rfl⟩
        go_wp2_with fail
        refine (CB.out _).mono ?_
        rintro e w3 ⟨rfl, rfl⟩
        go_wp2
        go_ret
        exact ⟨by rw [HE.out]; rfl, HBB.out⟩
    · have bb0 : ((chkN (bs b) : Int) != 0) = true := bne_iff_ne.2 (by omega)
      have HE : Hid (R = false) := Lib.hid (by rw [HRR.out]; unfold undN; rw [beq_eq_false_iff_ne.2 cb0]; simp)
      clear ca0 cb0
      go_wp2_with fail
      refine (CA.out _).mono ?_
      rintro e w3 ⟨rfl, rfl⟩
      go_wp2_with fail
      refine (CB.out _).mono ?_
      rintro e w3 ⟨rfl, rfl⟩
      go_wp2
      go_ret
      exact ⟨by rw [HE.out]; rfl, HBB.out⟩
  · have ba0 : ((chkN (bs a) : Int) != 0) = true := bne_iff_ne.2 (by omega)
    have HE : Hid (R = false) := Lib.hid (by rw [HRR.out]; unfold undN; rw [beq_eq_false_iff_ne.2 ca0]; simp)
    clear ca0
    go_wp2_with fail
    refine (CA.out _).mono ?_
    rintro e w3 ⟨rfl, rfl⟩
    go_wp2
    go_ret
    exact ⟨by rw [HE.out]; rfl, HBB.out⟩
end Go.Proofs.Ytjflmifolmpdgaa
