/-
  What the document's own Parent, Join, Wild, Matches, and the rows' comparing of nameplatekit, answer: the walks. Condition: the names are no longer than Go's own limit.
-/
import Derived.Test.YtjflmifolmpdgaaNmRefF
namespace Go.Proofs.Ytjflmifolmpdgaa
open Go.RowKit
set_option linter.unusedVariables false

set_option maxHeartbeats 1000000 in
theorem rnParent_any (n : ByteArray) (w : World) (hs : n.size ≤ maxLen) : Calls Try.prog 27 #[.string n] w (Nb w (parN (bs n))) := by
  have HC := Lib.hid (fun wx => rnCheck_any n wx hs)
  by_cases hc : chkN (bs n) = 0
  · have hb : ((chkN (bs n) : Int) != 0) = false := by rw [hc]; rfl
    rcases Nat.eq_zero_or_pos n.size with h0 | h0
    · have hn : bs n = [] := List.eq_nil_of_length_eq_zero (by rw [bs_length]; exact h0)
      have HE : Hid (parN (bs n) = ([], false)) := Lib.hid (by rw [hn]; rfl)
      have e1 := empty_yes h0
      clear hc hn h0 hs
      go_enter Try.func27, Try.ntmps27
      go_wp2_with (go_at_call 29; refine (HC.out _).mono ?_; rintro e w1 ⟨rfl, rfl⟩)
      go_ret2
      exact nb_ret _ [] _ HE.out rfl (Below.refl _ _)
    · obtain ⟨e1, e2⟩ := empty_no h0
      have hne : bs n ≠ [] := fun e => by
        have := bs_length n
        rw [e] at this
        simp at this
        omega
      rcases hk : cutL (bs n) with _ | ⟨x, r⟩
      · exact absurd ((cutL_nil hc).1 hk) hne
      · have hcut := cut_at n 0 h0
        rw [List.drop_zero, hk] at hcut
        split at hcut
        · rename_i hok
          simp only [Option.some.injEq, Prod.mk.injEq] at hcut
          obtain ⟨o1, o2, o3⟩ := hok
          have hr : bs (n.extract (1 + n[0].toNat) n.size) = r := by
            rw [bs_extract, List.take_of_length_le (by rw [List.length_drop, bs_length]; omega), hcut.2, Nat.zero_add]
          have HE : Hid (parN (bs n) = (bs (n.extract (1 + n[0].toNat) n.size), true)) := Lib.hid (by rw [hr]; exact parN_some hc hk)
          have o4 : (1 : Int) + n[0].toNat ≤ n.size := by omega
          have hle : n.size ≤ 254 := by have := (chkN_iff.1 hc).1; rw [bs_length] at this; exact this
          clear hc hk hcut hr hne
          go_enter Try.func27, Try.ntmps27
          go_wp2_with (go_at_call 29; refine (HC.out _).mono ?_; rintro e w1 ⟨rfl, rfl⟩)
          go_ret2
          exact nb_ret _ _ _ HE.out rfl (Below.refl _ _)
        · cases hcut
  · have hb : ((chkN (bs n) : Int) != 0) = true := bne_iff_ne.2 (by omega)
    have HE : Hid (parN (bs n) = ([], false)) := Lib.hid (if_neg hc)
    clear hc
    go_enter Try.func27, Try.ntmps27
    go_wp2_with (go_at_call 29; refine (HC.out _).mono ?_; rintro e w1 ⟨rfl, rfl⟩)
    go_ret2
    exact nb_ret _ [] _ HE.out rfl (Below.refl _ _)

set_option maxHeartbeats 1000000 in
theorem rnJoin_any (a b : ByteArray) (w : World) (ha : a.size ≤ maxLen) (hb : b.size ≤ maxLen) : Calls Try.prog 28 #[.string a, .string b] w (Nm w (joinN (bs a) (bs b))) := by
  have HA := Lib.hid (fun wx => rnCheck_any a wx ha)
  have HB := Lib.hid (fun wx => rnCheck_any b wx hb)
  by_cases h : chkN (bs a) = 0
  · have hb0 : ((chkN (bs a) : Int) == 0) = true := beq_iff_eq.2 (by omega)
    have ha2 := (chkN_iff.1 h).1
    rw [bs_length] at ha2
    by_cases k : chkN (bs b) = 0
    · have hb1 : ((chkN (bs b) : Int) == 0) = true := beq_iff_eq.2 (by omega)
      have hb3 : ((chkN (bs b) : Int) != 0) = false := bne_eq_false_iff_eq.2 (by omega)
      have hb2 := (chkN_iff.1 k).1
      rw [bs_length] at hb2
      by_cases hl : 254 < a.size + b.size
      · have HE : Hid (joinN (bs a) (bs b) = ([], 3)) := Lib.hid (joinN_long h k (by rw [bs_length, bs_length]; exact hl))
        have i1 : (254 : Int) < a.size + b.size := by omega
        clear h k ha hb
        go_enter Try.func28, Try.ntmps28
        go_wp2_with fail
        refine (HA.out _).mono ?_
        rintro e w1 ⟨rfl, rfl⟩
        go_wp2_with fail
        refine (HB.out _).mono ?_
        rintro e w1 ⟨rfl, rfl⟩
        go_wp2
        go_ret2
        exact nm_ret _ [] _ 3 HE.out rfl rfl (Below.refl _ _)
      · have HE : Hid (joinN (bs a) (bs b) = (bs (a ++ b), 0)) := Lib.hid (by rw [(joinN_ok h k (by rw [bs_length, bs_length]; omega)).1, bs_append])
        have i1 : ¬ (254 : Int) < a.size + b.size := by omega
        clear h k ha hb
        go_enter Try.func28, Try.ntmps28
        go_wp2_with fail
        refine (HA.out _).mono ?_
        rintro e w1 ⟨rfl, rfl⟩
        go_wp2_with fail
        refine (HB.out _).mono ?_
        rintro e w1 ⟨rfl, rfl⟩
        go_wp2
        go_ret2
        exact nm_ret _ (bs (a ++ b)) _ 0 HE.out rfl rfl (Below.refl _ _)
    · have hb1 : ((chkN (bs b) : Int) == 0) = false := beq_eq_false_iff_ne.2 (by omega)
      have hb3 : ((chkN (bs b) : Int) != 0) = true := bne_iff_ne.2 (by omega)
      have HE : Hid (joinN (bs a) (bs b) = ([], chkN (bs b))) := Lib.hid (by unfold joinN; rw [if_neg (by omega), if_pos k])
      clear h k
      go_enter Try.func28, Try.ntmps28
      go_wp2_with fail
      refine (HA.out _).mono ?_
      rintro e w1 ⟨rfl, rfl⟩
      go_wp2_with fail
      refine (HB.out _).mono ?_
      rintro e w1 ⟨rfl, rfl⟩
      go_wp2
      go_ret2
      exact nm_ret _ [] _ _ HE.out rfl rfl (Below.refl _ _)
  · have hb0 : ((chkN (bs a) : Int) == 0) = false := beq_eq_false_iff_ne.2 (by omega)
    have hb3 : ((chkN (bs a) : Int) != 0) = true := bne_iff_ne.2 (by omega)
    have HE : Hid (joinN (bs a) (bs b) = ([], chkN (bs a))) := Lib.hid (by unfold joinN; rw [if_pos h])
    clear h
    go_enter Try.func28, Try.ntmps28
    go_wp2_with fail
    refine (HA.out _).mono ?_
    rintro e w1 ⟨rfl, rfl⟩
    go_wp2
    go_ret2
    exact nm_ret _ [] _ _ HE.out rfl rfl (Below.refl _ _)

set_option maxHeartbeats 1000000 in
theorem rnWild_any (n : ByteArray) (w : World) (hs : n.size ≤ maxLen) : Calls Try.prog 37 #[.string n] w fun e w' => e = .returned (.bool (wildN (bs n))) ∧ Below w.heap.size w w' := by
  have HC := Lib.hid (fun wx => rnCheck_any n wx hs)
  by_cases hc : chkN (bs n) = 0
  · have hb : ((chkN (bs n) : Int) == 0) = true := beq_iff_eq.2 (by omega)
    have hle : n.size ≤ 254 := by have := (chkN_iff.1 hc).1; rw [bs_length] at this; exact this
    by_cases h1 : 1 < n.size
    · have i1 : (1 : Int) < n.size := by omega
      have hd : (bs n).take 2 = [n[0], n[1]] := by
        have e1 := drop_at n 0 (by omega)
        have e2 := drop_at n 1 h1
        rw [List.drop_zero] at e1
        rw [e1, e2]
        rfl
      have hw : wildN (bs n) = (decide (n[0].toNat = 1) && decide (n[1].toNat = 42)) := by
        unfold wildN
        rw [hc, hd, Bool.eq_iff_iff]
        simp [← UInt8.toNat_inj]
      by_cases c0 : n[0].toNat = 1
      · have b0 : ((n[0].toNat : Int) == 1) = true := beq_iff_eq.2 (by omega)
        by_cases c1 : n[1].toNat = 42
        · have b1 : ((n[1].toNat : Int) == 42) = true := beq_iff_eq.2 (by omega)
          have HE : Hid (wildN (bs n) = true) := Lib.hid (by rw [hw, decide_eq_true c0, decide_eq_true c1]; rfl)
          clear hc hd hw c0 c1
          go_enter Try.func37, Try.ntmps37
          go_wp2_with (go_at_call 29; refine (HC.out _).mono ?_; rintro e w1 ⟨rfl, rfl⟩)
          go_ret
          exact ⟨by rw [HE.out]; rfl, Below.refl _ _⟩
        · have b1 : ((n[1].toNat : Int) == 42) = false := beq_eq_false_iff_ne.2 (by omega)
          have HE : Hid (wildN (bs n) = false) := Lib.hid (by rw [hw, decide_eq_false c1, Bool.and_false])
          clear hc hd hw c0 c1
          go_enter Try.func37, Try.ntmps37
          go_wp2_with (go_at_call 29; refine (HC.out _).mono ?_; rintro e w1 ⟨rfl, rfl⟩)
          go_ret
          exact ⟨by rw [HE.out]; rfl, Below.refl _ _⟩
      · have b0 : ((n[0].toNat : Int) == 1) = false := beq_eq_false_iff_ne.2 (by omega)
        have HE : Hid (wildN (bs n) = false) := Lib.hid (by rw [hw, decide_eq_false c0, Bool.false_and])
        clear hc hd hw c0
        go_enter Try.func37, Try.ntmps37
        go_wp2_with (go_at_call 29; refine (HC.out _).mono ?_; rintro e w1 ⟨rfl, rfl⟩)
        go_ret
        exact ⟨by rw [HE.out]; rfl, Below.refl _ _⟩
    · have i1 : ¬ (1 : Int) < n.size := by omega
      have HE : Hid (wildN (bs n) = false) := Lib.hid (by
        unfold wildN
        have : (bs n).take 2 ≠ [1, 42] := fun e => by
          have := congrArg List.length e
          rw [List.length_take, bs_length] at this
          simp at this
          omega
        rw [beq_eq_false_iff_ne.2 this, Bool.and_false])
      clear hc h1
      go_enter Try.func37, Try.ntmps37
      go_wp2_with (go_at_call 29; refine (HC.out _).mono ?_; rintro e w1 ⟨rfl, rfl⟩)
      go_ret
      exact ⟨by rw [HE.out]; rfl, Below.refl _ _⟩
  · have hb : ((chkN (bs n) : Int) == 0) = false := beq_eq_false_iff_ne.2 (by omega)
    have HE : Hid (wildN (bs n) = false) := Lib.hid (by unfold wildN; rw [beq_eq_false_iff_ne.2 hc, Bool.false_and])
    clear hc
    go_enter Try.func37, Try.ntmps37
    go_wp2_with (go_at_call 29; refine (HC.out _).mono ?_; rintro e w1 ⟨rfl, rfl⟩)
    go_ret
    exact ⟨by rw [HE.out]; rfl, Below.refl _ _⟩

theorem parN_le (l : List UInt8) : (parN l).1.length ≤ 254 := by
  unfold parN
  split
  · rename_i hc
    rcases hk : cutL l with _ | ⟨x, r⟩
    · simp
    · have := cutL_len hk
      have := (chkN_iff.1 hc).1
      simp only
      omega
  · simp

set_option maxHeartbeats 2000000 in
theorem rnMatches_any (v n : ByteArray) (w : World) (hv : v.size ≤ maxLen) (hn : n.size ≤ maxLen) : Calls Try.prog 39 #[.string v, .string n] w fun e w' => e = .returned (.bool (matN (bs v) (bs n))) ∧ Below w.heap.size w w' := by
  have HW := Lib.hid (fun wx => rnWild_any v wx hv)
  cases h : wildN (bs v)
  · rw [h] at HW
    have HE : Hid (matN (bs v) (bs n) = false) := Lib.hid (by unfold matN; rw [h, Bool.false_and])
    clear h
    go_enter Try.func39, Try.ntmps39
    go_wp2_with (go_at_call 37; refine (HW.out _).mono ?_; rintro e w1 ⟨rfl, hb1⟩)
    go_ret
    exact ⟨by rw [HE.out]; rfl, hb1⟩
  · rw [h] at HW
    have HCN := Lib.hid (fun wx => rnCheck_any n wx hn)
    obtain ⟨P, hP⟩ : ∃ P : ByteArray, P = ⟨(parN (bs v)).1.toArray⟩ := ⟨_, rfl⟩
    have hPb : bs P = (parN (bs v)).1 := by rw [hP, bs_mk]
    have hPs : P.size ≤ maxLen := by
      have := parN_le (bs v)
      rw [← hPb, bs_length] at this
      unfold maxLen
      omega
    have HPN : Hid (∀ wx, Calls Try.prog 27 #[.string v] wx fun e w' => e = .returned (.tuple #[.string P, .bool (parN (bs v)).2]) ∧ Below wx.heap.size wx w') := Lib.hid (fun wx => by
      rw [hP]
      exact rnParent_any v wx hv)
    have HU := Lib.hid (fun wx => rnUnder_any n P wx hn hPs)
    have HL := Lib.hid (fun wx => rLabels_any n wx hn)
    have HM := Lib.hid (fun wx => rLabels_any P wx hPs)
    have hE : matN (bs v) (bs n) = (undN (bs n) (bs P) && decide ((nlabs (bs P)).length < (nlabs (bs n)).length)) := by
      unfold matN
      rw [h, Bool.true_and, hPb]
    have hN := nlabs_len (bs n)
    have hN2 := nlabs_len (bs P)
    clear h hP hPb hv hn hPs
    by_cases hc : chkN (bs n) = 0
    · have hb : ((chkN (bs n) : Int) != 0) = false := by rw [hc]; rfl
      clear hc
      cases hu : undN (bs n) (bs P)
      · rw [hu] at HU
        rw [hu, Bool.false_and] at hE
        have HE := Lib.hid hE
        clear hE hu
        go_enter Try.func39, Try.ntmps39
        go_wp2_with (first | (go_at_call 37; refine (HW.out _).mono ?_; rintro e w1 ⟨rfl, hb1⟩) | (go_at_call 29; refine (HCN.out _).mono ?_; rintro e w1' ⟨rfl, rfl⟩) | (go_at_call 27; refine (HPN.out _).mono ?_; rintro e w2 ⟨rfl, hb2⟩) | (go_at_call 36; refine (HU.out _).mono ?_; rintro e w3 ⟨rfl, hb3⟩))
        go_ret
        exact ⟨by rw [HE.out]; rfl, next (next hb1 hb2) hb3⟩
      · rw [hu] at HU
        rw [hu, Bool.true_and] at hE
        have HE := Lib.hid hE
        clear hE hu
        go_enter Try.func39, Try.ntmps39
        go_wp2_with (first | (go_at_call 37; refine (HW.out _).mono ?_; rintro e w1 ⟨rfl, hb1⟩) | (go_at_call 29; refine (HCN.out _).mono ?_; rintro e w1' ⟨rfl, rfl⟩) | (go_at_call 27; refine (HPN.out _).mono ?_; rintro e w2 ⟨rfl, hb2⟩) | (go_at_call 36; refine (HU.out _).mono ?_; rintro e w3 ⟨rfl, hb3⟩))
        refine (HL.out _).mono ?_
        rintro e w4 ⟨v4, X, rfl, hX, hXL, hb4⟩
        obtain ⟨A, ca, rfl⟩ := hX.shape
        have hXl := labs_len hXL
        rw [hXl]
        clear hXL hX
        go_wp2_with fail
        refine (HM.out _).mono ?_
        rintro e w5 ⟨v5, Y, rfl, hY, hYL, hb5⟩
        obtain ⟨C, cc, rfl⟩ := hY.shape
        have hYl := labs_len hYL
        rw [hYl]
        clear hYL hY
        have HX := Lib.hid hXl
        have HY := Lib.hid hYl
        clear hXl hYl
        go_wp2
        go_ret
        refine ⟨?_, next (next (next (next hb1 hb2) hb3) hb4) hb5⟩
        rw [HE.out]
        simp
    · have hb : ((chkN (bs n) : Int) != 0) = true := bne_iff_ne.2 (by omega)
      have HE : Hid (matN (bs v) (bs n) = false) := Lib.hid (by
        rw [hE]
        unfold undN
        rw [beq_eq_false_iff_ne.2 hc]
        simp)
      clear hc hE
      go_enter Try.func39, Try.ntmps39
      go_wp2_with (first | (go_at_call 37; refine (HW.out _).mono ?_; rintro e w1 ⟨rfl, hb1⟩) | (go_at_call 29; refine (HCN.out _).mono ?_; rintro e w1' ⟨rfl, rfl⟩))
      go_ret
      exact ⟨by rw [HE.out]; rfl, hb1⟩

/-- Two rows of the same strings are the same. -/
def KsRel (n : Nat) (w : World) (i : Value) (wr : World) : Prop := ∃ k : Nat, i = .int .i64 k ∧ k ≤ n ∧ Below w.heap.size w wr
set_option maxHeartbeats 2000000 in
theorem kSame_same (A C : Option Addr) (ca cc : Nat) (X : List ByteArray) (w : World) (hn : X.length ≤ 127) (hX : SRow w (.slice A X.length ca) X) (hY : SRow w (.slice C X.length cc) X) :
    Calls Try.prog 30 #[.slice A X.length ca, .slice C X.length cc] w fun e w' => e = .returned (.bool true) ∧ Below w.heap.size w w' := by
  have HX := Lib.hid hX
  have HY := Lib.hid hY
  clear hX hY
  go_enter Try.func30, Try.ntmps30
  go_wp2
  go_loopw [5] (fun i wr => KsRel X.length w i wr) (fun i _ => X.length - (intOf i).toNat)
  case atStart => exact ⟨0, rfl, Nat.zero_le _, Below.refl _ _⟩
  case round =>
    obtain ⟨k, rfl, hk, hb⟩ := hrel
    by_cases hlt : k < X.length
    · obtain ⟨g, off, hA, hcx⟩ := (HX.out.below hb (Nat.le_refl _)).at hlt
      obtain ⟨g', off', hC, hcy⟩ := (HY.out.below hb (Nat.le_refl _)).at hlt
      subst hA
      subst hC
      obtain ⟨x, hx⟩ : ∃ x, x = X[k] := ⟨_, rfl⟩
      rw [← hx] at hcx hcy
      have i1 : (k : Int) < X.length := by omega
      clear hx
      go_wp2_with fail
      go_quiet (fail)
      go_wp2
      go_roundw
      case rel => exact ⟨k + 1, by go_num, hlt, below_draws hb _⟩
      case measure => simp [intOf]; omega
    · have i1 : ¬ (k : Int) < X.length := by omega
      go_wp2
      go_ret
      exact ⟨rfl, hb⟩
end Go.Proofs.Ytjflmifolmpdgaa
