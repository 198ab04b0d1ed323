/-
  HashSteps: the walk. Condition: the strings are no longer than Go's own limit.
-/
import Derived.Test.YtmjhofgcfolelaaHsA
namespace Go.Proofs.Ytmjhofgcfolelaa
open Go.RowKit
set_option linter.unusedVariables false

/-- The law's loop: the sum of the first k octets. -/
def StRel (s : ByteArray) (w : World) (v i : Value) (wr : World) : Prop := ∃ k : Nat, i = .int .i64 k ∧ k ≤ s.size ∧ v = .int .u64 (moreH h0 ((bs s).take k)) ∧ Below w.heap.size w wr
theorem st_step (s : ByteArray) (k : Nat) (h : k < s.size) : moreH (moreH h0 ((bs s).take k)) (bs (s.extract k (k + 1))) = moreH h0 ((bs s).take (k + 1)) := by
  rw [take_more s k h, moreH_app, bs_extract, drop_at s k h, Nat.add_sub_cancel_left]
  rfl
theorem u64_of_slot {k : Int} (h : 0 ≤ k ∧ k < 65536) : IntKind.u64.wrap k = k := by rw [IntKind.wrap_u64]; omega

set_option maxRecDepth 100000 in
set_option maxHeartbeats 4000000 in
theorem hsteps_in (n s : ByteArray) (w : World) (hn : n.size ≤ 400) (hs : s.size ≤ 400) :
    Calls Try.prog 7 #[.string n, .string s] w fun e w' => e = .returned (.bool true) ∧ Below w.heap.size w w' := by
  have hnm : n.size ≤ maxLen := by unfold maxLen; omega
  have hsm : s.size ≤ maxLen := by unfold maxLen; omega
  have hL := Lib.hid lives13
  have g0 := Lib.hid (gSum (s := ⟨#[]⟩) (by decide) (v := h0) rfl)
  have HSt := Lib.hid (st_step s)
  obtain ⟨V, hV⟩ : ∃ V, sumH (bs s) = V := ⟨_, rfl⟩
  obtain ⟨M, hM⟩ : ∃ M, nameH (bs n) = M := ⟨_, rfl⟩
  obtain ⟨F, hF⟩ : ∃ F : ByteArray, foldN (bs n) = bs F := ⟨_, (bs_mk _).symm⟩
  obtain ⟨K, hK⟩ : ∃ K, slotH (bs n) 65536 = K := ⟨_, rfl⟩
  have hl : F.size ≤ maxLen := by
    have e : F.size = (foldN (bs n)).length := by rw [hF, bs_length]
    have := foldN_le (bs n)
    rw [bs_length] at this
    rw [e]
    exact Nat.le_trans this hnm
  have kr := slotH_range (bs n) (k := 65536) (by decide)
  have g1 := Lib.hid (gSum hsm hV)
  have g2 := Lib.hid (gMore V (s := ⟨#[]⟩) (by decide) (v := V) rfl)
  have g3 := Lib.hid (gName hnm hM)
  have g4 := Lib.hid (gFold hnm hF)
  have g5 := Lib.hid (gSum hl (v := M) (by rw [← hF]; exact hM))
  have g6 := Lib.hid (gSlot hnm (k := 1) (by decide) (v := 0) (by unfold slotH; rw [if_neg (by decide), Int.emod_one]))
  have g7 := Lib.hid (gSlot hnm (k := 65536) (by decide) hK)
  rw [hK] at kr
  have hu := u64_of_slot kr
  have hKM : M % 65536 = K := by rw [← hM, ← hK]; unfold slotH; rw [if_neg (by decide)]
  have hM0 : 0 ≤ M := by rw [← hM]; exact (nameH_range _).1
  have hb : (K == M % 65536) = true := by rw [hKM]; exact beq_self_eq_true K
  have HV := Lib.hid hV
  clear hV hM hF hK hl kr hKM
  go_enter Try.func7, Try.ntmps7
  go_wp2_with fail
  refine (hL.out.go _).mono ?_
  rintro e w1 ⟨rfl, hb1⟩
  go_wp2_with fail
  refine (g0.out.go _).mono ?_
  rintro e w2 ⟨rfl, hb2⟩
  have HR0 : Hid (StRel s w (.int .u64 h0) (.int .i64 0) w2) := Lib.hid ⟨0, rfl, Nat.zero_le _, by rw [List.take_zero]; rfl, next hb1 hb2⟩
  clear hb1 hb2
  go_wp2
  go_loopw [5, 6] (fun v i wr => StRel s w v i wr) (fun v i _ => s.size - (intOf i).toNat)
  case atStart => exact HR0.out
  case round =>
    clear HR0
    obtain ⟨k, rfl, hk, rfl, hb0⟩ := hrel
    have HB := Lib.hid hb0
    by_cases hlt : k < s.size
    · have i1 : (k : Int) < s.size := by omega
      have hx : (s.extract k (k + 1)).size ≤ maxLen := by simp [ByteArray.size_extract]; unfold maxLen; omega
      have gm := Lib.hid (gMore (moreH h0 ((bs s).take k)) hx (HSt.out k hlt))
      clear hx hb0
      go_wp2_with fail
      refine (gm.out.go _).mono ?_
      rintro e w3 ⟨rfl, hb3⟩
      go_wp2
      go_roundw
      case rel => exact ⟨k + 1, by go_num, hlt, rfl, next HB.out hb3⟩
      case measure => simp [intOf]; omega
    · have hge : ¬ (k : Int) < s.size := by omega
      have e : moreH h0 ((bs s).take k) = V := by rw [← HV.out, List.take_of_length_le (by rw [bs_length]; omega)]; rfl
      rw [e]
      clear e hb0 hk hlt
      go_wp2_with fail
      refine (g1.out.go _).mono ?_
      rintro e w11 ⟨rfl, hb11⟩
      replace HB := Lib.hid (next HB.out hb11)
      clear hb11
      go_wp2_with fail
      refine (g2.out.go _).mono ?_
      rintro e w12 ⟨rfl, hb12⟩
      replace HB := Lib.hid (next HB.out hb12)
      clear hb12
      go_wp2_with fail
      refine (g3.out.go _).mono ?_
      rintro e w13 ⟨rfl, hb13⟩
      replace HB := Lib.hid (next HB.out hb13)
      clear hb13
      go_wp2_with fail
      refine (g4.out.go _).mono ?_
      rintro e w14 ⟨rfl, hb14⟩
      replace HB := Lib.hid (next HB.out hb14)
      clear hb14
      go_wp2_with fail
      refine (g5.out.go _).mono ?_
      rintro e w15 ⟨rfl, hb15⟩
      replace HB := Lib.hid (next HB.out hb15)
      clear hb15
      go_wp2_with fail
      refine (g6.out.go _).mono ?_
      rintro e w16 ⟨rfl, hb16⟩
      replace HB := Lib.hid (next HB.out hb16)
      clear hb16
      go_wp2_with fail
      refine (g7.out.go _).mono ?_
      rintro e w17 ⟨rfl, hb17⟩
      replace HB := Lib.hid (next HB.out hb17)
      clear hb17
      go_wp2_with fail
      refine (g3.out.go _).mono ?_
      rintro e w18 ⟨rfl, hb18⟩
      replace HB := Lib.hid (next HB.out hb18)
      clear hb18
      go_wp2
      go_ret
      exact ⟨rfl, HB.out⟩

theorem HashSteps_walk (n s : ByteArray) (hn : n.size ≤ maxLen) (hs : s.size ≤ maxLen) (w : World) :
    Calls Try.prog 7 #[.string n, .string s] w fun e w' => e = .returned (.bool true) ∧ Below w.heap.size w w' := by
  by_cases h1 : n.size ≤ 400
  · by_cases h2 : s.size ≤ 400
    · exact hsteps_in n s w h1 h2
    · have hL := lives13
      unfold maxLen at hn hs
      clear h1
      by_cases h1 : n.size ≤ 400
      all_goals
        go_enter Try.func7, Try.ntmps7
        go_wp2_with (first | (go_at_call 8; ((with_reducible refine (hL.go _).mono ?_); rintro e w' ⟨rfl, hb'⟩; have hbb := hb')))
        go_ret
        exact ⟨rfl, hbb⟩
  · have hL := lives13
    unfold maxLen at hn hs
    go_enter Try.func7, Try.ntmps7
    go_wp2_with (first | (go_at_call 8; ((with_reducible refine (hL.go _).mono ?_); rintro e w' ⟨rfl, hb'⟩; have hbb := hb')))
    go_ret
    exact ⟨rfl, hbb⟩
end Go.Proofs.Ytmjhofgcfolelaa
