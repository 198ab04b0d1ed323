/-
  NameNames: the second chapter's examples come out as it tells: the walk. No condition.
-/
import Derived.Test.YtjflmifolmpdgaaNmLives
import Derived.Test.YtjflmifolmpdgaaTimes
namespace Go.Proofs.Ytjflmifolmpdgaa
open Go.RowKit
set_option linter.unusedVariables false

theorem xR1 : Gives 12 #[.string ⟨#[]⟩] (.tuple #[.string ⟨#[]⟩, .int .i64 2]) := gRead (e := 2) (by decide) (by decide +kernel)
theorem xR2 : Gives 12 #[.string ⟨#[46]⟩] (.tuple #[.string ⟨#[]⟩, .int .i64 0]) := gRead (e := 0) (by decide) (by decide +kernel)
theorem xR3 : Gives 12 #[.string ⟨#[97, 46, 46, 98]⟩] (.tuple #[.string ⟨#[]⟩, .int .i64 2]) := gRead (e := 2) (by decide) (by decide +kernel)
theorem xT1 : Gives 14 #[.string ⟨#[]⟩] (.tuple #[.string ⟨#[46]⟩, .int .i64 0]) := gText (e := 0) (by decide) (by decide +kernel) (by decide +kernel)
theorem xT2 : Gives 14 #[.string ⟨#[3, 97, 46, 98, 1, 67]⟩] (.tuple #[.string ⟨#[97, 92, 46, 98, 46, 67, 46]⟩, .int .i64 0]) := gText (e := 0) (by decide) (by decide +kernel) (by decide +kernel)
theorem xT3 : Gives 14 #[.string ⟨#[2, 97]⟩] (.tuple #[.string ⟨#[]⟩, .int .i64 4]) := gText (e := 4) (by decide) (by decide +kernel) (by decide +kernel)
theorem xP1 : Gives 15 #[.string ⟨#[1, 97, 1, 98]⟩] (.tuple #[.string ⟨#[1, 98]⟩, .bool true]) := gParent (by decide) (by decide +kernel)
theorem xP2 : Gives 15 #[.string ⟨#[]⟩] (.tuple #[.string ⟨#[]⟩, .bool false]) := gParent (by decide) (by decide +kernel)
theorem xJ1 : Gives 16 #[.string ⟨#[1, 97]⟩, .string ⟨#[1, 98]⟩] (.tuple #[.string ⟨#[1, 97, 1, 98]⟩, .int .i64 0]) := gJoin (e := 0) (by decide) (by decide) (by decide +kernel)
theorem xK1 : Gives 17 #[.string ⟨#[0]⟩] (.int .i64 4) := gCheck (e := 4) (by decide) (by decide +kernel)
theorem xF1 : Gives 18 #[.string ⟨#[2, 65, 66, 1, 99]⟩] (.string ⟨#[2, 97, 98, 1, 99]⟩) := gFold (by decide) (by decide +kernel)
theorem xS1 : Gives 19 #[.string ⟨#[1, 65]⟩, .string ⟨#[1, 97]⟩] (.bool true) := gSame (by decide) (by decide) (by decide +kernel)
theorem xC1 : Gives 20 #[.string ⟨#[1, 122, 1, 97]⟩, .string ⟨#[1, 97, 1, 98]⟩] (.int .i64 (-1)) := gCmp (by decide) (by decide) (by decide +kernel)
theorem xC2 : Gives 20 #[.string ⟨#[]⟩, .string ⟨#[1, 97]⟩] (.int .i64 (-1)) := gCmp (by decide) (by decide) (by decide +kernel)
theorem xU1 : Gives 21 #[.string ⟨#[1, 97, 1, 66]⟩, .string ⟨#[1, 98]⟩] (.bool true) := gUnder (by decide) (by decide) (by decide +kernel)
theorem xU2 : Gives 21 #[.string ⟨#[1, 97]⟩, .string ⟨#[]⟩] (.bool true) := gUnder (by decide) (by decide) (by decide +kernel)
theorem xU3 : Gives 21 #[.string ⟨#[2, 97, 98]⟩, .string ⟨#[1, 98]⟩] (.bool false) := gUnder (by decide) (by decide) (by decide +kernel)
theorem xW1 : Gives 22 #[.string ⟨#[1, 42]⟩] (.bool true) := gWild (by decide) (by decide +kernel)
theorem xW2 : Gives 22 #[.string ⟨#[2, 42, 42]⟩] (.bool false) := gWild (by decide) (by decide +kernel)
theorem xW3 : Gives 22 #[.string ⟨#[]⟩] (.bool false) := gWild (by decide) (by decide +kernel)

set_option maxRecDepth 100000 in
set_option maxHeartbeats 16000000 in
theorem nnames_core (T128 T127 n A64 : ByteArray) (w : World) (hn : ((n.size : Int) == 254) = true) (ha : A64.size ≤ 64)
    (t128 : Gives 13 #[.string ⟨#[97, 46]⟩, .int .i64 128] (.string T128)) (t127 : Gives 13 #[.string ⟨#[97, 46]⟩, .int .i64 127] (.string T127)) (t64 : Gives 13 #[.string ⟨#[97]⟩, .int .i64 64] (.string A64))
    (r128 : Gives 12 #[.string T128] (.tuple #[.string ⟨#[]⟩, .int .i64 3])) (r127 : Gives 12 #[.string T127] (.tuple #[.string n, .int .i64 0]))
    (jn : Gives 16 #[.string n, .string ⟨#[1, 98]⟩] (.tuple #[.string ⟨#[]⟩, .int .i64 3])) (k64 : Gives 17 #[.string (⟨#[64]⟩ ++ A64)] (.int .i64 4)) :
    Calls Try.prog 3 #[] w fun e w' => e = .returned (.bool true) ∧ Below w.heap.size w w' := by
  go_enter Try.func3, Try.ntmps3
  go_wp2_with fail
  refine (lives2 _).mono ?_
  rintro e w1 ⟨rfl, hb1⟩
  go_wp2_with fail
  refine (xR1 _).mono ?_
  rintro e w2 ⟨rfl, hb2⟩
  replace hb2 := next hb1 hb2
  clear hb1
  go_wp2_with fail
  refine (xR2 _).mono ?_
  rintro e w3 ⟨rfl, hb3⟩
  replace hb3 := next hb2 hb3
  clear hb2
  go_wp2_with fail
  refine (xR3 _).mono ?_
  rintro e w4 ⟨rfl, hb4⟩
  replace hb4 := next hb3 hb4
  clear hb3
  go_wp2_with fail
  refine (t128 _).mono ?_
  rintro e w5 ⟨rfl, hb5⟩
  replace hb5 := next hb4 hb5
  clear hb4
  go_wp2_with fail
  refine (r128 _).mono ?_
  rintro e w6 ⟨rfl, hb6⟩
  replace hb6 := next hb5 hb6
  clear hb5
  go_wp2_with fail
  refine (t127 _).mono ?_
  rintro e w7 ⟨rfl, hb7⟩
  replace hb7 := next hb6 hb7
  clear hb6
  go_wp2_with fail
  refine (r127 _).mono ?_
  rintro e w8 ⟨rfl, hb8⟩
  replace hb8 := next hb7 hb8
  clear hb7
  go_wp2_with fail
  refine (xT1 _).mono ?_
  rintro e w9 ⟨rfl, hb9⟩
  replace hb9 := next hb8 hb9
  clear hb8
  go_wp2_with fail
  refine (xT2 _).mono ?_
  rintro e w10 ⟨rfl, hb10⟩
  replace hb10 := next hb9 hb10
  clear hb9
  go_wp2_with fail
  refine (xT3 _).mono ?_
  rintro e w11 ⟨rfl, hb11⟩
  replace hb11 := next hb10 hb11
  clear hb10
  go_wp2_with fail
  refine (xP1 _).mono ?_
  rintro e w12 ⟨rfl, hb12⟩
  replace hb12 := next hb11 hb12
  clear hb11
  go_wp2_with fail
  refine (xP2 _).mono ?_
  rintro e w13 ⟨rfl, hb13⟩
  replace hb13 := next hb12 hb13
  clear hb12
  go_wp2_with fail
  refine (jn _).mono ?_
  rintro e w14 ⟨rfl, hb14⟩
  replace hb14 := next hb13 hb14
  clear hb13
  go_wp2_with fail
  refine (xJ1 _).mono ?_
  rintro e w15 ⟨rfl, hb15⟩
  replace hb15 := next hb14 hb15
  clear hb14
  go_wp2_with fail
  refine (lives2 _).mono ?_
  rintro e w16 ⟨rfl, hb16⟩
  replace hb16 := next hb15 hb16
  clear hb15
  go_wp2_with fail
  refine (xK1 _).mono ?_
  rintro e w17 ⟨rfl, hb17⟩
  replace hb17 := next hb16 hb17
  clear hb16
  go_wp2_with fail
  refine (t64 _).mono ?_
  rintro e w18 ⟨rfl, hb18⟩
  replace hb18 := next hb17 hb18
  clear hb17
  go_wp2_with fail
  refine (k64 _).mono ?_
  rintro e w19 ⟨rfl, hb19⟩
  replace hb19 := next hb18 hb19
  clear hb18
  go_wp2_with fail
  refine (xF1 _).mono ?_
  rintro e w20 ⟨rfl, hb20⟩
  replace hb20 := next hb19 hb20
  clear hb19
  go_wp2_with fail
  refine (xS1 _).mono ?_
  rintro e w21 ⟨rfl, hb21⟩
  replace hb21 := next hb20 hb21
  clear hb20
  go_wp2_with fail
  refine (xC1 _).mono ?_
  rintro e w22 ⟨rfl, hb22⟩
  replace hb22 := next hb21 hb22
  clear hb21
  go_wp2_with fail
  refine (xC2 _).mono ?_
  rintro e w23 ⟨rfl, hb23⟩
  replace hb23 := next hb22 hb23
  clear hb22
  go_wp2_with fail
  refine (xU1 _).mono ?_
  rintro e w24 ⟨rfl, hb24⟩
  replace hb24 := next hb23 hb24
  clear hb23
  go_wp2_with fail
  refine (xU2 _).mono ?_
  rintro e w25 ⟨rfl, hb25⟩
  replace hb25 := next hb24 hb25
  clear hb24
  go_wp2_with fail
  refine (xU3 _).mono ?_
  rintro e w26 ⟨rfl, hb26⟩
  replace hb26 := next hb25 hb26
  clear hb25
  go_wp2_with fail
  refine (xW1 _).mono ?_
  rintro e w27 ⟨rfl, hb27⟩
  replace hb27 := next hb26 hb27
  clear hb26
  go_wp2_with fail
  refine (xW2 _).mono ?_
  rintro e w28 ⟨rfl, hb28⟩
  replace hb28 := next hb27 hb28
  clear hb27
  go_wp2_with fail
  refine (xW3 _).mono ?_
  rintro e w29 ⟨rfl, hb29⟩
  replace hb29 := next hb28 hb29
  clear hb28
  go_wp2
  go_ret
  exact ⟨by simp, hb29⟩

theorem NameNames_walk (w : World) : Calls Try.prog 3 #[] w fun e w' => e = .returned (.bool true) ∧ Below w.heap.size w w' := by
  obtain ⟨T128, h128⟩ : ∃ A : ByteArray, bs A = times 128 [97, 46] := ⟨_, bs_mk _⟩
  obtain ⟨T127, h127⟩ : ∃ A : ByteArray, bs A = times 127 [97, 46] := ⟨_, bs_mk _⟩
  obtain ⟨n, hn⟩ : ∃ A : ByteArray, bs A = times 127 [1, 97] := ⟨_, bs_mk _⟩
  obtain ⟨A64, h64⟩ : ∃ A : ByteArray, bs A = times 64 [97] := ⟨_, bs_mk _⟩
  have s128 : T128.size = 256 := by rw [← bs_length, h128, times_length]; rfl
  have s127 : T127.size = 254 := by rw [← bs_length, h127, times_length]; rfl
  have sn : n.size = 254 := by rw [← bs_length, hn, times_length]; rfl
  have s64 : A64.size = 64 := by rw [← bs_length, h64, times_length]; rfl
  have hk : bs (⟨#[64]⟩ ++ A64) = 64 :: times 64 [97] := by rw [bs_append, h64]; rfl
  have hks : (⟨#[64]⟩ ++ A64 : ByteArray).size = 65 := by rw [← bs_length, hk, List.length_cons, times_length]; rfl
  refine nnames_core T128 T127 n A64 w (beq_iff_eq.2 (by omega)) (by omega) (gTimes _ _ 128 (by decide) (by decide) h128) (gTimes _ _ 127 (by decide) (by decide) h127) (gTimes _ _ 64 (by decide) (by decide) h64)
    (gRead (e := 3) (by omega) ?_) (gRead (e := 0) (by omega) ?_) (gJoin (e := 3) (by unfold maxLen; omega) (by decide) ?_) (gCheck (e := 4) (by unfold maxLen; omega) ?_)
  · rw [h128]
    decide +kernel
  · rw [h127, hn]
    decide +kernel
  · rw [hn]
    decide +kernel
  · rw [hk]
    decide +kernel
end Go.Proofs.Ytjflmifolmpdgaa
