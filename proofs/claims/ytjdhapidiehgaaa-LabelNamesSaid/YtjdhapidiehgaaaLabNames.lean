/-
  LabelNames: the first chapter's examples come out as it tells: the walk. No condition.
-/
import Derived.Test.YtjdhapidiehgaaaLabOrder
namespace Go.Proofs.Ytjdhapidiehgaaa
open Go.RowKit

/-- A text so many times. -/
def times (n : Nat) (l : List UInt8) : List UInt8 := (List.replicate n l).flatten
theorem times_succ (n : Nat) (l : List UInt8) : times (n + 1) l = times n l ++ l := by
  unfold times
  rw [List.replicate_succ', List.flatten_append]
  simp
theorem times_length (n : Nat) (l : List UInt8) : (times n l).length = n * l.length := by
  induction n with
  | zero => simp [times]
  | succ n ih => rw [times_succ, List.length_append, ih, Nat.succ_mul]

def TimesRel (s : ByteArray) (n : Nat) (v i : Value) : Prop := ∃ (k : Nat) (S : ByteArray), i = .int .i64 k ∧ k ≤ n ∧ v = .string S ∧ bs S = times k (bs s)
theorem Times_any (s T : ByteArray) (n : Nat) (w : World) (hs : s.size ≤ 1048576) (hn : n ≤ 1048576) (hT : bs T = times n (bs s)) :
    Calls Try.prog 11 #[.string s, .int .i64 n] w fun e w' => e = .returned (.string T) ∧ w = w' := by
  have HT := Lib.hid hT
  clear hT
  go_enter Try.func11, Try.ntmps11
  go_wp2
  go_loop [5, 6] (fun v i => TimesRel s n v i) (fun _ i => n - (intOf i).toNat)
  case atStart => exact ⟨0, ⟨#[]⟩, rfl, Nat.zero_le _, rfl, by simp [times, bs]⟩
  case round =>
    obtain ⟨k, S, rfl, hk, rfl, hS⟩ := hrel
    have hl := times_length k (bs s)
    rw [← hS, bs_length, bs_length] at hl
    have hl2 : S.size ≤ 1048576 * 1048576 := by
      rw [hl]
      exact Nat.mul_le_mul (by omega) hs
    have HS := Lib.hid hS
    clear hS hl
    by_cases hlt : k < n
    · go_wp2
      go_round
      case rel => exact ⟨k + 1, _, by go_num, by omega, rfl, by rw [bs_append, HS.out, times_succ]⟩
      case measure => simp [intOf]; omega
    · obtain rfl : k = n := by omega
      have HE : Hid (S = T) := bs_inj (by rw [HS.out, HT.out])
      go_wp2
      go_ret
      exact ⟨by rw [HE.out]; rfl, rfl⟩

theorem nR1 : Gives 10 #[.string ⟨#[97, 92]⟩, .int .i64 0] (.tuple #[.string ⟨#[]⟩, .int .i64 0, .int .i64 7]) := fun w => Read_any ⟨#[97, 92]⟩ 0 w ([], 0, 7) (by decide) (by decide) (by decide +kernel)
theorem nR2 : Gives 10 #[.string ⟨#[97, 92, 50, 53]⟩, .int .i64 0] (.tuple #[.string ⟨#[]⟩, .int .i64 0, .int .i64 7]) := fun w => Read_any ⟨#[97, 92, 50, 53]⟩ 0 w ([], 0, 7) (by decide) (by decide) (by decide +kernel)
theorem nR3 : Gives 10 #[.string ⟨#[97, 92, 50, 53, 54]⟩, .int .i64 0] (.tuple #[.string ⟨#[]⟩, .int .i64 0, .int .i64 7]) := fun w => Read_any ⟨#[97, 92, 50, 53, 54]⟩ 0 w ([], 0, 7) (by decide) (by decide) (by decide +kernel)
theorem nR4 : Gives 10 #[.string ⟨#[97, 32, 98]⟩, .int .i64 0] (.tuple #[.string ⟨#[]⟩, .int .i64 0, .int .i64 7]) := fun w => Read_any ⟨#[97, 32, 98]⟩ 0 w ([], 0, 7) (by decide) (by decide) (by decide +kernel)
theorem nR6 : Gives 10 #[.string ⟨#[120, 92, 48, 54, 53, 92, 32, 92, 92]⟩, .int .i64 1] (.tuple #[.string ⟨#[65, 32, 92]⟩, .int .i64 9, .int .i64 0]) := fun w => Read_any ⟨#[120, 92, 48, 54, 53, 92, 32, 92, 92]⟩ 1 w ([65, 32, 92], 9, 0) (by decide) (by decide) (by decide +kernel)
theorem nR7 : Gives 10 #[.string ⟨#[]⟩, .int .i64 0] (.tuple #[.string ⟨#[]⟩, .int .i64 0, .int .i64 2]) := fun w => Read_any ⟨#[]⟩ 0 w ([], 0, 2) (by decide) (by decide) (by decide +kernel)
theorem nR8 : Gives 10 #[.string ⟨#[97]⟩, .int .i64 2] (.tuple #[.string ⟨#[]⟩, .int .i64 0, .int .i64 2]) := fun w => Read_bad ⟨#[97]⟩ 2 w (by decide) (by decide)
theorem nC1 : Gives 15 #[.string ⟨#[97]⟩, .string ⟨#[66]⟩] (.int .i64 (-1)) := fun w => by
  have h : cmp (bs ⟨#[97]⟩) (bs ⟨#[66]⟩) = -1 := by decide +kernel
  have := Compare_any ⟨#[97]⟩ ⟨#[66]⟩ w (by decide) (by decide)
  rw [h] at this
  exact this
theorem nC2 : Gives 15 #[.string ⟨#[97, 98]⟩, .string ⟨#[65]⟩] (.int .i64 (1)) := fun w => by
  have h : cmp (bs ⟨#[97, 98]⟩) (bs ⟨#[65]⟩) = 1 := by decide +kernel
  have := Compare_any ⟨#[97, 98]⟩ ⟨#[65]⟩ w (by decide) (by decide)
  rw [h] at this
  exact this
theorem nC3 : Gives 15 #[.string ⟨#[81]⟩, .string ⟨#[113]⟩] (.int .i64 (0)) := fun w => by
  have h : cmp (bs ⟨#[81]⟩) (bs ⟨#[113]⟩) = 0 := by decide +kernel
  have := Compare_any ⟨#[81]⟩ ⟨#[113]⟩ w (by decide) (by decide)
  rw [h] at this
  exact this
theorem nS1 : Gives 14 #[.string ⟨#[97, 66]⟩, .string ⟨#[65, 98]⟩] (.bool true) := fun w => by
  have h : (cmp (bs ⟨#[97, 66]⟩) (bs ⟨#[65, 98]⟩) == 0) = true := by decide +kernel
  have := Same_any ⟨#[97, 66]⟩ ⟨#[65, 98]⟩ w (by decide) (by decide)
  rw [h] at this
  exact this
theorem nF1 : Gives 13 #[.string ⟨#[65, 122, 90, 91, 64, 193]⟩] (.string ⟨#[97, 122, 122, 91, 64, 193]⟩) := fun w => by
  have h : fold (bs ⟨#[65, 122, 90, 91, 64, 193]⟩) = [97, 122, 122, 91, 64, 193] := by decide +kernel
  have := Fold_any ⟨#[65, 122, 90, 91, 64, 193]⟩ w (by decide)
  rw [h] at this
  exact this
theorem nK0 : Gives 12 #[.string ⟨#[]⟩] (.int .i64 2) := fun w => by
  have h : chk (bs ⟨#[]⟩) = 2 := by decide +kernel
  refine (Check_any ⟨#[]⟩ w (by decide)).mono ?_
  rintro e w1 ⟨rfl, rfl⟩
  rw [h]
  exact ⟨rfl, Below.refl _ _⟩

set_option maxHeartbeats 2000000 in
theorem names_core (A64 A63 : ByteArray) (w : World) (t64 : Gives 11 #[.string ⟨#[97]⟩, .int .i64 64] (.string A64)) (t63 : Gives 11 #[.string ⟨#[97]⟩, .int .i64 63] (.string A63))
    (r64 : Gives 10 #[.string A64, .int .i64 0] (.tuple #[.string ⟨#[]⟩, .int .i64 0, .int .i64 3])) (k64 : Gives 12 #[.string A64] (.int .i64 3)) (k63 : Gives 12 #[.string A63] (.int .i64 0)) :
    Calls Try.prog 3 #[] w fun e w' => e = .returned (.bool true) ∧ Below w.heap.size w w' := by
  go_enter Try.func3, Try.ntmps3
  go_wp2_with fail
  refine (lives_any _).mono ?_
  rintro e w1 ⟨rfl, hb1⟩
  go_wp2_with fail
  refine (nR1 _).mono ?_
  rintro e w2 ⟨rfl, hb2⟩
  go_wp2_with fail
  refine (nR2 _).mono ?_
  rintro e w3 ⟨rfl, hb3⟩
  go_wp2_with fail
  refine (nR3 _).mono ?_
  rintro e w4 ⟨rfl, hb4⟩
  go_wp2_with fail
  refine (nR4 _).mono ?_
  rintro e w5 ⟨rfl, hb5⟩
  go_wp2_with fail
  refine (t64 _).mono ?_
  rintro e w6 ⟨rfl, hb6⟩
  go_wp2_with fail
  refine (r64 _).mono ?_
  rintro e w7 ⟨rfl, hb7⟩
  go_wp2_with fail
  refine (nR6 _).mono ?_
  rintro e w8 ⟨rfl, hb8⟩
  go_wp2_with fail
  refine (nR7 _).mono ?_
  rintro e w9 ⟨rfl, hb9⟩
  go_wp2_with fail
  refine (nR8 _).mono ?_
  rintro e w10 ⟨rfl, hb10⟩
  go_wp2_with fail
  refine (lives_any _).mono ?_
  rintro e w11 ⟨rfl, hb11⟩
  go_wp2_with fail
  refine (nK0 _).mono ?_
  rintro e w12 ⟨rfl, hb12⟩
  go_wp2_with fail
  refine (t64 _).mono ?_
  rintro e w13 ⟨rfl, hb13⟩
  go_wp2_with fail
  refine (k64 _).mono ?_
  rintro e w14 ⟨rfl, hb14⟩
  go_wp2_with fail
  refine (t63 _).mono ?_
  rintro e w15 ⟨rfl, hb15⟩
  go_wp2_with fail
  refine (k63 _).mono ?_
  rintro e w16 ⟨rfl, hb16⟩
  go_wp2_with fail
  refine (nF1 _).mono ?_
  rintro e w17 ⟨rfl, hb17⟩
  go_wp2_with fail
  refine (nS1 _).mono ?_
  rintro e w18 ⟨rfl, hb18⟩
  go_wp2_with fail
  refine (nC1 _).mono ?_
  rintro e w19 ⟨rfl, hb19⟩
  go_wp2_with fail
  refine (nC2 _).mono ?_
  rintro e w20 ⟨rfl, hb20⟩
  go_wp2_with fail
  refine (nC3 _).mono ?_
  rintro e w21 ⟨rfl, hb21⟩
  go_wp2
  go_ret
  refine ⟨by simp, ?_⟩
  exact next (next (next (next (next (next (next (next (next (next (next (next (next (next (next (next (next (next (next (next (hb1) hb2) hb3) hb4) hb5) hb6) hb7) hb8) hb9) hb10) hb11) hb12) hb13) hb14) hb15) hb16) hb17) hb18) hb19) hb20) hb21

theorem gives_check (s : ByteArray) (v : Nat) (hs : s.size ≤ maxLen) (h : chk (bs s) = v) : Gives 12 #[.string s] (.int .i64 v) := fun w => by
  refine (Check_any s w hs).mono ?_
  rintro e w1 ⟨rfl, rfl⟩
  rw [h]
  exact ⟨rfl, Below.refl _ _⟩
theorem gives_times (T : ByteArray) (n : Nat) (hn : n ≤ 1048576) (hT : bs T = times n [97]) : Gives 11 #[.string ⟨#[97]⟩, .int .i64 n] (.string T) := fun w => by
  refine (Times_any ⟨#[97]⟩ T n w (by decide) hn hT).mono ?_
  rintro e w1 ⟨rfl, rfl⟩
  exact ⟨rfl, Below.refl _ _⟩

theorem LabelNames_walk (w : World) : Calls Try.prog 3 #[] w fun e w' => e = .returned (.bool true) ∧ Below w.heap.size w w' := by
  obtain ⟨A64, h64⟩ : ∃ A : ByteArray, bs A = times 64 [97] := ⟨_, bs_mk _⟩
  obtain ⟨A63, h63⟩ : ∃ A : ByteArray, bs A = times 63 [97] := ⟨_, bs_mk _⟩
  have s64 : A64.size = 64 := by rw [← bs_length, h64, times_length]; rfl
  have s63 : A63.size = 63 := by rw [← bs_length, h63, times_length]; rfl
  refine names_core A64 A63 w (gives_times A64 64 (by decide) h64) (gives_times A63 63 (by decide) h63) (fun wx => ?_) (gives_check A64 3 (by rw [s64]; decide) (by rw [h64]; decide +kernel)) (gives_check A63 0 (by rw [s63]; decide) (by rw [h63]; decide +kernel))
  exact Read_any A64 0 wx ([], 0, 3) (by rw [s64]; decide) (Nat.zero_le _) (by rw [h64]; decide +kernel)
end Go.Proofs.Ytjdhapidiehgaaa
