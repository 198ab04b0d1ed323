/-
  nameplatekit.Times: a text so many times: the walk. Conditions: as the theorem names them.
-/
import Derived.Test.YtjflmifolmpdgaaLabUse
namespace Go.Proofs.Ytjflmifolmpdgaa
open Go.RowKit

/-- A text so many times. -/
def times (n : Nat) (l : List UInt8) : List UInt8 := (List.replicate n l).flatten
theorem times_succ (n : Nat) (l : List UInt8) : times (n + 1) l = times n l ++ l := by
  unfold times
  rw [List.replicate_succ', List.flatten_append]
  simp
theorem times_length (n : Nat) (l : List UInt8) : (times n l).length = n * l.length := by
  induction n with
  | zero => simp [times]
  | succ n ih => rw [times_succ, List.length_append, ih, Nat.succ_mul]

def TimesRel (s : ByteArray) (n : Nat) (v i : Value) : Prop := ∃ (k : Nat) (S : ByteArray), i = .int .i64 k ∧ k ≤ n ∧ v = .string S ∧ bs S = times k (bs s)
theorem Times_any (s T : ByteArray) (n : Nat) (w : World) (hs : s.size ≤ 1048576) (hn : n ≤ 1048576) (hT : bs T = times n (bs s)) :
    Calls Try.prog 13 #[.string s, .int .i64 n] w fun e w' => e = .returned (.string T) ∧ w = w' := by
  have HT := Lib.hid hT
  clear hT
  go_enter Try.func13, Try.ntmps13
  go_wp2
  go_loop [5, 6] (fun v i => TimesRel s n v i) (fun _ i => n - (intOf i).toNat)
  case atStart => exact ⟨0, ⟨#[]⟩, rfl, Nat.zero_le _, rfl, by simp [times, bs]⟩
  case round =>
    obtain ⟨k, S, rfl, hk, rfl, hS⟩ := hrel
    have hl := times_length k (bs s)
    rw [← hS, bs_length, bs_length] at hl
    have hl2 : S.size ≤ 1048576 * 1048576 := by
      rw [hl]
      exact Nat.mul_le_mul (by omega) hs
    have HS := Lib.hid hS
    clear hS hl
    by_cases hlt : k < n
    · go_wp2
      go_round
      case rel => exact ⟨k + 1, _, by go_num, by omega, rfl, by rw [bs_append, HS.out, times_succ]⟩
      case measure => simp [intOf]; omega
    · obtain rfl : k = n := by omega
      have HE : Hid (S = T) := bs_inj (by rw [HS.out, HT.out])
      go_wp2
      go_ret
      exact ⟨by rw [HE.out]; rfl, rfl⟩

theorem gTimes (s T : ByteArray) (n : Nat) (hs : s.size ≤ 1048576) (hn : n ≤ 1048576) (hT : bs T = times n (bs s)) : Gives 13 #[.string s, .int .i64 n] (.string T) := fun w => by
  refine (Times_any s T n w hs hn hT).mono ?_
  rintro e w1 ⟨rfl, rfl⟩
  exact ⟨rfl, Below.refl _ _⟩
end Go.Proofs.Ytjflmifolmpdgaa
