/-
  What the document's own reader of octets answers: the walks. Condition: the string is no longer than Go's own limit.
-/
import Derived.Test.YtjedfgflkhchiaaOcRd
namespace Go.Proofs.Ytjedfgflkhchiaa
open Go.RowKit
set_option linter.unusedVariables false

/-- Block g is the document's reader of s, at the place k. -/
def RF (w : World) (g : Nat) (s : ByteArray) (k : Nat) : Prop := Lies w g 62 #[.string s, .int .i64 k]
/-- What its call does. -/
def Rfr (w : World) (g : Nat) (s : ByteArray) (k' : Nat) (v : Value) (e : Ending) (w' : World) : Prop := e = .returned v ∧ RF w' g s k' ∧ w.grownBy w' (some g)
theorem rfr_now {w : World} {g : Nat} {s : ByteArray} {k : Nat} {v : Value} (h : RF w g s k) : Rfr w g s k v (.returned v) w := ⟨rfl, h, grown_drewN w 0 _⟩
theorem rfr_quiet {w : World} {g : Nat} {s : ByteArray} {k : Nat} {v : Value} (h : RF w g s k) (m : Nat) : Rfr w g s k v (.returned v) (w.drewN m) := ⟨rfl, h.drewN m, grown_drewN w m _⟩

theorem mul32 (a c : Nat) (h : a * 256 + c < 4294967296) : (a : Int) * 256 % 4294967296 + c = ((a * 256 + c : Nat) : Int) := by
  have h2 : a * 256 < 4294967296 := Nat.lt_of_le_of_lt (Nat.le_add_right _ _) h
  omega
/-- The relation of number's loop. -/
def NuRel (s : ByteArray) (v i : Value) : Prop := ∃ k : Nat, i = .int .i64 k ∧ k ≤ s.size ∧ v = .int .u32 (num ((bs s).take k))
set_option maxHeartbeats 1000000 in
theorem number_any (s : ByteArray) (w : World) (hs : s.size ≤ 4) :
    Calls Try.prog 41 #[.string s] w fun e w' => e = .returned (.int .u32 (num (bs s))) ∧ w = w' := by
  go_enter Try.func41, Try.ntmps41
  go_wp2
  go_loop [3, 4] (fun v i => NuRel s v i) (fun _ i => s.size - (intOf i).toNat)
  case atStart => exact ⟨0, rfl, Nat.zero_le _, rfl⟩
  case round =>
    obtain ⟨k, rfl, hk, rfl⟩ := hrel
    rcases Nat.lt_or_ge k s.size with hlt | hge
    · have HT := Lib.hid (take_more' s k hlt)
      have hn := num_lt ((bs s).take k)
      have hl : ((bs s).take k).length = k := by rw [List.length_take, bs_length]; omega
      rw [hl] at hn
      have hp := pow_le4 (show k + 1 ≤ 4 by omega)
      rw [Nat.pow_succ] at hp
      have hc256 : s[k].toNat < 256 := s[k].toNat_lt
      have HV : Hid ((↑(num ((bs s).take k)) : Int) * 256 % 4294967296 + ↑s[k].toNat = ((num ((bs s).take (k + 1)) : Nat) : Int)) := Lib.hid (by
        rw [HT.out, num_snoc]
        exact mul32 _ _ (by omega))
      clear hn hl hp
      go_wp2
      go_round
      case rel => exact ⟨k + 1, by go_num, by omega, by rw [HV.out]⟩
      case measure => simp [intOf]; omega
    · have ht : (bs s).take k = bs s := List.take_of_length_le (by rw [bs_length]; omega)
      rw [ht]
      clear ht
      go_wp2
      go_ret
      exact ⟨rfl, rfl⟩

set_option maxHeartbeats 1000000 in
theorem fTake_any {g : Nat} {s : ByteArray} {k : Nat} {w : World} (n : Int) (h : RF w g s k) (hs : s.size ≤ maxLen) (hk : k ≤ s.size) :
    Calls Try.prog 40 #[.pointer (some ⟨g, 0, none⟩), .int .i64 n] w (Rfr w g s (takR (bs s) k n).k (.tuple #[.string ⟨(takR (bs s) k n).s.toArray⟩, .int .i64 (takR (bs s) k n).e])) := by
  have HR : Hid (RF w g s k) := Lib.hid h
  have hc0 : w.cell? ⟨g, 0, none⟩ = some (.string s) := h.cell 0
  have hc1 : w.cell? ⟨g, 1, none⟩ = some (.int .i64 k) := h.cell 1
  have hf1 : w.frozen? ⟨g, 1, none⟩ = false := h.free 1
  unfold maxLen at hs
  by_cases h0 : n < 0
  · rw [takR_neg h0]
    clear h hs hk
    go_enter Try.func40, Try.ntmps40
    go_wp2
    go_ret2
    exact rfr_now HR.out
  · have h0' : 0 ≤ n := by omega
    clear h0
    by_cases hn : (s.size : Int) - k < n
    · rw [takR_more h0' (by rw [bs_length]; exact hn)]
      clear h
      go_enter Try.func40, Try.ntmps40
      go_wp2
      have hw : IntKind.i64.wrap ((s.size : Int) - k) = (s.size : Int) - k := IntWalk.i64_in _ (by omega)
      go_quiet (fail)
      clear hw
      go_wp2
      go_ret2
      exact rfr_quiet HR.out _
    · obtain ⟨n, rfl⟩ := Int.eq_ofNat_of_zero_le h0'
      rw [takR_some (by rw [bs_length]; omega)]
      have HP := Lib.hid (part_eq s k n)
      have hd : decide ((s.size : Int) - k < n) = false := by simp; omega
      have hi1 : (0 : Int) ≤ (k : Int) := by omega
      have hi2 : (k : Int) ≤ (k : Int) + (n : Int) := by omega
      have hi3 : (k : Int) + (n : Int) ≤ (s.size : Int) := by omega
      have hi4 : ((k : Int) + (n : Int)).toNat = k + n := by omega
      have hw : IntKind.i64.wrap ((s.size : Int) - k) = (s.size : Int) - k := IntWalk.i64_in _ (by omega)
      have hw2 : IntKind.i64.wrap ((k : Int) + n) = (k : Int) + n := IntWalk.i64_in _ (by omega)
      clear h
      go_enter Try.func40, Try.ntmps40
      go_wp2
      go_quiet (fail)
      go_wp2
      go_quiet (fail)
      go_wp2
      go_ret2
      exact ⟨by rw [← HP.out]; rfl, ((HR.out.drewN (_ + nq)).set 1 _), grown_next (grown_drewN _ (_ + nq) _) (grown_set (base := 0) _ g 1 _)⟩

set_option maxHeartbeats 1000000 in
theorem fNumber_any {g : Nat} {s : ByteArray} {k : Nat} {w : World} (n : Int) (h : RF w g s k) (hs : s.size ≤ maxLen) (hk : k ≤ s.size) :
    Calls Try.prog 29 #[.pointer (some ⟨g, 0, none⟩), .int .i64 n] w (Rfr w g s (numR (bs s) k n).k (.tuple #[.int .u32 (num (numR (bs s) k n).s), .int .i64 (numR (bs s) k n).e])) := by
  have HR : Hid (RF w g s k) := Lib.hid h
  cases hw : isW n
  · rw [numR_bad hw]
    have hw' : n < 1 ∨ 4 < n := by simp [isW] at hw; omega
    clear h hs hk hw
    by_cases h1 : n < 1
    · clear hw'
      go_enter Try.func29, Try.ntmps29
      go_wp2
      go_ret2
      exact rfr_now HR.out
    · have h4 : 4 < n := by omega
      clear hw'
      go_enter Try.func29, Try.ntmps29
      go_wp2
      go_ret2
      exact rfr_now HR.out
  · obtain ⟨h1, h4⟩ := isW_yes hw
    rw [numR_take hw]
    have hlen := takR_len (bs s) k n
    have HT := Lib.hid (fun wx (hx : RF wx g s k) => fTake_any n hx hs hk)
    have HJ := Lib.hid (fun wx => number_any ⟨(takR (bs s) k n).s.toArray⟩ wx (by rw [tosize]; omega))
    rw [bs_mk] at HJ
    clear h hs hk hw hlen
    go_enter Try.func29, Try.ntmps29
    go_wp2_with (first | (go_at_call 40; refine (HT.out _ HR.out).mono ?_; rintro e w1 ⟨rfl, hr1, hg1⟩; have HR1 := Lib.hid hr1; have HG1 := Lib.hid hg1; clear hr1 hg1) | (go_at_call 41; refine (HJ.out _).mono ?_; rintro e w' ⟨rfl, rfl⟩))
    go_ret2
    exact ⟨rfl, HR1.out, HG1.out⟩

end Go.Proofs.Ytjedfgflkhchiaa
