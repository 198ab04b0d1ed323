/-
  The walk of the law OctetsPatches, whole. No condition beyond that each argument fits its kind.
-/
import Derived.Test.YthdkceodoflnkaaOcPatchesW
namespace Go.Proofs.Ythdkceodoflnkaa
open Go.RowKit
set_option linter.unusedVariables false

set_option maxHeartbeats 8000000 in
set_option maxRecDepth 100000 in
theorem OctetsPatches_ok (s : ByteArray) (k v V p : Nat) (n : Int) (hs : s.size ≤ 200) (hp : p < 4) (hv : v < 4294967296) (hV : V < 256 ^ (1 + p))
    (HP : ∀ wx, Calls Try.prog 23 #[.int .i64 n, .int .i64 4] wx fun e w' => e = .returned (.int .i64 p) ∧ wx = w')
    (hVe : p < 3 → (v : Int).tmod (2 ^ (8 * (1 + p)) % 4294967296) = (V : Int)) (hV3 : p = 3 → v = V) (hk : k + (1 + p) ≤ s.size) (w : World) :
    Calls Try.prog 8 #[.string s, .int .i64 k, .int .u32 v, .int .i64 n] w fun e w' => e = .returned (.bool true) ∧ Below w.heap.size w w' := by
  have HP := Lib.hid HP
  have HA := Lib.hid (patA s hs)
  obtain ⟨T, hT⟩ : ∃ T : ByteArray, T = ⟨(over (bs s) k (octs V (1 + p))).toArray⟩ := ⟨_, rfl⟩
  have HB := Lib.hid (patOk s V p k hs hp hV hk)
  rw [← hT] at HB
  clear hT hV
  have h200' : ¬ (200 < s.size) := by omega
  have hi1 : (1 : Int) + p ≤ 4 := by omega
  have hi2 : (0 : Int) ≤ (k : Int) := by omega
  have hi3 : (k : Int) ≤ (s.size : Int) := by omega
  have hi4 : (k : Int) + (1 + (p : Int)) ≤ (s.size : Int) := by omega
  have hi5 : ((k : Int) + (1 + (p : Int))).toNat = k + (1 + p) := by omega
  have hd : decide ((s.size : Int) - (1 + (p : Int)) < (k : Int)) = false := by simp; omega
  rcases Nat.lt_or_ge p 3 with hp3 | hp3
  · have hd3 : decide ((1 : Int) + p < 4) = true := by simp; omega
    have hVe := hVe hp3
    have hq : ¬ ((2 : Int) ^ (8 * (1 + p)) % 4294967296 = 0) := by
      rw [pow8 (1 + p) (by omega)]
      have := Nat.pow_pos (n := 1 + p) (show 0 < 256 by decide)
      omega
    clear hV3 hk
    go_enter Try.func8, Try.ntmps8
    go_wp2_with (first | (go_at_call 9; refine (lives_any _).mono ?_; rintro e w1 ⟨rfl, hb1⟩; have HB1 := Lib.hid hb1; clear hb1) | (go_at_call 23; refine (HP.out _).mono ?_; rintro e w' ⟨rfl, rfl⟩) | (go_at_call 11; refine (HA.out.nw _).mono ?_; rintro e w2 ⟨rfl, hw2, _, hb2⟩; have H2 := Lib.hid (One.start HB1.out hw2 hb2); clear hw2 hb2) | (go_at_call 16; refine (HA.out.put _ _ H2.out.wr).mono ?_; rintro e w3 ⟨rfl, hw, hk⟩; have H3 := Lib.hid (H2.out.write hw hk); clear hw hk) | (go_at_call 17; refine (HB.out.pat _ _ H3.out.wr).mono ?_; rintro e w4 ⟨rfl, hw, hk⟩; have H4 := Lib.hid (H3.out.write hw hk); clear hw hk) | (go_at_call 21; refine (HB.out.text _ _ H4.out.wr).mono ?_; rintro e w' ⟨rfl, rfl⟩) | (go_at_call 10; refine (NewReader_any T _).mono ?_; rintro e w5 ⟨rfl, hr5, hb5⟩; have H5 := Lib.hid (Two.start H4.out.wr H4.out.below H4.out.w0 hr5 hb5); clear hr5 hb5))
    go_wp2_with fail
    refine (HB.out.take _ _ H5.out.rd).mono ?_
    rintro e w6 ⟨rfl, hr, hg⟩
    have H6 := Lib.hid (H5.out.read hr hg)
    clear hr hg
    go_wp2_with fail
    refine (HB.out.number _ _ H6.out.rd).mono ?_
    rintro e w7 ⟨rfl, hr, hg⟩
    have H7 := Lib.hid (H6.out.read hr hg)
    clear hr hg
    go_wp2_with fail
    refine (HB.out.rest _ _ H7.out.rd).mono ?_
    rintro e w8 ⟨rfl, hr, hg⟩
    have H8 := Lib.hid (H7.out.read hr hg)
    clear hr hg
    go_wp2_with fail
    refine (HB.out.left _ _ H8.out.rd).mono ?_
    rintro e w9 ⟨rfl, nd, rfl⟩
    go_wp2
    go_ret
    exact ⟨rfl, below_drewN H8.out.below nd⟩
  · have hd3 : decide ((1 : Int) + p < 4) = false := by simp; omega
    obtain rfl := hV3 (by omega)
    clear hVe hk
    go_enter Try.func8, Try.ntmps8
    go_wp2_with (first | (go_at_call 9; refine (lives_any _).mono ?_; rintro e w1 ⟨rfl, hb1⟩; have HB1 := Lib.hid hb1; clear hb1) | (go_at_call 23; refine (HP.out _).mono ?_; rintro e w' ⟨rfl, rfl⟩) | (go_at_call 11; refine (HA.out.nw _).mono ?_; rintro e w2 ⟨rfl, hw2, _, hb2⟩; have H2 := Lib.hid (One.start HB1.out hw2 hb2); clear hw2 hb2) | (go_at_call 16; refine (HA.out.put _ _ H2.out.wr).mono ?_; rintro e w3 ⟨rfl, hw, hk⟩; have H3 := Lib.hid (H2.out.write hw hk); clear hw hk) | (go_at_call 17; refine (HB.out.pat _ _ H3.out.wr).mono ?_; rintro e w4 ⟨rfl, hw, hk⟩; have H4 := Lib.hid (H3.out.write hw hk); clear hw hk) | (go_at_call 21; refine (HB.out.text _ _ H4.out.wr).mono ?_; rintro e w' ⟨rfl, rfl⟩) | (go_at_call 10; refine (NewReader_any T _).mono ?_; rintro e w5 ⟨rfl, hr5, hb5⟩; have H5 := Lib.hid (Two.start H4.out.wr H4.out.below H4.out.w0 hr5 hb5); clear hr5 hb5))
    go_wp2_with fail
    refine (HB.out.take _ _ H5.out.rd).mono ?_
    rintro e w6 ⟨rfl, hr, hg⟩
    have H6 := Lib.hid (H5.out.read hr hg)
    clear hr hg
    go_wp2_with fail
    refine (HB.out.number _ _ H6.out.rd).mono ?_
    rintro e w7 ⟨rfl, hr, hg⟩
    have H7 := Lib.hid (H6.out.read hr hg)
    clear hr hg
    go_wp2_with fail
    refine (HB.out.rest _ _ H7.out.rd).mono ?_
    rintro e w8 ⟨rfl, hr, hg⟩
    have H8 := Lib.hid (H7.out.read hr hg)
    clear hr hg
    go_wp2_with fail
    refine (HB.out.left _ _ H8.out.rd).mono ?_
    rintro e w9 ⟨rfl, nd, rfl⟩
    go_wp2
    go_ret
    exact ⟨rfl, below_drewN H8.out.below nd⟩

set_option maxHeartbeats 1000000 in
set_option maxRecDepth 100000 in
theorem OctetsPatches_long (s : ByteArray) (at_ v n : Int) (hs : 200 < s.size) (w : World) :
    Calls Try.prog 8 #[.string s, .int .i64 at_, .int .u32 v, .int .i64 n] w fun e w' => e = .returned (.bool true) ∧ Below w.heap.size w w' := by
  go_enter Try.func8, Try.ntmps8
  go_wp2_with (go_at_call 9; refine (lives_any _).mono ?_; rintro e w1 ⟨rfl, hb1⟩; have HB1 := Lib.hid hb1; clear hb1)
  go_ret
  exact ⟨rfl, HB1.out⟩

theorem OctetsPatches_walk (s : ByteArray) (at_ v n : Int) (_ : s.size ≤ maxLen) (_ : (Lit.int .i64 at_).wf = true) (hv : (Lit.int .u32 v).wf = true) (_ : (Lit.int .i64 n).wf = true) (w : World) :
    Calls Try.prog 8 #[.string s, .int .i64 at_, .int .u32 v, .int .i64 n] w fun e w' => e = .returned (.bool true) ∧ Below w.heap.size w w' := by
  rcases Nat.lt_or_ge 200 s.size with h200 | h200
  · exact OctetsPatches_long s at_ v n h200 w
  · obtain ⟨hv1, hv2⟩ := wf_int hv
    obtain ⟨v, rfl⟩ := Int.eq_ofNat_of_zero_le (show 0 ≤ v from hv1)
    have hv32 : v < 4294967296 := by
      have h : (v : Int) ≤ 4294967295 := hv2
      omega
    have hp := pick_range (i := n) (n := 4) (by decide)
    obtain ⟨p, hp'⟩ := Int.eq_ofNat_of_zero_le hp.1
    have HP : ∀ wx, Calls Try.prog 23 #[.int .i64 n, .int .i64 4] wx fun e w' => e = .returned (.int .i64 p) ∧ wx = w' := fun wx => by
      have := Pick_any n 4 wx (by decide) (by decide)
      rw [hp'] at this
      exact this
    have hp4 : p < 4 := by have := hp.2; omega
    obtain ⟨V, hV, hVe, hV3⟩ : ∃ V : Nat, V < 256 ^ (1 + p) ∧ (p < 3 → (v : Int).tmod (2 ^ (8 * (1 + p)) % 4294967296) = (V : Int)) ∧ (p = 3 → v = V) := by
      rcases Nat.lt_or_ge p 3 with h | h
      · refine ⟨v % 256 ^ (1 + p), Nat.mod_lt _ (Nat.pow_pos (by decide)), fun _ => ?_, fun e => by omega⟩
        rw [pow8 (1 + p) (by omega), Int.tmod_eq_emod_of_nonneg (by omega), Int.natCast_emod]
      · obtain rfl : p = 3 := by omega
        exact ⟨v, by simpa using hv32, fun e => by omega, fun _ => rfl⟩
    have hV32 : V < 4294967296 := Nat.lt_of_lt_of_le hV (pow_le4 (by omega))
    by_cases ha : at_ < 0 ∨ (0 ≤ at_ ∧ (s.size : Int) - (1 + (p : Int)) < at_)
    · exact OctetsPatches_bad s at_ v V p n h200 hp4 hv32 hV32 HP hVe hV3 ha w
    · obtain ⟨k, rfl⟩ := Int.eq_ofNat_of_zero_le (show 0 ≤ at_ by omega)
      exact OctetsPatches_ok s k v V p n h200 hp4 hv32 hV HP hVe hV3 (by omega) w
end Go.Proofs.Ythdkceodoflnkaa
