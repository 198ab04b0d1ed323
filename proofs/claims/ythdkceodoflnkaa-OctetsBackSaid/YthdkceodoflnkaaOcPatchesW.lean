/-
  The walk of the law OctetsPatches. No condition beyond that each argument fits its kind.
-/
import Derived.Test.YthdkceodoflnkaaOcTwo
import Derived.Test.YthdkceodoflnkaaPick
import Derived.Test.YthdkceodoflnkaaOcRefW
namespace Go.Proofs.Ythdkceodoflnkaa
open Go.RowKit
set_option linter.unusedVariables false

theorem wf_int {k : IntKind} {n : Int} (h : (Lit.int k n).wf = true) : k.min ≤ n ∧ n ≤ k.max := by simpa [Lit.wf] using h

/-! ### What is read of a row that was patched -/
theorem over_take (l x : List UInt8) (k : Nat) (h : k ≤ l.length) : (over l k x).take k = l.take k := by
  unfold over
  rw [List.take_append_of_le_length (by rw [List.length_take]; omega), List.take_take, Nat.min_self]
theorem over_drop (l x : List UInt8) (k : Nat) (h : k + x.length ≤ l.length) : (over l k x).drop k = x ++ l.drop (k + x.length) := by
  unfold over
  have : (l.take k).length = k := by rw [List.length_take]; omega
  exact List.drop_left' this
theorem over_mid (l x : List UInt8) (k : Nat) (h : k + x.length ≤ l.length) : ((over l k x).drop k).take x.length = x := by
  rw [over_drop l x k h]
  exact List.take_left
theorem over_end (l x : List UInt8) (k : Nat) (h : k + x.length ≤ l.length) : (over l k x).drop (k + x.length) = l.drop (k + x.length) := by
  rw [← List.drop_drop, over_drop l x k h]
  exact List.drop_left

section
variable (s : ByteArray) (V p : Nat)
/-- The calls of the law, their answers written out. -/
structure PatA : Prop where
  nw : ∀ wx, Calls Try.prog 11 #[.int .i64 200] wx (NewW wx 200)
  put : ∀ wx g, WR wx g g 200 [] 0 → Calls Try.prog 16 #[.pointer (some ⟨g, 0, none⟩), .string s] wx (Wtr wx g g 200 (bs s) 0 (.int .i64 0))
theorem patA (h : s.size ≤ 200) : PatA s := by
  refine ⟨fun wx => NewWriter_any 200 wx (by decide), fun wx g hw => ?_⟩
  have := wPut_any s hw (Nat.le_refl _) (by decide) (by decide) (by decide) (by omega)
  rw [putW_ok (by rw [bs_length]; simp; exact h)] at this
  exact this
structure PatBad (a : Int) : Prop where
  pat : ∀ wx g, WR wx g g 200 (bs s) 0 → Calls Try.prog 17 #[.pointer (some ⟨g, 0, none⟩), .int .i64 a, .int .u32 V, .int .i64 (1 + (p : Int))] wx (Wtr wx g g 200 (bs s) 0 (.int .i64 2))
  text : ∀ wx g, WR wx g g 200 (bs s) 0 → Calls Try.prog 21 #[.pointer (some ⟨g, 0, none⟩)] wx fun e w' => e = .returned (.string s) ∧ wx = w'
theorem patBad (a : Int) (h : s.size ≤ 200) (hV : V < 4294967296) (hb : a < 0 ∨ (s.size : Int) - (1 + (p : Int)) < a) : PatBad s V p a := by
  refine ⟨fun wx g hw => ?_, fun wx g hw => ?_⟩
  · have := wPatch_any a V (1 + (p : Int)) hw hV (Nat.le_refl _) (by rw [bs_length]; omega)
    rw [patW_arg (.inr (by rw [bs_length]; exact hb))] at this
    exact this
  · have := wText_any hw
    rw [same_str] at this
    exact this
structure PatOk (k : Nat) (T : ByteArray) : Prop where
  pat : ∀ wx g, WR wx g g 200 (bs s) 0 → Calls Try.prog 17 #[.pointer (some ⟨g, 0, none⟩), .int .i64 k, .int .u32 V, .int .i64 (1 + (p : Int))] wx (Wtr wx g g 200 (bs T) 0 (.int .i64 0))
  text : ∀ wx g, WR wx g g 200 (bs T) 0 → Calls Try.prog 21 #[.pointer (some ⟨g, 0, none⟩)] wx fun e w' => e = .returned (.string T) ∧ wx = w'
  take : ∀ wx g, RD wx g T 0 → Calls Try.prog 13 #[.pointer (some ⟨g, 0, none⟩), .int .i64 k] wx (Rdr wx g T k (.tuple #[.string (s.extract 0 k), .int .i64 0]))
  number : ∀ wx g, RD wx g T k → Calls Try.prog 12 #[.pointer (some ⟨g, 0, none⟩), .int .i64 (1 + (p : Int))] wx (Rdr wx g T (k + (1 + p)) (.tuple #[.int .u32 V, .int .i64 0]))
  rest : ∀ wx g, RD wx g T (k + (1 + p)) → Calls Try.prog 13 #[.pointer (some ⟨g, 0, none⟩), .int .i64 ((s.size : Int) - k - (1 + (p : Int)))] wx (Rdr wx g T s.size (.tuple #[.string (s.extract (k + (1 + p)) s.size), .int .i64 0]))
  left : ∀ wx g, RD wx g T s.size → Calls Try.prog 19 #[.pointer (some ⟨g, 0, none⟩)] wx (Quiet wx (.int .i64 0))
theorem patOk (k : Nat) (h : s.size ≤ 200) (hp : p < 4) (hV : V < 256 ^ (1 + p)) (hk : k + (1 + p) ≤ s.size) : PatOk s V p k ⟨(over (bs s) k (octs V (1 + p))).toArray⟩ := by
  have hV32 : V < 4294967296 := Nat.lt_of_lt_of_le hV (pow_le4 (by omega))
  have hN : ((1 + p : Nat) : Int) = 1 + (p : Int) := by omega
  have hroom : room V (1 + (p : Int)) = true := by
    rw [← hN]
    simp only [room, isW, Bool.and_eq_true, decide_eq_true_eq, Int.toNat_natCast]
    exact ⟨⟨by omega, by omega⟩, hV⟩
  have hol : (octs V (1 + p)).length = 1 + p := octs_length _ _
  have hkl : k + (octs V (1 + p)).length ≤ (bs s).length := by rw [hol, bs_length]; exact hk
  obtain ⟨T, hT⟩ : ∃ T : ByteArray, T = ⟨(over (bs s) k (octs V (1 + p))).toArray⟩ := ⟨_, rfl⟩
  have hbT : bs T = over (bs s) k (octs V (1 + p)) := by rw [hT, bs_mk]
  have hTs : T.size = s.size := by rw [← bs_length, hbT, over_length _ _ _ hkl, bs_length]
  have hTm : T.size ≤ maxLen := by rw [hTs]; unfold maxLen; omega
  rw [← hT]
  refine ⟨fun wx g hw => ?_, fun wx g hw => ?_, fun wx g hr => ?_, fun wx g hr => ?_, fun wx g hr => ?_, fun wx g hr => ?_⟩
  · have := wPatch_any (k : Int) V (1 + (p : Int)) hw hV32 (Nat.le_refl _) (by rw [bs_length]; omega)
    rw [← hN, patW_ok (by rw [hN]; exact hroom) (by rw [bs_length]; exact hk), ← hbT] at this
    rw [← hN]
    exact this
  · have := wText_any hw
    rw [same_str] at this
    exact this
  · have := rTake_any (k : Int) hr hTm (Nat.zero_le _)
    rw [takR_some (by rw [bs_length, hTs]; omega)] at this
    have e : (⟨(((bs T).drop 0).take k).toArray⟩ : ByteArray) = s.extract 0 k := by
      rw [List.drop_zero, hbT, over_take _ _ _ (by rw [bs_length]; omega)]
      exact (bs_eq (by rw [bs_extract, List.drop_zero, Nat.sub_zero])).symm
    simp only [Nat.zero_add] at this
    rw [e] at this
    exact this
  · have := rNumber_any ((1 + p : Nat) : Int) hr hTm (by omega)
    rw [numR_take (by simp [isW]; omega), takR_some (by rw [bs_length, hTs]; omega)] at this
    have e : num (((bs T).drop k).take (1 + p)) = V := by
      have h2 := over_mid (bs s) (octs V (1 + p)) k hkl
      rw [hol] at h2
      rw [hbT, h2, num_octs _ _ hV]
    simp only [e] at this
    rw [← hN]
    exact this
  · have e0 : ((s.size - k - (1 + p) : Nat) : Int) = (s.size : Int) - k - (1 + (p : Int)) := by omega
    have := rTake_any ((s.size - k - (1 + p) : Nat) : Int) hr hTm (by omega)
    rw [takR_some (by rw [bs_length, hTs]; omega)] at this
    have e : (⟨(((bs T).drop (k + (1 + p))).take (s.size - k - (1 + p))).toArray⟩ : ByteArray) = s.extract (k + (1 + p)) s.size := by
      have h2 := over_end (bs s) (octs V (1 + p)) k hkl
      rw [hol] at h2
      rw [hbT, h2]
      exact (bs_eq (by rw [bs_extract, Nat.sub_sub])).symm
    have e2 : k + (1 + p) + (s.size - k - (1 + p)) = s.size := by omega
    simp only [e, e2] at this
    rw [← e0]
    exact this
  · have := rLeft_any hr hTm (by omega)
    have e : (T.size : Int) - (s.size : Int) = 0 := by omega
    rw [e] at this
    exact this
end

theorem Two.start {w0 w1 w2 : World} {gw M : Nat} {l : List UInt8} {f : Nat} {S : ByteArray} (hw : WR w1 gw gw M l f) (hb : Below w0.heap.size w0 w1) (h0 : w0.heap.size ≤ gw) (hr : RD w2 w1.heap.size S 0) (hb2 : Below w1.heap.size w1 w2) : Two w0 w2 w1.heap.size S 0 gw M l f :=
  ⟨hr, hw.next hb2, kp_first hb hb2, hb.size, h0, Nat.ne_of_gt hw.lt⟩

/-- A writer that a law holds alone. -/
structure One (w0 w : World) (gw M : Nat) (l : List UInt8) (f : Nat) : Prop where
  wr : WR w gw gw M l f
  below : Below w0.heap.size w0 w
  w0 : w0.heap.size ≤ gw
theorem One.write {w0 w w' : World} {gw M : Nat} {l l' : List UInt8} {f f' : Nat} (h : One w0 w gw M l f) (hw : WR w' gw gw M l' f') (hk : Kp gw gw w w') : One w0 w' gw M l' f' :=
  ⟨hw, h.below.trans (hk.below.mono h.w0), h.w0⟩
theorem One.start {w0 w1 w2 : World} {M : Nat} (hb : Below w0.heap.size w0 w1) (hw : WR w2 w1.heap.size w1.heap.size M [] 0) (hb2 : Below w1.heap.size w1 w2) : One w0 w2 w1.heap.size M [] 0 :=
  ⟨hw, kp_first hb hb2, hb.size⟩

set_option maxHeartbeats 8000000 in
set_option maxRecDepth 100000 in
theorem OctetsPatches_bad (s : ByteArray) (at_ : Int) (v V p : Nat) (n : Int) (hs : s.size ≤ 200) (hp : p < 4) (hv : v < 4294967296) (hV : V < 4294967296)
    (HP : ∀ wx, Calls Try.prog 23 #[.int .i64 n, .int .i64 4] wx fun e w' => e = .returned (.int .i64 p) ∧ wx = w')
    (hVe : p < 3 → (v : Int).tmod (2 ^ (8 * (1 + p)) % 4294967296) = (V : Int)) (hV3 : p = 3 → v = V)
    (ha : at_ < 0 ∨ (0 ≤ at_ ∧ (s.size : Int) - (1 + (p : Int)) < at_)) (w : World) :
    Calls Try.prog 8 #[.string s, .int .i64 at_, .int .u32 v, .int .i64 n] w fun e w' => e = .returned (.bool true) ∧ Below w.heap.size w w' := by
  have HP := Lib.hid HP
  have HA := Lib.hid (patA s hs)
  have HB := Lib.hid (patBad s V p at_ hs hV (ha.imp id And.right))
  have h200' : ¬ (200 < s.size) := by omega
  have hi1 : (1 : Int) + p ≤ 4 := by omega
  rcases ha with ha | ⟨ha0, ha⟩
  all_goals
    rcases Nat.lt_or_ge p 3 with hp3 | hp3
    · have hd3 : decide ((1 : Int) + p < 4) = true := by simp; omega
      have hVe := hVe hp3
      have hq : ¬ ((2 : Int) ^ (8 * (1 + p)) % 4294967296 = 0) := by
        rw [pow8 (1 + p) (by omega)]
        have := Nat.pow_pos (n := 1 + p) (show 0 < 256 by decide)
        omega
      clear hV3
      go_enter Try.func8, Try.ntmps8
      go_wp2_with (first | (go_at_call 9; refine (lives_any _).mono ?_; rintro e w1 ⟨rfl, hb1⟩; have HB1 := Lib.hid hb1; clear hb1) | (go_at_call 23; refine (HP.out _).mono ?_; rintro e w' ⟨rfl, rfl⟩) | (go_at_call 11; refine (HA.out.nw _).mono ?_; rintro e w2 ⟨rfl, hw2, _, hb2⟩; have H2 := Lib.hid (One.start HB1.out hw2 hb2); clear hw2 hb2) | (go_at_call 16; refine (HA.out.put _ _ H2.out.wr).mono ?_; rintro e w3 ⟨rfl, hw, hk⟩; have H3 := Lib.hid (H2.out.write hw hk); clear hw hk) | (go_at_call 17; refine (HB.out.pat _ _ H3.out.wr).mono ?_; rintro e w4 ⟨rfl, hw, hk⟩; have H4 := Lib.hid (H3.out.write hw hk); clear hw hk) | (go_at_call 21; refine (HB.out.text _ _ H4.out.wr).mono ?_; rintro e w' ⟨rfl, rfl⟩))
      go_ret
      exact ⟨rfl, H4.out.below⟩
    · have hd3 : decide ((1 : Int) + p < 4) = false := by simp; omega
      obtain rfl := hV3 (by omega)
      clear hVe
      go_enter Try.func8, Try.ntmps8
      go_wp2_with (first | (go_at_call 9; refine (lives_any _).mono ?_; rintro e w1 ⟨rfl, hb1⟩; have HB1 := Lib.hid hb1; clear hb1) | (go_at_call 23; refine (HP.out _).mono ?_; rintro e w' ⟨rfl, rfl⟩) | (go_at_call 11; refine (HA.out.nw _).mono ?_; rintro e w2 ⟨rfl, hw2, _, hb2⟩; have H2 := Lib.hid (One.start HB1.out hw2 hb2); clear hw2 hb2) | (go_at_call 16; refine (HA.out.put _ _ H2.out.wr).mono ?_; rintro e w3 ⟨rfl, hw, hk⟩; have H3 := Lib.hid (H2.out.write hw hk); clear hw hk) | (go_at_call 17; refine (HB.out.pat _ _ H3.out.wr).mono ?_; rintro e w4 ⟨rfl, hw, hk⟩; have H4 := Lib.hid (H3.out.write hw hk); clear hw hk) | (go_at_call 21; refine (HB.out.text _ _ H4.out.wr).mono ?_; rintro e w' ⟨rfl, rfl⟩))
      go_ret
      exact ⟨rfl, H4.out.below⟩
end Go.Proofs.Ythdkceodoflnkaa
