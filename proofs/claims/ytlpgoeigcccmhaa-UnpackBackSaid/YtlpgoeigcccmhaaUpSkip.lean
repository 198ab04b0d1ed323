/-
  What unpack.Skip answers. Condition: the octets are no longer than Go's own limit.
-/
import Derived.Test.YtlpgoeigcccmhaaUpName
namespace Go.Proofs.Ytlpgoeigcccmhaa
open Go.RowKit
set_option linter.unusedVariables false

theorem skipF_bad {x : List UInt8} {k p : Nat} (h : (partU (x.drop p)).2 ≠ 0) : skipF x (k + 1) p = (0, (partU (x.drop p)).2) := if_pos h
theorem skipF_end {x : List UInt8} {k p : Nat} (h : (partU (x.drop p)).2 = 0) (ht : (x.drop p).take (partU (x.drop p)).1 = [0]) : skipF x (k + 1) p = (p + (partU (x.drop p)).1, 0) := by
  conv => lhs; unfold skipF
  rw [if_neg (by omega), if_pos ht]
theorem skipF_ptr {x : List UInt8} {k p : Nat} (h : (partU (x.drop p)).2 = 0) (ht : (x.drop p).take (partU (x.drop p)).1 ≠ [0]) (hp : isPtr ((x.drop p).take (partU (x.drop p)).1) = true) : skipF x (k + 1) p = (p + (partU (x.drop p)).1, 0) := by
  conv => lhs; unfold skipF
  rw [if_neg (by omega), if_neg ht, if_pos hp]
theorem skipF_lab {x : List UInt8} {k p : Nat} (h : (partU (x.drop p)).2 = 0) (ht : (x.drop p).take (partU (x.drop p)).1 ≠ [0]) (hp : isPtr ((x.drop p).take (partU (x.drop p)).1) = false) : skipF x (k + 1) p = skipF x k (p + (partU (x.drop p)).1) := by
  conv => lhs; unfold skipF
  rw [if_neg (by omega), if_neg ht, if_neg (by simp [hp])]

/-- What Skip hands back. -/
def Skipped (w : World) (u : Nat × Nat) (e : Ending) (w' : World) : Prop := e = .returned (.tuple #[.int .i64 u.1, .int .i64 u.2]) ∧ Below w.heap.size w w'
/-- The relation of its loop. -/
def SkRel (S : ByteArray) (w : World) (g : Nat) (u : Nat × Nat) (k : Nat) (wr : World) : Prop :=
  ∃ s, WK wr w.heap.size g S s ∧ InvU S.size s ∧ s.f = 0 ∧ s.j = 0 ∧ S.size - s.p < k ∧ skipF (bs S) k s.p = u ∧ Below w.heap.size w wr
set_option maxHeartbeats 2000000 in
theorem uSkip_yes (S : ByteArray) (a : Nat) (w : World) (hs : S.size ≤ maxLen) (ha : a ≤ S.size) :
    Calls Try.prog 24 #[.string S, .int .i64 a] w (Skipped w (skipF (bs S) (S.size - a + 1) a)) := by
  have HBeg := Lib.hid fun wx => beg_yes S a a wx hs (by omega) (by omega)
  obtain ⟨u, hu⟩ : ∃ u, skipF (bs S) (S.size - a + 1) a = u := ⟨_, rfl⟩
  obtain ⟨n0, hn0⟩ : ∃ n, S.size - a + 1 = n := ⟨_, rfl⟩
  rw [hu]
  rw [hn0] at hu
  have HU := Lib.hid hu
  have HN := Lib.hid hn0
  have HI0 := Lib.hid (begU_inv ha ha)
  have HS := Lib.hid hs
  clear hu hn0
  go_enter Try.func24, Try.ntmps24
  go_wp2_with (go_at_call 48; (with_reducible refine (HBeg.out _).mono ?_); rintro e1 w1 ⟨rfl, hb1⟩; have HB1 := Lib.hid hb1; have hB1s := hb1.size; clear hb1)
  have HR0 : Hid (SkRel S w w1.heap.size u n0 (w1.alloc (.cells #[.slice none 0 0, .int .i64 0, .int .i64 0, .int .i64 0, .string S, .int .i64 a, .int .i64 a, .string ⟨#[]⟩] 85))) := Lib.hid ⟨begU a a, ⟨.slice none 0 0, _, _, _, Lies.new _ _ _, Own.none_ _ _, fun _ => ⟨rfl, rfl, rfl⟩⟩, HI0.out, rfl, rfl, by have := HN.out; show S.size - a < n0; omega, HU.out, HB1.out.alloc HB1.out.size _⟩
  go_loopg [] n0 (fun k wr => SkRel S w w1.heap.size u k wr)
  case atStart => exact HR0.out
  case round =>
    clear HR0
    obtain ⟨s, hW, hi, hf, hj, hmu, hrun, hb⟩ := hrel
    rcases gk with _ | k
    · omega
    have HW := Lib.hid hW
    have HB := Lib.hid hb
    have HFz := Lib.hid hf
    have HJ := Lib.hid hj
    by_cases he : (partU ((bs S).drop s.p)).2 = 0
    · obtain ⟨s2, hs2⟩ : ∃ s2, overU (bs S) s (partU ((bs S).drop s.p)).1 = s2 := ⟨_, rfl⟩
      have hf2 : s2.f = 0 := by rw [← hs2]; exact hf
      have hj2 : s2.j = 0 := by rw [← hs2]; exact hj
      have hi2 : InvU S.size s2 := by rw [← hs2, ← bs_length]; exact overU_inv (by rw [bs_length]; exact hi) he
      have htl := overU_t he
      have hpo := partU_ok he
      rw [hs2] at htl
      have hs2t : ((bs S).drop s.p).take (partU ((bs S).drop s.p)).1 = s2.t := by rw [← hs2]; rfl
      have hs2p : s2.p = s.p + (partU ((bs S).drop s.p)).1 := by rw [← hs2]; rfl
      have hs2e : s2.e = s.p + (partU ((bs S).drop s.p)).1 := by rw [← hs2]; exact if_pos hj
      have HStep := Lib.hid (step_yes hW (by omega) hf hi HS.out he)
      rw [hs2] at HStep
      have HI2 := Lib.hid hi2
      have HF2 := Lib.hid hf2
      have HJ2 := Lib.hid hj2
      obtain ⟨T2, hT2⟩ : ∃ T2 : ByteArray, (⟨s2.t.toArray⟩ : ByteArray) = T2 := ⟨_, rfl⟩
      have hTb : bs T2 = s2.t := by rw [← hT2, bs_mk]
      have HT2 := Lib.hid hT2
      by_cases ht : s2.t = [0]
      · have hq1 : T2.toList = [0] := by rw [bs_toList, hTb, ht]
        have hq2 : (T2.toList == [0]) = true := by rw [hq1]; rfl
        have hu2 : (s2.e, 0) = u := by rw [← hrun, skipF_end he (by rw [hs2t]; exact ht), hs2e]
        subst hu2
        clear hmu hrun hb hW hf hi he hs2 hf2 hj2 hi2 htl hpo hT2 hTb ht hs2t hs2p hs2e hj
        go_wp2_with (go_at_call 49; (with_reducible refine HStep.out.mono ?_); rintro e2 w2 ⟨rfl, hw2, hk2⟩; have HB2 := Lib.hid (HB.out.trans hk2.below); obtain ⟨c0, R, P, T, hL, hown, hz⟩ := hw2; obtain ⟨rfl, rfl, rfl⟩ := hz HF2.out; rw [HT2.out, HF2.out] at hL; obtain ⟨k0, k1, k2, k3, k4, k5, k6, k7⟩ := hL.eight; clear hL hown hz hk2)
        go_quiet (fail)
        go_wp2
        go_ret2
        exact ⟨rfl, below_draws HB2.out _⟩
      · have hne : T2.toList ≠ [0] := by rw [bs_toList, hTb]; exact ht
        have hq1 : ¬ T2.toList = [0] := hne
        have hq2 : (T2.toList == [0]) = false := by rw [beq_eq_false_iff_ne]; exact hne
        have hq3 : (T2.toList != [0]) = true := by rw [bne_iff_ne]; exact hne
        have hne0 : s2.t ≠ [] := fun e => by rw [e] at htl; simp at htl; omega
        cases hp : isPtr s2.t
        · have HPtr : Hid (∀ wx, WK wx w.heap.size w1.heap.size S s2 → Calls Try.prog 50 #[wp_ w1.heap.size] wx fun e w' => e = .returned (.bool false) ∧ wx = w') := Lib.hid fun wx hx => by have := ptr_any hx hf2 hne0; rw [hp] at this; exact this
          have HNx : Hid (∀ w', WK w' w.heap.size w1.heap.size S s2 → Below w.heap.size w w' → SkRel S w w1.heap.size u k w') := Lib.hid fun w' h1 h2 => ⟨s2, h1, hi2, hf2, hj2, by rw [hs2p]; have h3 := hpo.1; have h4 := hpo.2.1; rw [List.length_drop, bs_length] at h4; omega, by rw [← hrun, skipF_lab he (by rw [hs2t]; exact ht) (by rw [hs2t]; exact hp), hs2p], h2⟩
          clear hmu hrun hb hW hf hi he hs2 hf2 hj2 hi2 htl hpo hT2 hTb ht hs2t hs2p hs2e hj hne hne0 hp
          go_wp2_with (first | (go_at_call 49; (with_reducible refine HStep.out.mono ?_); rintro e2 w2 ⟨rfl, hw2, hk2⟩; have HB2 := Lib.hid (HB.out.trans hk2.below); have HW2 := Lib.hid hw2; obtain ⟨c0, R, P, T, hL, hown, hz⟩ := hw2; obtain ⟨rfl, rfl, rfl⟩ := hz HF2.out; rw [HT2.out, HF2.out] at hL; obtain ⟨k0, k1, k2, k3, k4, k5, k6, k7⟩ := hL.eight; clear hL hown hz hk2) | (go_at_call 50; (with_reducible refine (HPtr.out _ HW2.out).mono ?_); rintro e2 w' ⟨rfl, rfl⟩))
          go_roundg k
          case measure => omega
          case rel => exact HNx.out _ HW2.out HB2.out
        · have HPtr : Hid (∀ wx, WK wx w.heap.size w1.heap.size S s2 → Calls Try.prog 50 #[wp_ w1.heap.size] wx fun e w' => e = .returned (.bool true) ∧ wx = w') := Lib.hid fun wx hx => by have := ptr_any hx hf2 hne0; rw [hp] at this; exact this
          have hu2 : (s2.e, 0) = u := by rw [← hrun, skipF_ptr he (by rw [hs2t]; exact ht) (by rw [hs2t]; exact hp), hs2e]
          subst hu2
          clear hmu hrun hb hW hf hi he hs2 hf2 hj2 hi2 htl hpo hT2 hTb ht hs2t hs2p hs2e hj hne hne0 hp
          go_wp2_with (first | (go_at_call 49; (with_reducible refine HStep.out.mono ?_); rintro e2 w2 ⟨rfl, hw2, hk2⟩; have HB2 := Lib.hid (HB.out.trans hk2.below); have HW2 := Lib.hid hw2; obtain ⟨c0, R, P, T, hL, hown, hz⟩ := hw2; obtain ⟨rfl, rfl, rfl⟩ := hz HF2.out; rw [HT2.out, HF2.out] at hL; obtain ⟨k0, k1, k2, k3, k4, k5, k6, k7⟩ := hL.eight; clear hL hown hz hk2) | (go_at_call 50; (with_reducible refine (HPtr.out _ HW2.out).mono ?_); rintro e2 w' ⟨rfl, rfl⟩))
          go_quiet (fail)
          go_wp2
          go_ret2
          exact ⟨rfl, below_draws HB2.out _⟩
    · have HStep := Lib.hid (step_bad hW (by omega) hf hi HS.out he)
      have hu2 : (0, (partU ((bs S).drop s.p)).2) = u := by rw [← hrun, skipF_bad he]
      obtain ⟨er, her⟩ : ∃ er, (partU ((bs S).drop s.p)).2 = er := ⟨_, rfl⟩
      rw [her] at HStep hu2
      subst hu2
      clear hmu hrun hb hW hf hi he hj her
      go_wp2_with (go_at_call 49; (with_reducible refine HStep.out.mono ?_); rintro e2 w2 ⟨rfl, hw2, hk2⟩; have HB2 := Lib.hid (HB.out.trans hk2.below); obtain ⟨c0, R, P, T, hL, hown, hz⟩ := hw2; obtain ⟨k0, k1, k2, k3, k4, k5, k6, k7⟩ := hL.eight; clear hL hown hz hk2)
      go_quiet (fail)
      go_wp2
      go_ret2
      exact ⟨rfl, below_draws HB2.out _⟩

set_option maxHeartbeats 2000000 in
theorem uSkip_no (S : ByteArray) (a : Int) (w : World) (hs : S.size ≤ maxLen) (ha : a < 0 ∨ (S.size : Int) < a) :
    Calls Try.prog 24 #[.string S, .int .i64 a] w (Skipped w (0, 2)) := by
  have HBeg := Lib.hid fun wx => beg_no S a a wx hs ha
  clear ha
  go_enter Try.func24, Try.ntmps24
  go_wp2_with (go_at_call 48; (with_reducible refine (HBeg.out _).mono ?_); rintro e1 w1 ⟨rfl, hb1⟩; have HB1 := Lib.hid hb1; have hB1s := hb1.size; clear hb1)
  have HB2 := Lib.hid (HB1.out.alloc HB1.out.size (.cells #[.slice none 0 0, .int .i64 0, .int .i64 0, .int .i64 2, .string S, .int .i64 a, .int .i64 a, .string ⟨#[]⟩] 85))
  have hL := Lies.new w1 85 #[.slice none 0 0, .int .i64 0, .int .i64 0, .int .i64 2, .string S, .int .i64 a, .int .i64 a, .string ⟨#[]⟩]
  obtain ⟨k0, k1, k2, k3, k4, k5, k6, k7⟩ := hL.eight
  have HL := Lib.hid hL
  clear hL
  obtain ⟨w2, hw2⟩ : ∃ w2, w1.alloc (.cells #[.slice none 0 0, .int .i64 0, .int .i64 0, .int .i64 2, .string S, .int .i64 a, .int .i64 a, .string ⟨#[]⟩] 85) = w2 := ⟨_, rfl⟩
  rw [hw2] at HB2 HL k0 k1 k2 k3 k4 k5 k6 k7
  go_loopg [] 0 (fun k wr => wr = w2)
  case atStart => exact hw2
  case round =>
    clear hw2
    subst hrel
    have HStep : Hid (Calls Try.prog 49 #[wp_ w1.heap.size] wr (Wlk wr w.heap.size w1.heap.size S (failU (begU 0 0) 2) (.bool false))) := Lib.hid (step_no ⟨_, _, _, _, HL.out, Own.none_ _ _, fun h => by cases h⟩ (by decide))
    go_wp2_with (go_at_call 49; (with_reducible refine HStep.out.mono ?_); rintro e2 w2 ⟨rfl, hw2, hk2⟩; have HB3 := Lib.hid (HB2.out.trans hk2.below); obtain ⟨c0, R, P, T, hL, hown, hz⟩ := hw2; obtain ⟨l0, l1, l2, l3, l4, l5, l6, l7⟩ := hL.eight; clear hL hown hz hk2)
    go_quiet (fail)
    go_wp2
    go_ret2
    exact ⟨rfl, below_draws HB3.out _⟩
theorem uSkip_any (S : ByteArray) (a : Int) (w : World) (hs : S.size ≤ maxLen) :
    Calls Try.prog 24 #[.string S, .int .i64 a] w (Skipped w (skipU (bs S) a)) := by
  by_cases h : a < 0 ∨ (S.size : Int) < a
  · rw [show skipU (bs S) a = (0, 2) from if_pos (by rw [bs_length]; exact h)]
    exact uSkip_no S a w hs h
  · obtain ⟨a, rfl⟩ := Int.eq_ofNat_of_zero_le (show 0 ≤ a by omega)
    rw [show skipU (bs S) a = skipF (bs S) (S.size - a + 1) a from by unfold skipU; rw [if_neg (by rw [bs_length]; exact h), bs_length]; rfl]
    exact uSkip_yes S a w hs (by omega)
end Go.Proofs.Ytlpgoeigcccmhaa
