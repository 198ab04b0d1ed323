/-
  Addresses of octets: the walk of addr.Of. Condition: the text is no longer than Go's own limit.
-/
import Derived.Test.YtbbglpjhblhkdaaGreatAdNew
namespace Go.Proofs.YtbbglpjhblhkdaaGreat
open Go.RowKit
set_option linter.unusedVariables false

theorem row_bytes {w : World} {g g' n cap : Nat} {s : ByteArray} (hg : g = g') (h : Row w g (bs s)) (hn : s.size = n) (h1 : s.size ≤ cap) (h2 : cap ≤ maxLen) : Hid (RowE B w (.slice (some ⟨g', 0, none⟩) n cap) (bs s)) := by
  subst hg
  have := (At.of_row h (by rw [bs_length]; exact h1) h2).row
  rw [bs_length, hn] at this
  exact Lib.hid this
set_option maxHeartbeats 1000000 in
theorem Of_any (s : ByteArray) (w : World) (hs : s.size ≤ maxLen) :
    Calls Tryz.prog 147 #[.string s] w fun e w' => e = .returned (.tuple #[av (ofA (bs s)).1, .int .i64 (ofA (bs s)).2]) ∧ Below w.heap.size w w' := by
  obtain ⟨w0, hw0⟩ : ∃ w0, w0 = w.alloc (.cells #[.bool false, .int .u64 0, .int .u64 0] 27) := ⟨_, rfl⟩
  have HB0 : Hid (Below w.heap.size w w0 ∧ w0.heap.size = w.heap.size + 1) := Lib.hid (by rw [hw0]; exact ⟨(Below.refl _ _).alloc (Nat.le_refl _) _, size1 _ _⟩)
  have HL0 : Hid (AdB w0 w.heap.size false 0 0) := Lib.hid (by rw [hw0]; exact Lies.new _ _ _)
  have HM := Lib.hid hs
  by_cases h4 : s.size = 4
  · have e : ofA (bs s) = (elderA (nats (bs s)), 0) := if_pos (by rw [bs_length]; exact h4)
    rw [e]
    have HE := Lib.hid (fun v wx hx => elder_any (bs s) v wx hx (by rw [bs_length]; omega))
    simp only [av, elderA] at HE
    go_enter Tryz.func147, Tryz.ntmps147
    go_wp2_with (first | (refine wpList_bytes bt _ rfl _ rfl s rfl HM.out ?_; intro cap w1 hrow hb1 hsz1 hc1 hc2; have HX := row_bytes (size1 w _) hrow h4 hc1 hc2; have hlz := (Lies.new w 27 #[.bool false, .int .u64 0, .int .u64 0]).next hb1; have HL1 : Hid (AdB w1 w.heap.size false 0 0) := Lib.hid hlz; have HB1 := Lib.hid hb1; clear hrow hb1 hlz hsz1) | (go_at_call 174; refine (HE.out _ _ ?_).mono ?_; exact HX.out; rintro e w2 ⟨rfl, hb2⟩; have HL2 : Hid (AdB w2 w.heap.size false 0 0) := Lib.hid (Lies.next HL1.out hb2); obtain ⟨⟨hc0, hc1, hc2⟩, hf0, hf1, hf2⟩ := HL2.out.facts; have HB2 := Lib.hid hb2; clear hb2))
    refine bodyPost_ret (ret_ad2 rfl _ _ w.heap.size (elderA (nats (bs s))) rfl (AdB.put HL2.out _ _ _)) rfl ?_
    have hb := next ((Below.refl w.heap.size w).alloc (Nat.le_refl _) _) HB1.out
    exact ⟨rfl, put3 (next hb HB2.out) (Nat.le_refl _) _ _ _⟩
  · by_cases h16 : s.size = 16
    · have e : ofA (bs s) = (newerA 256 (nats (bs s)), 0) := by unfold ofA; rw [if_neg (by rw [bs_length]; exact h4), if_pos (by rw [bs_length]; exact h16)]
      rw [e]
      have HE := Lib.hid (fun v wx hx => newerB16_any (bs s) v wx hx (by rw [bs_length]; exact h16))
      simp only [av, newerA] at HE
      clear h4
      go_enter Tryz.func147, Tryz.ntmps147
      go_wp2_with (first | (refine wpList_bytes bt _ rfl _ rfl s rfl HM.out ?_; intro cap w1 hrow hb1 hsz1 hc1 hc2; have HX := row_bytes (size1 w _) hrow h16 hc1 hc2; have hlz := (Lies.new w 27 #[.bool false, .int .u64 0, .int .u64 0]).next hb1; have HL1 : Hid (AdB w1 w.heap.size false 0 0) := Lib.hid hlz; have HB1 := Lib.hid hb1; clear hrow hb1 hlz hsz1) | (go_at_call 175; refine (HE.out _ _ ?_).mono ?_; exact HX.out; rintro e w2 ⟨rfl, hb2⟩; have HL2 : Hid (AdB w2 w.heap.size false 0 0) := Lib.hid (Lies.next HL1.out hb2); obtain ⟨⟨hc0, hc1, hc2⟩, hf0, hf1, hf2⟩ := HL2.out.facts; have HB2 := Lib.hid hb2; clear hb2))
      refine bodyPost_ret (ret_ad2 rfl _ _ w.heap.size (newerA 256 (nats (bs s))) rfl (AdB.put HL2.out _ _ _)) rfl ?_
      have hb := next ((Below.refl w.heap.size w).alloc (Nat.le_refl _) _) HB1.out
      exact ⟨rfl, put3 (next hb HB2.out) (Nat.le_refl _) _ _ _⟩
    · have e : ofA (bs s) = (noA, 2) := by unfold ofA; rw [if_neg (by rw [bs_length]; exact h4), if_neg (by rw [bs_length]; exact h16)]
      rw [e]
      have hb4 : ((s.size : Int) == 4) = false := by simp; omega
      have hb16 : ((s.size : Int) == 16) = false := by simp; omega
      go_enter Tryz.func147, Tryz.ntmps147
      go_wp2
      refine bodyPost_ret (ret_ad2 rfl _ _ w.heap.size noA rfl (Lies.new _ _ _)) rfl ?_
      exact ⟨rfl, (Below.refl _ _).alloc (Nat.le_refl _) _⟩
end Go.Proofs.YtbbglpjhblhkdaaGreat
