/-
  A text read: the walk of addr.Read. Conditions: as each theorem names them.
-/
import Derived.Test.YtjadghmanpkgoaaGreatDoorAdNewR
namespace Go.Proofs.YtjadghmanpkgoaaGreatDoor
open Go.RowKit
set_option linter.unusedVariables false

set_option maxHeartbeats 4000000 in
theorem aRead_any (s : ByteArray) (w : World) (hs : s.size ≤ 900000) (hG : Ground w) :
    Calls Tryz.prog 13 #[.string s] w fun e w' => e = .returned (.tuple #[av (rdA (bs s)).1, .int .i64 (rdA (bs s)).2]) ∧ Below w.heap.size w w' := by
  obtain ⟨w0, hw0⟩ : ∃ w0, w0 = w.alloc (.cells #[.bool false, .int .u64 0, .int .u64 0] 24) := ⟨_, rfl⟩
  have hb0 : Below w.heap.size w w0 := by rw [hw0]; exact (Below.refl _ _).alloc (Nat.le_refl _) _
  have HB0 := Lib.hid hb0
  have HG0 := Lib.hid (hG.next hb0)
  have HL0 : Hid (AdB w0 w.heap.size false 0 0) := Lib.hid (by rw [hw0]; exact Lies.new _ _ _)
  have HC : Hid (Calls Tryz.prog 56 #[.string s, .string ⟨#[58]⟩] w0 fun e w' => e = .returned (.bool (Lib.contains (bs s) [58])) ∧ w' = w0) := Lib.hid (by
    obtain ⟨m, hm⟩ := HG0.out.maxlen
    exact Tryz.strings_Contains s ⟨#[58]⟩ m w0 (by omega) hm)
  have HE := Lib.hid (readElder_any s w0 (by omega) HG0.out)
  have HN := Lib.hid (readNewer_any s w0 hs HG0.out)
  unfold rdA readO
  clear hb0 hG
  cases hc : Lib.contains (bs s) [58] with
  | false =>
    rw [hc] at HC
    rw [if_neg (by simp)]
    cases ho : eldO (bs s) with
    | none =>
      rw [ho] at HE
      simp only [optA, noA, av] at HE ⊢
      go_enter Tryz.func13, Tryz.ntmps13
      go_wp2_with (first | (go_at_call 56; rw [← hw0]; (with_reducible refine HC.out.mono ?_); rintro e w' ⟨rfl, rfl⟩) | (go_at_call 55; rw [← hw0]; (with_reducible refine HE.out.mono ?_); rintro e w1 ⟨rfl, hb1⟩; have HB1 := Lib.hid hb1; clear hb1; have HL1 : Hid (AdB w1 w.heap.size false 0 0) := Lib.hid (Lies.next HL0.out HB1.out); have HL2 : Hid (AdB (w1.alloc (.cells #[.bool false, .int .u64 0, .int .u64 0] 24)) w.heap.size false 0 0) := Lib.hid (Lies.next HL1.out ((Below.refl _ _).alloc (Nat.le_refl _) _)); obtain ⟨⟨hc0, hc1, hc2⟩, hf0, hf1, hf2⟩ := HL2.out.facts; skip) | fail)
      refine bodyPost_ret (ret_ad2 rfl _ _ w.heap.size noA rfl (AdB.put HL2.out _ _ _)) rfl ?_
      exact ⟨rfl, put3 (next HB0.out (HB1.out.alloc HB1.out.size _)) (Nat.le_refl _) _ _ _⟩
    | some a =>
      obtain ⟨six, hi, lo⟩ := a
      rw [ho] at HE
      simp only [optA, av] at HE ⊢
      go_enter Tryz.func13, Tryz.ntmps13
      go_wp2_with (first | (go_at_call 56; rw [← hw0]; (with_reducible refine HC.out.mono ?_); rintro e w' ⟨rfl, rfl⟩) | (go_at_call 55; rw [← hw0]; (with_reducible refine HE.out.mono ?_); rintro e w1 ⟨rfl, hb1⟩; have HB1 := Lib.hid hb1; clear hb1; have HL1 : Hid (AdB w1 w.heap.size false 0 0) := Lib.hid (Lies.next HL0.out HB1.out); have HL2 : Hid (AdB (w1.alloc (.cells #[.bool six, .int .u64 (hi : Int), .int .u64 (lo : Int)] 24)) w.heap.size false 0 0) := Lib.hid (Lies.next HL1.out ((Below.refl _ _).alloc (Nat.le_refl _) _)); obtain ⟨⟨hc0, hc1, hc2⟩, hf0, hf1, hf2⟩ := HL2.out.facts; skip) | fail)
      refine bodyPost_ret (ret_ad2 rfl _ _ w.heap.size (six, hi, lo) rfl (AdB.put HL2.out _ _ _)) rfl ?_
      exact ⟨rfl, put3 (next HB0.out (HB1.out.alloc HB1.out.size _)) (Nat.le_refl _) _ _ _⟩
  | true =>
    rw [hc] at HC
    rw [if_pos rfl]
    cases ho : newO (bs s) with
    | none =>
      rw [ho] at HN
      simp only [optA, noA, av] at HN ⊢
      go_enter Tryz.func13, Tryz.ntmps13
      go_wp2_with (first | (go_at_call 56; rw [← hw0]; (with_reducible refine HC.out.mono ?_); rintro e w' ⟨rfl, rfl⟩) | (go_at_call 57; rw [← hw0]; (with_reducible refine HN.out.mono ?_); rintro e w1 ⟨rfl, hb1⟩; have HB1 := Lib.hid hb1; clear hb1; have HL1 : Hid (AdB w1 w.heap.size false 0 0) := Lib.hid (Lies.next HL0.out HB1.out); have HL2 : Hid (AdB (w1.alloc (.cells #[.bool false, .int .u64 0, .int .u64 0] 24)) w.heap.size false 0 0) := Lib.hid (Lies.next HL1.out ((Below.refl _ _).alloc (Nat.le_refl _) _)); obtain ⟨⟨hc0, hc1, hc2⟩, hf0, hf1, hf2⟩ := HL2.out.facts; skip) | fail)
      refine bodyPost_ret (ret_ad2 rfl _ _ w.heap.size noA rfl (AdB.put HL2.out _ _ _)) rfl ?_
      exact ⟨rfl, put3 (next HB0.out (HB1.out.alloc HB1.out.size _)) (Nat.le_refl _) _ _ _⟩
    | some a =>
      obtain ⟨six, hi, lo⟩ := a
      rw [ho] at HN
      simp only [optA, av] at HN ⊢
      go_enter Tryz.func13, Tryz.ntmps13
      go_wp2_with (first | (go_at_call 56; rw [← hw0]; (with_reducible refine HC.out.mono ?_); rintro e w' ⟨rfl, rfl⟩) | (go_at_call 57; rw [← hw0]; (with_reducible refine HN.out.mono ?_); rintro e w1 ⟨rfl, hb1⟩; have HB1 := Lib.hid hb1; clear hb1; have HL1 : Hid (AdB w1 w.heap.size false 0 0) := Lib.hid (Lies.next HL0.out HB1.out); have HL2 : Hid (AdB (w1.alloc (.cells #[.bool six, .int .u64 (hi : Int), .int .u64 (lo : Int)] 24)) w.heap.size false 0 0) := Lib.hid (Lies.next HL1.out ((Below.refl _ _).alloc (Nat.le_refl _) _)); obtain ⟨⟨hc0, hc1, hc2⟩, hf0, hf1, hf2⟩ := HL2.out.facts; skip) | fail)
      refine bodyPost_ret (ret_ad2 rfl _ _ w.heap.size (six, hi, lo) rfl (AdB.put HL2.out _ _ _)) rfl ?_
      exact ⟨rfl, put3 (next HB0.out (HB1.out.alloc HB1.out.size _)) (Nat.le_refl _) _ _ _⟩
end Go.Proofs.YtjadghmanpkgoaaGreatDoor
