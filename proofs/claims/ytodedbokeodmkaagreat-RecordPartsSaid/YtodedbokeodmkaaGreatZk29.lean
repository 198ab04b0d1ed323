/-
  What unpack.Name, Plain, Jumps, Skip answer. Condition: the octets are no longer than Go's own limit.
-/
import Derived.Test.YtodedbokeodmkaaGreatZk28
import Derived.Test.YtodedbokeodmkaaGreatZk15
namespace Go.Proofs.YtodedbokeodmkaaGreat
open Go.RowKit
set_option linter.unusedVariables false

set_option maxHeartbeats 1000000 in
theorem read_no (S : ByteArray) (a r : Int) (w : World) (hs : S.size ≤ maxLen) (ha : a < 0 ∨ (S.size : Int) < a) :
    Calls Tryz.prog 204 #[.string S, .int .i64 a, .int .i64 r] w (Found w (failU (begU 0 0) 2)) := by
  have HBeg := Lib.hid fun wx => beg_no S a r wx hs ha
  clear ha
  go_enter Tryz.func204, Tryz.ntmps204
  go_wp2
  go_step3
  go_wp2_with (go_at_call 214; (with_reducible refine (HBeg.out _).mono ?_); rintro e1 w1 ⟨rfl, hb1⟩; have hb0 := ((((Below.refl w.heap.size w).alloc (Nat.le_refl _) _).trans (hb1.mono (by simp))).alloc (by have := hb1.size; simp at this; omega) (.cells #[.slice none 0 0, .int .i64 0, .int .i64 0, .int .i64 2, .string S, .int .i64 r, .int .i64 a, .string ⟨#[]⟩] 252)); have hL := Lies.new w1 252 #[.slice none 0 0, .int .i64 0, .int .i64 0, .int .i64 2, .string S, .int .i64 r, .int .i64 a, .string ⟨#[]⟩]; have hF : FL (w1.alloc (.cells #[.slice none 0 0, .int .i64 0, .int .i64 0, .int .i64 2, .string S, .int .i64 r, .int .i64 a, .string ⟨#[]⟩] 252)) w.heap.size := ((Lies.new w _ _).next hb1).alloc _; have HE := Lib.hid (found_end (k := 0) (u := failU (begU 0 0) 2) hL (Own.none_ _ _) hb0 hF); obtain ⟨k0, k1, k2, k3, k4, k5, k6, k7⟩ := hL.eight; have m0 := hF.cell 0; have m1 := hF.cell 1; have m2 := hF.cell 2; have m3 := hF.cell 3; obtain ⟨z0, z1, z2, z3, _, _, _, _⟩ := hF.eightF; clear hF hb0 hL hb1)
  go_step3
  go_wp2
  go_loopg [] 0 (fun k wr => wr = (w1.alloc (.cells #[.slice none 0 0, .int .i64 0, .int .i64 0, .int .i64 2, .string S, .int .i64 r, .int .i64 a, .string ⟨#[]⟩] 252)))
  case atStart => rfl
  case round =>
    subst hrel
    go_wp2
    try rw [Exit.noGoto_ret]
    refine bodyPost_ret (v := .agg #[_, .int .i64 _, .int .i64 _, .int .i64 _]) (by simp [results, Tryz.results204, go_sem, m0, m1, m2, m3, failU]) rfl HE.out
theorem read_any (S : ByteArray) (a : Int) (r : Nat) (w : World) (hs : S.size ≤ maxLen) (hr : a < 0 ∨ (S.size : Int) < a ∨ r ≤ S.size) :
    Calls Tryz.prog 204 #[.string S, .int .i64 a, .int .i64 r] w (Found w (readU (bs S) a r)) := by
  by_cases h : a < 0 ∨ (S.size : Int) < a
  · rw [show readU (bs S) a r = failU (begU 0 0) 2 from if_pos (by rw [bs_length]; exact h)]
    exact read_no S a r w hs h
  · obtain ⟨a, rfl⟩ := Int.eq_ofNat_of_zero_le (show 0 ≤ a by omega)
    rw [show readU (bs S) a r = runU (bs S) (muU (bs S) (begU a r)) (begU a r) from if_neg (by rw [bs_length]; exact h)]
    exact read_yes S a r w hs (by omega) (by omega)

/-- What Name, Plain hand back. -/
def Named (w : World) (u : US) (e : Ending) (w' : World) : Prop := e = .returned (.tuple #[.string ⟨u.l.toArray⟩, .int .i64 u.e, .int .i64 u.f]) ∧ Below w.heap.size w w'
theorem read_self (S : ByteArray) (a : Int) (wx : World) (hs : S.size ≤ maxLen) : Calls Tryz.prog 204 #[.string S, .int .i64 a, .int .i64 a] wx (Found wx (readU (bs S) a a)) := by
    rcases Int.lt_or_le a 0 with h0 | h0
    · rw [show readU (bs S) a a = failU (begU 0 0) 2 from if_pos (.inl h0)]
      exact read_no S a a wx hs (.inl h0)
    · obtain ⟨a, rfl⟩ := Int.eq_ofNat_of_zero_le h0
      exact read_any S a a wx hs (by omega)
set_option maxHeartbeats 1000000 in
theorem uName_any (S : ByteArray) (a : Int) (w : World) (hs : S.size ≤ maxLen) :
    Calls Tryz.prog 154 #[.string S, .int .i64 a] w (Named w (readU (bs S) a a)) := by
  have HR : Hid (∀ wx, Calls Tryz.prog 204 #[.string S, .int .i64 a, .int .i64 a] wx (Found wx (readU (bs S) a a))) := Lib.hid fun wx => by
    exact read_self S a wx hs
  obtain ⟨u, hu⟩ : ∃ u, readU (bs S) a a = u := ⟨_, rfl⟩
  rw [hu] at HR ⊢
  clear hu
  go_enter Tryz.func154, Tryz.ntmps154
  go_wp2_with (go_at_call 204; (with_reducible refine (HR.out _).mono ?_); rintro e1 w1 ⟨v, rfl, hown, hb1⟩; obtain ⟨A, cap, rfl⟩ := hown.shape; have HB1 := Lib.hid hb1; have HO := Lib.hid hown; clear hown hb1)
  have hcv : ∀ m, (convert 128 22 (.slice A u.l.length cap)).run Tryz.prog ((w1.alloc (.cells #[.slice A u.l.length cap, .int .i64 u.e, .int .i64 u.j, .int .i64 u.f] 242)).drewN m) = .ok (.string ⟨u.l.toArray⟩) ((w1.alloc (.cells #[.slice A u.l.length cap, .int .i64 u.e, .int .i64 u.j, .int .i64 u.f] 242)).drewN m) := fun m => btN.conv_own (w := (w1.alloc _).drewN m) (HO.out.alloc _)
  go_quiet (fail)
  go_wp2
  go_ret3
  exact ⟨rfl, below_draws (HB1.out.alloc HB1.out.size _) nq⟩
set_option maxHeartbeats 1000000 in
theorem uPlain_any (S : ByteArray) (a : Int) (w : World) (hs : S.size ≤ maxLen) :
    Calls Tryz.prog 201 #[.string S, .int .i64 a] w (Named w (readU (bs S) a 0)) := by
  have HR : Hid (∀ wx, Calls Tryz.prog 204 #[.string S, .int .i64 a, .int .i64 0] wx (Found wx (readU (bs S) a 0))) := Lib.hid fun wx => by
    exact read_any S a 0 wx hs (by omega)
  obtain ⟨u, hu⟩ : ∃ u, readU (bs S) a 0 = u := ⟨_, rfl⟩
  rw [hu] at HR ⊢
  clear hu
  go_enter Tryz.func201, Tryz.ntmps201
  go_wp2_with (go_at_call 204; (with_reducible refine (HR.out _).mono ?_); rintro e1 w1 ⟨v, rfl, hown, hb1⟩; obtain ⟨A, cap, rfl⟩ := hown.shape; have HB1 := Lib.hid hb1; have HO := Lib.hid hown; clear hown hb1)
  have hcv : ∀ m, (convert 128 22 (.slice A u.l.length cap)).run Tryz.prog ((w1.alloc (.cells #[.slice A u.l.length cap, .int .i64 u.e, .int .i64 u.j, .int .i64 u.f] 242)).drewN m) = .ok (.string ⟨u.l.toArray⟩) ((w1.alloc (.cells #[.slice A u.l.length cap, .int .i64 u.e, .int .i64 u.j, .int .i64 u.f] 242)).drewN m) := fun m => btN.conv_own (w := (w1.alloc _).drewN m) (HO.out.alloc _)
  go_quiet (fail)
  go_wp2
  go_ret3
  exact ⟨rfl, below_draws (HB1.out.alloc HB1.out.size _) nq⟩
end Go.Proofs.YtodedbokeodmkaaGreat
