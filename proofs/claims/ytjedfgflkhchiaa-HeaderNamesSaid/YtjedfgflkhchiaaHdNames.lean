/-
  HeaderNames: the walk. No condition.
-/
import Derived.Test.YtjedfgflkhchiaaHdRd
namespace Go.Proofs.Ytjedfgflkhchiaa
open Go.RowKit
set_option linter.unusedVariables false

theorem nmR1 (w : World) : Calls Try.prog 10 #[.string ⟨#[0, 1, 1, 0, 0, 1, 0, 0, 0, 0, 0]⟩] w fun e w' => e = .returned (.tuple #[.agg #[.int .u16 0, .bool false, .int .i64 0, .bool false, .bool false, .bool false, .bool false, .bool false, .bool false, .int .i64 0, .int .i64 0, .int .i64 0, .int .i64 0, .int .i64 0], .int .i64 8]) ∧ Below w.heap.size w w' := by
  have h := Read_any ⟨#[0, 1, 1, 0, 0, 1, 0, 0, 0, 0, 0]⟩ w (by decide)
  rw [show rdP (bs ⟨#[0, 1, 1, 0, 0, 1, 0, 0, 0, 0, 0]⟩) = .tuple #[.agg #[.int .u16 0, .bool false, .int .i64 0, .bool false, .bool false, .bool false, .bool false, .bool false, .bool false, .int .i64 0, .int .i64 0, .int .i64 0, .int .i64 0, .int .i64 0], .int .i64 8] from by kernel_rfl] at h
  exact h
theorem nmR2 (w : World) : Calls Try.prog 10 #[.string ⟨#[0, 1, 0, 64, 0, 1, 0, 0, 0, 0, 0, 0]⟩] w fun e w' => e = .returned (.tuple #[.agg #[.int .u16 0, .bool false, .int .i64 0, .bool false, .bool false, .bool false, .bool false, .bool false, .bool false, .int .i64 0, .int .i64 0, .int .i64 0, .int .i64 0, .int .i64 0], .int .i64 4]) ∧ Below w.heap.size w w' := by
  have h := Read_any ⟨#[0, 1, 0, 64, 0, 1, 0, 0, 0, 0, 0, 0]⟩ w (by decide)
  rw [show rdP (bs ⟨#[0, 1, 0, 64, 0, 1, 0, 0, 0, 0, 0, 0]⟩) = .tuple #[.agg #[.int .u16 0, .bool false, .int .i64 0, .bool false, .bool false, .bool false, .bool false, .bool false, .bool false, .int .i64 0, .int .i64 0, .int .i64 0, .int .i64 0, .int .i64 0], .int .i64 4] from by kernel_rfl] at h
  exact h
theorem nmR3 (w : World) : Calls Try.prog 10 #[.string ⟨#[18, 52, 255, 191, 0, 1, 0, 2, 0, 3, 0, 4, 109, 111, 114, 101]⟩] w fun e w' => e = .returned (.tuple #[.agg #[.int .u16 4660, .bool true, .int .i64 15, .bool true, .bool true, .bool true, .bool true, .bool true, .bool true, .int .i64 15, .int .i64 1, .int .i64 2, .int .i64 3, .int .i64 4], .int .i64 0]) ∧ Below w.heap.size w w' := by
  have h := Read_any ⟨#[18, 52, 255, 191, 0, 1, 0, 2, 0, 3, 0, 4, 109, 111, 114, 101]⟩ w (by decide)
  rw [show rdP (bs ⟨#[18, 52, 255, 191, 0, 1, 0, 2, 0, 3, 0, 4, 109, 111, 114, 101]⟩) = .tuple #[.agg #[.int .u16 4660, .bool true, .int .i64 15, .bool true, .bool true, .bool true, .bool true, .bool true, .bool true, .int .i64 15, .int .i64 1, .int .i64 2, .int .i64 3, .int .i64 4], .int .i64 0] from by kernel_rfl] at h
  exact h
theorem nmP1 (w : World) : Calls Try.prog 11 #[.agg #[.int .u16 0, .bool false, .int .i64 16, .bool false, .bool false, .bool false, .bool false, .bool false, .bool false, .int .i64 0, .int .i64 0, .int .i64 0, .int .i64 0, .int .i64 0]] w fun e w' => e = .returned (.tuple #[.string ⟨#[]⟩, .int .i64 2]) ∧ Below w.heap.size w w' := by
  have h := Put_any ⟨0, false, 16, false, false, false, false, false, false, 0, 0, 0, 0, 0⟩ (by decide) w
  rw [show chkH ⟨0, false, 16, false, false, false, false, false, false, 0, 0, 0, 0, 0⟩ = 2 by decide, show ptV ⟨0, false, 16, false, false, false, false, false, false, 0, 0, 0, 0, 0⟩ = [] by decide] at h
  exact h
theorem nmP2 (w : World) : Calls Try.prog 11 #[.agg #[.int .u16 0, .bool false, .int .i64 0, .bool false, .bool false, .bool false, .bool false, .bool false, .bool false, .int .i64 0, .int .i64 0, .int .i64 0, .int .i64 65536, .int .i64 0]] w fun e w' => e = .returned (.tuple #[.string ⟨#[]⟩, .int .i64 2]) ∧ Below w.heap.size w w' := by
  have h := Put_any ⟨0, false, 0, false, false, false, false, false, false, 0, 0, 0, 65536, 0⟩ (by decide) w
  rw [show chkH ⟨0, false, 0, false, false, false, false, false, false, 0, 0, 0, 65536, 0⟩ = 2 by decide, show ptV ⟨0, false, 0, false, false, false, false, false, false, 0, 0, 0, 65536, 0⟩ = [] by decide] at h
  exact h
theorem nmA (w : World) : Calls Try.prog 12 #[.agg #[.int .u16 7, .bool false, .int .i64 2, .bool true, .bool false, .bool true, .bool false, .bool true, .bool false, .int .i64 0, .int .i64 1, .int .i64 0, .int .i64 0, .int .i64 0], .int .i64 (-1)] w fun e w' => e = .returned (.agg #[.int .u16 7, .bool true, .int .i64 2, .bool false, .bool false, .bool true, .bool true, .bool false, .bool false, .int .i64 15, .int .i64 0, .int .i64 0, .int .i64 0, .int .i64 0]) ∧ Below w.heap.size w w' := by
  have h := Reply_any ⟨7, false, 2, true, false, true, false, true, false, 0, 1, 0, 0, 0⟩ (-1) w
  rw [show hv (repH ⟨7, false, 2, true, false, true, false, true, false, 0, 1, 0, 0, 0⟩ (-1)) = .agg #[.int .u16 7, .bool true, .int .i64 2, .bool false, .bool false, .bool true, .bool true, .bool false, .bool false, .int .i64 15, .int .i64 0, .int .i64 0, .int .i64 0, .int .i64 0] from by kernel_rfl] at h
  exact h
theorem nmC (w : World) : Calls Try.prog 13 #[.agg #[.int .u16 0, .bool false, .int .i64 0, .bool false, .bool false, .bool false, .bool false, .bool false, .bool false, .int .i64 (-1), .int .i64 0, .int .i64 0, .int .i64 0, .int .i64 0]] w fun e w' => e = .returned (.int .i64 2) ∧ Below w.heap.size w w' := by
  have h := Check_any ⟨0, false, 0, false, false, false, false, false, false, -1, 0, 0, 0, 0⟩ w
  rw [show chkH ⟨0, false, 0, false, false, false, false, false, false, -1, 0, 0, 0, 0⟩ = 2 by decide] at h
  exact h
set_option maxHeartbeats 1000000 in
theorem HeaderNames_walk (w : World) : Calls Try.prog 3 #[] w fun e w' => e = .returned (.bool true) ∧ Below w.heap.size w w' := by
  have EQ1 : ∀ wx, (Op.equalIn 10000 26 (.agg #[.int .u16 4660, .bool true, .int .i64 15, .bool true, .bool true, .bool true, .bool true, .bool true, .bool true, .int .i64 15, .int .i64 1, .int .i64 2, .int .i64 3, .int .i64 4]) (.agg #[.int .u16 4660, .bool true, .int .i64 15, .bool true, .bool true, .bool true, .bool true, .bool true, .bool true, .int .i64 15, .int .i64 1, .int .i64 2, .int .i64 3, .int .i64 4])).run Try.prog wx = .ok true wx := fun wx => by
    have := hd_equal ⟨4660, true, 15, true, true, true, true, true, true, 15, 1, 2, 3, 4⟩ ⟨4660, true, 15, true, true, true, true, true, true, 15, 1, 2, 3, 4⟩ wx
    simpa [hv] using this
  have EQ2 : ∀ wx, (Op.equalIn 10000 26 (.agg #[.int .u16 7, .bool true, .int .i64 2, .bool false, .bool false, .bool true, .bool true, .bool false, .bool false, .int .i64 15, .int .i64 0, .int .i64 0, .int .i64 0, .int .i64 0]) (.agg #[.int .u16 7, .bool true, .int .i64 2, .bool false, .bool false, .bool true, .bool true, .bool false, .bool false, .int .i64 15, .int .i64 0, .int .i64 0, .int .i64 0, .int .i64 0])).run Try.prog wx = .ok true wx := fun wx => by
    have := hd_equal ⟨7, true, 2, false, false, true, true, false, false, 15, 0, 0, 0, 0⟩ ⟨7, true, 2, false, false, true, true, false, false, 15, 0, 0, 0, 0⟩ wx
    simpa [hv] using this
  go_enter Try.func3, Try.ntmps3
  go_wp2_with fail
  refine (lives_any _).mono ?_
  rintro e w1 ⟨rfl, hb⟩
  have HB1 := Lib.hid hb
  obtain ⟨c1, f1⟩ := bcell hb
  clear hb
  go_wp2_with fail
  refine (nmR1 _).mono ?_
  rintro e w2 ⟨rfl, hb⟩
  have HB2 := Lib.hid (HB1.out.trans (hb.mono HB1.out.size))
  obtain ⟨c2, f2⟩ := bcell hb
  clear hb
  go_wp2_with fail
  refine (nmR2 _).mono ?_
  rintro e w3 ⟨rfl, hb⟩
  have HB3 := Lib.hid ((HB2.out.alloc HB2.out.size _).trans (hb.mono (by have := HB2.out.size; simp; omega)))
  obtain ⟨c3, f3⟩ := bcell hb
  clear hb
  go_wp2_with fail
  refine (nmR3 _).mono ?_
  rintro e w4 ⟨rfl, hb⟩
  have HB4 := Lib.hid ((HB3.out.alloc HB3.out.size _).trans (hb.mono (by have := HB3.out.size; simp; omega)))
  obtain ⟨c4, f4⟩ := bcell hb
  clear hb
  go_wp2_with fail
  refine (nmP1 _).mono ?_
  rintro e w5 ⟨rfl, hb⟩
  have HB5 := Lib.hid ((HB4.out.alloc HB4.out.size _).trans (hb.mono (by have := HB4.out.size; simp; omega)))
  obtain ⟨c5, f5⟩ := bcell hb
  have z5a : w4.heap.size < w5.heap.size := by have := hb.size; (try simp at this); omega
  clear hb
  go_wp2_with fail
  refine (nmP2 _).mono ?_
  rintro e w6 ⟨rfl, hb⟩
  have HB6 := Lib.hid (HB5.out.trans (hb.mono HB5.out.size))
  obtain ⟨c6, f6⟩ := bcell hb
  have z6a : w4.heap.size < w6.heap.size := by have := hb.size; (try simp at this); omega
  clear hb
  go_wp2_with fail
  refine (nmA _).mono ?_
  rintro e w7 ⟨rfl, hb⟩
  have HB7 := Lib.hid (HB6.out.trans (hb.mono HB6.out.size))
  obtain ⟨c7, f7⟩ := bcell hb
  have z7a : w4.heap.size < w7.heap.size := by have := hb.size; (try simp at this); omega
  clear hb
  go_wp2_with fail
  refine (lives_any _).mono ?_
  rintro e w8 ⟨rfl, hb⟩
  have HB8 := Lib.hid ((HB7.out.alloc HB7.out.size _).trans (hb.mono (by have := HB7.out.size; simp; omega)))
  obtain ⟨c8, f8⟩ := bcell hb
  have z8a : w4.heap.size < w8.heap.size := by have := hb.size; (try simp at this); omega
  have z8b : w7.heap.size < w8.heap.size := by have := hb.size; (try simp at this); omega
  clear hb
  go_wp2_with fail
  refine (nmC _).mono ?_
  rintro e w9 ⟨rfl, hb⟩
  have HB9 := Lib.hid (HB8.out.trans (hb.mono HB8.out.size))
  obtain ⟨c9, f9⟩ := bcell hb
  clear hb
  go_wp2
  go_ret
  exact ⟨rfl, HB9.out⟩
end Go.Proofs.Ytjedfgflkhchiaa
