/-
  The laws' own examples (lives) hold: the walk. No condition.
-/
import Derived.Test.YthdkceodoflnkaaOcWr
namespace Go.Proofs.Ythdkceodoflnkaa
open Go.RowKit
set_option linter.unusedVariables false

theorem kp_first {w w1 w2 : World} (h : Below w.heap.size w w1) (k : Below w1.heap.size w1 w2) : Below w.heap.size w w2 := h.trans (k.mono h.size)
theorem row_apart {w : World} {h g : Nat} (hr : rowOf w g = none) : rowOf w h = none ∨ rowOf w h ≠ rowOf w g := by
  cases e : rowOf w h with
  | none => exact .inl rfl
  | some k => exact .inr (by rw [hr]; exact fun e => by cases e)
theorem WR.below {w w' : World} {base g M k : Nat} {l : List UInt8} {f : Nat} (h : WR w base g M l f) (hb : Below k w w') (hk : w.heap.size ≤ k) : WR w' base g M l f := h.next (hb.mono hk)
theorem row_next {w w' : World} {g : Nat} (hb : Below w.heap.size w w') (hg : g < w.heap.size) : rowOf w' g = rowOf w g := rowOf_same (hb.block g hg)

theorem n1 : numW 9 [] 0 258 2 = ⟨0, [1, 2], 0⟩ := by kernel_rfl
theorem n2 : numW 1 [] 0 258 2 = ⟨3, [], 3⟩ := by kernel_rfl
theorem n3 : numW 1 [] 3 1 1 = ⟨3, [], 3⟩ := by kernel_rfl

set_option maxHeartbeats 1000000 in
theorem lives_any (w : World) : Calls Try.prog 9 #[] w fun e w' => e = .returned (.bool true) ∧ Below w.heap.size w w' := by
  have HN9 : Hid (∀ wx : World, Calls Try.prog 11 #[.int .i64 9] wx (NewW wx 9)) := Lib.hid fun wx => NewWriter_any 9 wx (by decide)
  have HN1 : Hid (∀ wx : World, Calls Try.prog 11 #[.int .i64 1] wx (NewW wx 1)) := Lib.hid fun wx => NewWriter_any 1 wx (by decide)
  have HA : Hid (∀ (wx : World) (g : Nat), WR wx g g 9 [] 0 → Calls Try.prog 15 #[.pointer (some ⟨g, 0, none⟩), .int .u32 258, .int .i64 2] wx (Wtr wx g g 9 [1, 2] 0 (.int .i64 0))) := Lib.hid fun wx g h => by
    have := wNumber_any 258 2 h (by decide) (Nat.le_refl _) (by decide) (by decide) (by decide)
    rw [n1] at this
    exact this
  have HB : Hid (∀ (wx : World) (g : Nat), WR wx g g 1 [] 0 → Calls Try.prog 15 #[.pointer (some ⟨g, 0, none⟩), .int .u32 258, .int .i64 2] wx (Wtr wx g g 1 [] 3 (.int .i64 3))) := Lib.hid fun wx g h => by
    have := wNumber_any 258 2 h (by decide) (Nat.le_refl _) (by decide) (by decide) (by decide)
    rw [n2] at this
    exact this
  have HC : Hid (∀ (wx : World) (g : Nat), WR wx g g 1 [] 3 → Calls Try.prog 15 #[.pointer (some ⟨g, 0, none⟩), .int .u32 1, .int .i64 1] wx (Wtr wx g g 1 [] 3 (.int .i64 3))) := Lib.hid fun wx g h => by
    have := wNumber_any 1 1 h (by decide) (Nat.le_refl _) (by decide) (by decide) (by decide)
    rw [n3] at this
    exact this
  go_enter Try.func9, Try.ntmps9
  go_wp2_with fail
  refine (HN9.out _).mono ?_
  rintro e w1 ⟨rfl, hw1, hr1, hb1⟩
  have HW1 := Lib.hid hw1
  have HB1 := Lib.hid hb1
  have HR1 := Lib.hid hr1
  clear hw1 hb1 hr1
  go_wp2_with fail
  refine (HN1.out _).mono ?_
  rintro e w2 ⟨rfl, hx2, hr2, hb2⟩
  have HW2 := Lib.hid (HW1.out.next hb2)
  have HX2 := Lib.hid hx2
  have HR2 := Lib.hid hr2
  have HB2 := Lib.hid (kp_first HB1.out hb2)
  have HS1 := Lib.hid HB1.out.size
  have HL1 := Lib.hid HW1.out.lt
  clear hx2 hr2 hb2
  go_wp2_with fail
  refine (HA.out _ _ HW2.out).mono ?_
  rintro e w3 ⟨rfl, hw3, hk3⟩
  have HW3 := Lib.hid hw3
  have HX3 := Lib.hid (hk3.wr HW2.out HX2.out (Nat.ne_of_gt HL1.out) (.inl HR2.out))
  have HB3 := Lib.hid (HB2.out.trans hk3.below)
  clear hw3 hk3
  go_wp2_with fail
  refine (HB.out _ _ HX3.out.1).mono ?_
  rintro e w4 ⟨rfl, hx4, hk4⟩
  have HX4 := Lib.hid hx4
  have HW4 := Lib.hid (hk4.wr HX3.out.1 HW3.out (Nat.ne_of_lt HL1.out) (row_apart (HX3.out.2.1.trans HR2.out)))
  have HB4 := Lib.hid (HB3.out.trans (hk4.below.mono HS1.out))
  clear hx4 hk4
  go_wp2_with fail
  refine (HC.out _ _ HX4.out).mono ?_
  rintro e w5 ⟨rfl, hx5, hk5⟩
  have HW5 := Lib.hid (hk5.wr HX4.out HW4.out.1 (Nat.ne_of_lt HL1.out) HW4.out.2.2)
  have HB5 := Lib.hid (HB4.out.trans (hk5.below.mono HS1.out))
  clear hx5 hk5
  go_wp2_with fail
  refine (wText_any HW5.out.1).mono ?_
  rintro e w6 ⟨rfl, rfl⟩
  go_wp2
  go_ret
  exact ⟨rfl, HB5.out⟩
end Go.Proofs.Ythdkceodoflnkaa
