/-
  What the kit's Pick answers. Condition: from 1 to 100000.
-/
import Derived.Test.YtabhapohkohbmaaBt
namespace Go.Proofs.Ytabhapohkohbmaa
open Go.RowKit
set_option linter.unusedVariables false

/-- A number made small. -/
def pick (i n : Int) : Int := if n < 1 then 0 else if i.tmod n < 0 then i.tmod n + n else i.tmod n
theorem pick_range {i n : Int} (h : 1 ≤ n) : 0 ≤ pick i n ∧ pick i n < n := by
  unfold pick
  rw [if_neg (by omega)]
  have h1 := Int.lt_tmod_of_pos i (show 0 < n by omega)
  have h2 := Int.tmod_lt_of_pos i (show 0 < n by omega)
  split <;> omega
set_option maxHeartbeats 400000 in
theorem Pick_any (i n : Int) (w : World) (h : 1 ≤ n) (hn : n ≤ 100000) :
    Calls Try.prog 20 #[.int .i64 i, .int .i64 n] w fun e w' => e = .returned (.int .i64 (pick i n)) ∧ w = w' := by
  have h1 := Int.lt_tmod_of_pos i (show 0 < n by omega)
  have h2 := Int.tmod_lt_of_pos i (show 0 < n by omega)
  have h0 : ¬ n < 1 := by omega
  by_cases hneg : i.tmod n < 0
  · have HP := Lib.hid (show pick i n = i.tmod n + n by unfold pick; rw [if_neg h0, if_pos hneg])
    go_enter Try.func20, Try.ntmps20
    go_wp2
    go_ret
    exact ⟨by rw [HP.out]; rfl, rfl⟩
  · have HP := Lib.hid (show pick i n = i.tmod n by unfold pick; rw [if_neg h0, if_neg hneg])
    go_enter Try.func20, Try.ntmps20
    go_wp2
    go_ret
    exact ⟨by rw [HP.out]; rfl, rfl⟩
end Go.Proofs.Ytabhapohkohbmaa
