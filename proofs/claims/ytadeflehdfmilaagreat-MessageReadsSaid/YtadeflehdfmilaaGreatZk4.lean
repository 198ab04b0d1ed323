/-
  The program's rows for bytes, byte slices, strings; a call that hands back a value and turns nothing that lay. No condition. An argument that is a message's header, opened. No condition. What the kit's Pick answers. Condition: from 1 to 100000.
-/
import Derived.Test.YtadeflehdfmilaaGreatProg
import Derived.Test.YtadeflehdfmilaaGreatZk0
import Derived.Handy
import Derived.Test.YtadeflehdfmilaaGreatZk38
import Derived.WalkKit
import Derived.OpenShut
import Derived.ShutString
import Derived.Carry
import Derived.Lib.SmallJoins
namespace Go.Proofs.YtadeflehdfmilaaGreat
open Go.RowKit

theorem bt : BT Tryz.prog 5 58 9 := ⟨Tryz.underlying5, Tryz.underlying58, Tryz.underlying9, by kernel_rfl⟩

theorem next {w w1 w2 : World} (h : Below w.heap.size w w1) (k : Below w1.heap.size w1 w2) : Below w.heap.size w w2 := h.trans (k.mono h.size)
end Go.Proofs.YtadeflehdfmilaaGreat
namespace Go.Proofs.YtadeflehdfmilaaGreat
open Go.ChangeShapes Go.WideShapes Go.ChangeAt Go.RowKit
set_option linter.unusedVariables false
set_option maxRecDepth 100000
section
variable {H : Type} {enc : TypeId × Value → H} {W : World} {base b0 : Nat} {spare : Nat → Bool} {held : Bool} {v : Value} {d : DataW H} {p : List MemPlace}
end
end Go.Proofs.YtadeflehdfmilaaGreat
namespace Go.Proofs.YtadeflehdfmilaaGreat
open Go.RowKit
set_option linter.unusedVariables false

/-- A number made small. -/
def pick (i n : Int) : Int := if n < 1 then 0 else if i.tmod n < 0 then i.tmod n + n else i.tmod n
theorem pick_range {i n : Int} (h : 1 ≤ n) : 0 ≤ pick i n ∧ pick i n < n := by
  unfold pick
  rw [if_neg (by omega)]
  have h1 := Int.lt_tmod_of_pos i (show 0 < n by omega)
  have h2 := Int.tmod_lt_of_pos i (show 0 < n by omega)
  split <;> omega
set_option maxHeartbeats 400000 in
theorem Pick_any (i n : Int) (w : World) (h : 1 ≤ n) (hn : n ≤ 100000) :
    Calls Tryz.prog 25 #[.int .i64 i, .int .i64 n] w fun e w' => e = .returned (.int .i64 (pick i n)) ∧ w = w' := by
  have h1 := Int.lt_tmod_of_pos i (show 0 < n by omega)
  have h2 := Int.tmod_lt_of_pos i (show 0 < n by omega)
  have h0 : ¬ n < 1 := by omega
  by_cases hneg : i.tmod n < 0
  · have HP := Lib.hid (show pick i n = i.tmod n + n by unfold pick; rw [if_neg h0, if_pos hneg])
    go_enter Tryz.func25, Tryz.ntmps25
    go_wp2
    go_ret
    exact ⟨by rw [HP.out]; rfl, rfl⟩
  · have HP := Lib.hid (show pick i n = i.tmod n by unfold pick; rw [if_neg h0, if_neg hneg])
    go_enter Tryz.func25, Tryz.ntmps25
    go_wp2
    go_ret
    exact ⟨by rw [HP.out]; rfl, rfl⟩
end Go.Proofs.YtadeflehdfmilaaGreat
