/-
  strings.Clone hands back the string that it was given: the library's contract, applied at this program. Condition: the string is below 2^40 octets long.
-/
import Derived.Test.YtkjekibbacdbaaaKit
import Derived.Test.YtkjekibbacdbaaaBt
import Derived.Shelf.Pu.Clone
namespace Go.Proofs.Ytkjekibbacdbaaa
open Go.RowKit
set_option linter.unusedVariables false

/-- The library's numbers, and this program's. -/
def clRen : Go.Shelf.Ren := ⟨fun x => if x = 25 then 28 else x, fun x => if x = 0 then 0 else if x = 3 then 3 else if x = 4 then 4 else if x = 5 then 5 else if x = 9 then 9 else if x = 37 then 56 else if x = 47 then 64 else x, fun x => x⟩
theorem clLays : LaysPu.n25 Try.prog clRen where
  mixed := by kernel_rfl
  f25 := by kernel_rfl
  t0 := Try.underlying0
  a0 := Try.isAgg0
  z0 := Try.sizeOf0
  v0 := Try.zeroValue0
  i0 := by kernel_rfl
  t3 := Try.underlying3
  a3 := Try.isAgg3
  z3 := Try.sizeOf3
  v3 := Try.zeroValue3
  i3 := by kernel_rfl
  t4 := Try.underlying4
  a4 := Try.isAgg4
  z4 := Try.sizeOf4
  v4 := Try.zeroValue4
  i4 := by kernel_rfl
  t5 := Try.underlying5
  a5 := Try.isAgg5
  z5 := Try.sizeOf5
  v5 := Try.zeroValue5
  i5 := by kernel_rfl
  t9 := Try.underlying9
  a9 := Try.isAgg9
  z9 := Try.sizeOf9
  v9 := Try.zeroValue9
  i9 := by kernel_rfl
  t37 := Try.underlying56
  a37 := Try.isAgg56
  z37 := Try.sizeOf56
  v37 := Try.zeroValue56
  i37 := by kernel_rfl
  t47 := Try.underlying64
  a47 := Try.isAgg64
  z47 := Try.sizeOf64
  v47 := Try.zeroValue64
  i47 := by kernel_rfl

theorem slClone_any (s : ByteArray) (w : World) (hs : s.size ≤ 1099511627776) :
    Calls Try.prog 28 #[.string s] w fun e w' => e = .returned (.string s) ∧ Below w.heap.size w w' :=
  AnyPu.stringslite_Clone clLays s w (by omega)
theorem Clone_any (s : ByteArray) (w : World) (hs : s.size ≤ 1099511627776) :
    Calls Try.prog 21 #[.string s] w fun e w' => e = .returned (.string s) ∧ Below w.heap.size w w' := by
  have H := Lib.hid (fun wx => slClone_any s wx hs)
  go_enter Try.func21, Try.ntmps21
  go_wp2_with (go_at_call 28; refine (H.out _).mono ?_; rintro e w' ⟨rfl, hb⟩; have HB := Lib.hid hb; clear hb)
  go_ret
  exact ⟨rfl, HB.out⟩
end Go.Proofs.Ytkjekibbacdbaaa
