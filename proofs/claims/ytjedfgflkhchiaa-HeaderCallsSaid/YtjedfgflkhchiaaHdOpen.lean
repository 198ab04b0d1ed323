/-
  An argument that is a message's header, opened. No condition.
-/
import Derived.Test.YtjedfgflkhchiaaHdMath
import Derived.Test.YtjedfgflkhchiaaBt
import Derived.WalkKit
import Derived.OpenShut
import Derived.ShutString
import Derived.Carry
import Derived.Lib.SmallJoins
namespace Go.Proofs.Ytjedfgflkhchiaa
open Go.ChangeShapes Go.WideShapes Go.ChangeAt Go.RowKit
set_option linter.unusedVariables false
section
variable {H : Type} {enc : TypeId × Value → H} {W : World} {base b0 : Nat} {spare : Nat → Bool} {held : Bool} {v : Value} {d : DataW H} {p : List MemPlace}
theorem list14 {α : Type} {l : List α} (h : l.length = 14) : ∃ c0 c1 c2 c3 c4 c5 c6 c7 c8 c9 c10 c11 c12 c13, l = [c0, c1, c2, c3, c4, c5, c6, c7, c8, c9, c10, c11, c12, c13] := by
  match l, h with
  | [c0, c1, c2, c3, c4, c5, c6, c7, c8, c9, c10, c11, c12, c13], _ => exact ⟨c0, c1, c2, c3, c4, c5, c6, c7, c8, c9, c10, c11, c12, c13, rfl⟩
theorem list11 {α : Type} {l : List α} (h : l.length = 11) : ∃ c0 c1 c2 c3 c4 c5 c6 c7 c8 c9 c10, l = [c0, c1, c2, c3, c4, c5, c6, c7, c8, c9, c10] := by
  match l, h with
  | [c0, c1, c2, c3, c4, c5, c6, c7, c8, c9, c10], _ => exact ⟨c0, c1, c2, c3, c4, c5, c6, c7, c8, c9, c10, rfl⟩
theorem list4 {α : Type} {l : List α} (h : l.length = 4) : ∃ c0 c1 c2 c3, l = [c0, c1, c2, c3] := by
  match l, h with
  | [c0, c1, c2, c3], _ => exact ⟨c0, c1, c2, c3, rfl⟩
set_option maxHeartbeats 1000000 in
theorem open_header (hok : Value.okWide Try.prog W .any base 26 v) (h : DataW.Trod enc Try.prog W b0 spare held 26 v d p) : ∃ a : Hd, v = hv a ∧ a.fits := by
  obtain ⟨cs, rfl, hsz⟩ := okWide_struct Try.underlying26 hok
  have hC : Try.prog.cellsOf 26 = 14 := by kernel_rfl
  have u1 : Try.prog.cellsOf 23 = 1 := by kernel_rfl
  have u2 : Try.prog.cellsOf 4 = 1 := by kernel_rfl
  have u3 : Try.prog.cellsOf 3 = 1 := by kernel_rfl
  have u4 : Try.prog.cellsOf 24 = 4 := by kernel_rfl
  rw [hC] at hsz
  obtain ⟨l⟩ := cs
  obtain ⟨c0, c1, c2, c3, c4, c5, c6, c7, c8, c9, c10, c11, c12, c13, rfl⟩ := list14 (l := l) hsz
  obtain ⟨fuel, hf⟩ := h
  obtain ⟨xs, n, _, hx, hl, hlen, hfl⟩ := DataW.trod_struct Try.underlying26 hf
  obtain ⟨x0, x1, x2, x3, x4, x5, x6, x7, x8, x9, x10, rfl⟩ := list11 (l := xs) hlen
  have g0 : DataW.trod enc Try.prog W b0 spare held n 23 [c0] = some x0 := by simpa [Value.cells, u1] using hfl 0 _ rfl
  have g1 : DataW.trod enc Try.prog W b0 spare held n 4 [c1] = some x1 := by simpa [Value.cells, u2] using hfl 1 _ rfl
  have g2 : DataW.trod enc Try.prog W b0 spare held n 3 [c2] = some x2 := by simpa [Value.cells, u3] using hfl 2 _ rfl
  have g3 : DataW.trod enc Try.prog W b0 spare held n 4 [c3] = some x3 := by simpa [Value.cells, u2] using hfl 3 _ rfl
  have g4 : DataW.trod enc Try.prog W b0 spare held n 4 [c4] = some x4 := by simpa [Value.cells, u2] using hfl 4 _ rfl
  have g5 : DataW.trod enc Try.prog W b0 spare held n 4 [c5] = some x5 := by simpa [Value.cells, u2] using hfl 5 _ rfl
  have g6 : DataW.trod enc Try.prog W b0 spare held n 4 [c6] = some x6 := by simpa [Value.cells, u2] using hfl 6 _ rfl
  have g7 : DataW.trod enc Try.prog W b0 spare held n 4 [c7] = some x7 := by simpa [Value.cells, u2] using hfl 7 _ rfl
  have g8 : DataW.trod enc Try.prog W b0 spare held n 4 [c8] = some x8 := by simpa [Value.cells, u2] using hfl 8 _ rfl
  have g9 : DataW.trod enc Try.prog W b0 spare held n 3 [c9] = some x9 := by simpa [Value.cells, u3] using hfl 9 _ rfl
  have g10 : DataW.trod enc Try.prog W b0 spare held n 24 [c10, c11, c12, c13] = some x10 := by simpa [Value.cells, u4] using hfl 10 _ rfl
  obtain ⟨b0_1, e0, _, w0⟩ := DataW.trod_int Try.underlying23 g0
  obtain ⟨b1, e1, _⟩ := DataW.trod_bool Try.underlying4 g1
  obtain ⟨b2, e2, _, w2⟩ := DataW.trod_int Try.underlying3 g2
  obtain ⟨b3, e3, _⟩ := DataW.trod_bool Try.underlying4 g3
  obtain ⟨b4, e4, _⟩ := DataW.trod_bool Try.underlying4 g4
  obtain ⟨b5, e5, _⟩ := DataW.trod_bool Try.underlying4 g5
  obtain ⟨b6, e6, _⟩ := DataW.trod_bool Try.underlying4 g6
  obtain ⟨b7, e7, _⟩ := DataW.trod_bool Try.underlying4 g7
  obtain ⟨b8, e8, _⟩ := DataW.trod_bool Try.underlying4 g8
  obtain ⟨b9, e9, _, w9⟩ := DataW.trod_int Try.underlying3 g9
  obtain ⟨ys, m, _, _, _, hyl, hel⟩ := DataW.trod_array Try.underlying24 g10
  obtain ⟨y0, y1, y2, y3, rfl⟩ := list4 (l := ys) hyl
  have k0 : DataW.trod enc Try.prog W b0 spare held m 3 [c10] = some y0 := by simpa [u3] using hel 0 (by omega)
  have k1 : DataW.trod enc Try.prog W b0 spare held m 3 [c11] = some y1 := by simpa [u3] using hel 1 (by omega)
  have k2 : DataW.trod enc Try.prog W b0 spare held m 3 [c12] = some y2 := by simpa [u3] using hel 2 (by omega)
  have k3 : DataW.trod enc Try.prog W b0 spare held m 3 [c13] = some y3 := by simpa [u3] using hel 3 (by omega)
  obtain ⟨q0, f0, _, v0⟩ := DataW.trod_int Try.underlying3 k0
  obtain ⟨q1, f1, _, v1⟩ := DataW.trod_int Try.underlying3 k1
  obtain ⟨q2, f2, _, v2⟩ := DataW.trod_int Try.underlying3 k2
  obtain ⟨q3, f3, _, v3⟩ := DataW.trod_int Try.underlying3 k3
  simp only [List.cons.injEq, and_true] at e0 e1 e2 e3 e4 e5 e6 e7 e8 e9 f0 f1 f2 f3
  subst e0 e1 e2 e3 e4 e5 e6 e7 e8 e9 f0 f1 f2 f3
  have r0 := bounds_u16 w0
  obtain ⟨i, rfl⟩ : ∃ n : Nat, b0_1 = n := ⟨b0_1.toNat, by omega⟩
  exact ⟨⟨i, b1, b2, b3, b4, b5, b6, b7, b8, b9, q0, q1, q2, q3⟩, rfl, ⟨by show i < 65536; omega, bounds_i64 w2, bounds_i64 w9, bounds_i64 v0, bounds_i64 v1, bounds_i64 v2, bounds_i64 v3⟩⟩
end
end Go.Proofs.Ytjedfgflkhchiaa
