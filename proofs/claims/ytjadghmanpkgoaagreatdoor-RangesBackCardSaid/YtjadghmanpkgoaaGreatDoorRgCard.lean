/-
  An argument that is a range, opened. No condition.
-/
import Derived.Test.YtjadghmanpkgoaaGreatDoorAdCard
import Derived.Test.YtjadghmanpkgoaaGreatDoorRgDef
namespace Go.Proofs.YtjadghmanpkgoaaGreatDoor
open Go.ChangeShapes Go.WideShapes Go.ChangeAt Go.RowKit
set_option linter.unusedVariables false
set_option maxRecDepth 100000
section
variable {H : Type} {enc : TypeId × Value → H} {W : World} {base b0 : Nat} {spare : Nat → Bool} {held : Bool} {v : Value} {d : DataW H} {p : List MemPlace}
theorem listR4 {α : Type} {l : List α} (h : l.length = 4) : ∃ c0 c1 c2 c3, l = [c0, c1, c2, c3] := by
  match l, h with
  | [c0, c1, c2, c3], _ => exact ⟨c0, c1, c2, c3, rfl⟩
theorem listR3 {α : Type} {l : List α} (h : l.length = 3) : ∃ c0 c1 c2, l = [c0, c1, c2] := by
  match l, h with
  | [c0, c1, c2], _ => exact ⟨c0, c1, c2, rfl⟩
theorem listR2 {α : Type} {l : List α} (h : l.length = 2) : ∃ c0 c1, l = [c0, c1] := by
  match l, h with
  | [c0, c1], _ => exact ⟨c0, c1, rfl⟩
set_option maxHeartbeats 1000000 in
theorem open_range (hok : Value.okWide Tryz.prog W .any base 49 v) (h : DataW.Trod enc Tryz.prog W b0 spare held 49 v d p) :
    ∃ (six : Bool) (hi lo : Nat) (n : Int), v = .agg #[.bool six, .int .u64 (hi : Int), .int .u64 (lo : Int), .int .i64 n] ∧ hi < 18446744073709551616 ∧ lo < 18446744073709551616 ∧ (Lit.int IntKind.i64 n).wf = true := by
  obtain ⟨cs, rfl, hsz⟩ := okWide_struct Tryz.underlying49 hok
  have hC : Tryz.prog.cellsOf 49 = 4 := by kernel_rfl
  have u0 : Tryz.prog.cellsOf 24 = 3 := by kernel_rfl
  have u1 : Tryz.prog.cellsOf 22 = 1 := by kernel_rfl
  have u2 : Tryz.prog.cellsOf 4 = 1 := by kernel_rfl
  have u3 : Tryz.prog.cellsOf 3 = 1 := by kernel_rfl
  rw [hC] at hsz
  obtain ⟨l⟩ := cs
  obtain ⟨c0, c1, c2, c3, rfl⟩ := listR4 (l := l) hsz
  obtain ⟨fuel, hf⟩ := h
  obtain ⟨xs, n, _, hx, hl, hlen, hfl⟩ := DataW.trod_struct Tryz.underlying49 hf
  obtain ⟨x0, x1, rfl⟩ := listR2 (l := xs) hlen
  have g0 : DataW.trod enc Tryz.prog W b0 spare held n 24 [c0, c1, c2] = some x0 := by simpa [Value.cells, u0] using hfl 0 _ rfl
  have g3 : DataW.trod enc Tryz.prog W b0 spare held n 3 [c3] = some x1 := by simpa [Value.cells, u3] using hfl 1 _ rfl
  obtain ⟨ys, m, _, _, _, hlen2, hfl2⟩ := DataW.trod_struct Tryz.underlying24 g0
  obtain ⟨y0, y1, y2, rfl⟩ := listR3 (l := ys) hlen2
  have k0 : DataW.trod enc Tryz.prog W b0 spare held m 4 [c0] = some y0 := by simpa [Value.cells, u2] using hfl2 0 _ rfl
  have k1 : DataW.trod enc Tryz.prog W b0 spare held m 22 [c1] = some y1 := by simpa [Value.cells, u1] using hfl2 1 _ rfl
  have k2 : DataW.trod enc Tryz.prog W b0 spare held m 22 [c2] = some y2 := by simpa [Value.cells, u1] using hfl2 2 _ rfl
  obtain ⟨s, e0, _⟩ := DataW.trod_bool Tryz.underlying4 k0
  obtain ⟨z1, e1, _, w1⟩ := DataW.trod_int Tryz.underlying22 k1
  obtain ⟨z2, e2, _, w2⟩ := DataW.trod_int Tryz.underlying22 k2
  obtain ⟨z3, e3, _, w3⟩ := DataW.trod_int Tryz.underlying3 g3
  simp only [List.cons.injEq, and_true] at e0 e1 e2 e3
  subst e0 e1 e2 e3
  have r1 := u64_range w1
  have r2 := u64_range w2
  obtain ⟨hi, rfl⟩ : ∃ n : Nat, z1 = n := ⟨z1.toNat, by omega⟩
  obtain ⟨lo, rfl⟩ : ∃ n : Nat, z2 = n := ⟨z2.toNat, by omega⟩
  exact ⟨s, hi, lo, z3, rfl, by omega, by omega, w3⟩
end
end Go.Proofs.YtjadghmanpkgoaaGreatDoor
