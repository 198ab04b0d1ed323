/-
  An argument that is eight groups, opened. No condition.
-/
import Derived.Test.YtjadghmanpkgoaaGreatDoorAdCard
import Derived.Test.YtjadghmanpkgoaaGreatDoorAdGrp
namespace Go.Proofs.YtjadghmanpkgoaaGreatDoor
open Go.ChangeShapes Go.WideShapes Go.ChangeAt Go.RowKit
set_option linter.unusedVariables false
set_option maxRecDepth 100000
section
variable {H : Type} {enc : TypeId × Value → H} {W : World} {base b0 : Nat} {spare : Nat → Bool} {held : Bool} {v : Value} {d : DataW H} {p : List MemPlace}
theorem list8 {α : Type} {l : List α} (h : l.length = 8) : ∃ c0 c1 c2 c3 c4 c5 c6 c7, l = [c0, c1, c2, c3, c4, c5, c6, c7] := by
  match l, h with
  | [c0, c1, c2, c3, c4, c5, c6, c7], _ => exact ⟨c0, c1, c2, c3, c4, c5, c6, c7, rfl⟩
theorem u16_range {z : Int} (h : (Lit.int IntKind.u16 z).wf = true) : 0 ≤ z ∧ z < 65536 := by
  simp only [Lit.wf, Bool.and_eq_true, decide_eq_true_eq] at h
  have h2 : IntKind.u16.min = 0 := by decide
  have h3 : IntKind.u16.max = 65535 := by decide
  omega
theorem okWide_eight (h : Value.okWide Tryz.prog W .any base 41 v) : ∃ cs, v = .agg cs ∧ cs.size = Tryz.prog.cellsOf 41 := by
  simp only [Value.okWide, Tryz.underlying41] at h
  obtain ⟨cs, h1, h2, _⟩ := h
  exact ⟨cs, h1, h2⟩
set_option maxHeartbeats 1000000 in
theorem open_groups (hok : Value.okWide Tryz.prog W .any base 41 v) (h : DataW.Trod enc Tryz.prog W b0 spare held 41 v d p) :
    ∃ G : List Nat, v = gv G ∧ G.length = 8 ∧ ∀ c ∈ G, c < 65536 := by
  obtain ⟨cs, rfl, hsz⟩ := okWide_eight hok
  have hC : Tryz.prog.cellsOf 41 = 8 := by kernel_rfl
  have u1 : Tryz.prog.cellsOf 40 = 1 := by kernel_rfl
  rw [hC] at hsz
  obtain ⟨l⟩ := cs
  obtain ⟨c0, c1, c2, c3, c4, c5, c6, c7, rfl⟩ := list8 (l := l) hsz
  obtain ⟨fuel, hf⟩ := h
  obtain ⟨ys, m, _, _, _, hyl, hel⟩ := DataW.trod_array Tryz.underlying41 hf
  obtain ⟨y0, y1, y2, y3, y4, y5, y6, y7, rfl⟩ := list8 (l := ys) hyl
  have k0 : DataW.trod enc Tryz.prog W b0 spare held m 40 [c0] = some y0 := by simpa [Value.cells, u1] using hel 0 (by omega)
  have k1 : DataW.trod enc Tryz.prog W b0 spare held m 40 [c1] = some y1 := by simpa [Value.cells, u1] using hel 1 (by omega)
  have k2 : DataW.trod enc Tryz.prog W b0 spare held m 40 [c2] = some y2 := by simpa [Value.cells, u1] using hel 2 (by omega)
  have k3 : DataW.trod enc Tryz.prog W b0 spare held m 40 [c3] = some y3 := by simpa [Value.cells, u1] using hel 3 (by omega)
  have k4 : DataW.trod enc Tryz.prog W b0 spare held m 40 [c4] = some y4 := by simpa [Value.cells, u1] using hel 4 (by omega)
  have k5 : DataW.trod enc Tryz.prog W b0 spare held m 40 [c5] = some y5 := by simpa [Value.cells, u1] using hel 5 (by omega)
  have k6 : DataW.trod enc Tryz.prog W b0 spare held m 40 [c6] = some y6 := by simpa [Value.cells, u1] using hel 6 (by omega)
  have k7 : DataW.trod enc Tryz.prog W b0 spare held m 40 [c7] = some y7 := by simpa [Value.cells, u1] using hel 7 (by omega)
  obtain ⟨q0, f0, _, v0⟩ := DataW.trod_int Tryz.underlying40 k0
  obtain ⟨q1, f1, _, v1⟩ := DataW.trod_int Tryz.underlying40 k1
  obtain ⟨q2, f2, _, v2⟩ := DataW.trod_int Tryz.underlying40 k2
  obtain ⟨q3, f3, _, v3⟩ := DataW.trod_int Tryz.underlying40 k3
  obtain ⟨q4, f4, _, v4⟩ := DataW.trod_int Tryz.underlying40 k4
  obtain ⟨q5, f5, _, v5⟩ := DataW.trod_int Tryz.underlying40 k5
  obtain ⟨q6, f6, _, v6⟩ := DataW.trod_int Tryz.underlying40 k6
  obtain ⟨q7, f7, _, v7⟩ := DataW.trod_int Tryz.underlying40 k7
  simp only [List.cons.injEq, and_true] at f0 f1 f2 f3 f4 f5 f6 f7
  subst f0 f1 f2 f3 f4 f5 f6 f7
  have r0 := u16_range v0
  have r1 := u16_range v1
  have r2 := u16_range v2
  have r3 := u16_range v3
  have r4 := u16_range v4
  have r5 := u16_range v5
  have r6 := u16_range v6
  have r7 := u16_range v7
  have nat : ∀ z : Int, 0 ≤ z ∧ z < 65536 → ∃ n : Nat, z = n ∧ n < 65536 := fun z hz => ⟨z.toNat, by omega, by omega⟩
  obtain ⟨n0, rfl, z0⟩ := nat _ r0
  obtain ⟨n1, rfl, z1⟩ := nat _ r1
  obtain ⟨n2, rfl, z2⟩ := nat _ r2
  obtain ⟨n3, rfl, z3⟩ := nat _ r3
  obtain ⟨n4, rfl, z4⟩ := nat _ r4
  obtain ⟨n5, rfl, z5⟩ := nat _ r5
  obtain ⟨n6, rfl, z6⟩ := nat _ r6
  obtain ⟨n7, rfl, z7⟩ := nat _ r7
  refine ⟨[n0, n1, n2, n3, n4, n5, n6, n7], rfl, rfl, fun c hc => ?_⟩
  simp only [List.mem_cons, List.not_mem_nil, or_false] at hc
  rcases hc with rfl | rfl | rfl | rfl | rfl | rfl | rfl | rfl <;> assumption
end
end Go.Proofs.YtjadghmanpkgoaaGreatDoor
