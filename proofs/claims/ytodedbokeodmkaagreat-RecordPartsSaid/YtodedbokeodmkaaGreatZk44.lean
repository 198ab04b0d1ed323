/-
  An argument that is a record's data, opened. Condition: no slice of it is longer than a machine's memory (the form's own reach). Arguments that are records, questions, opened. Condition: no slice of them is longer than a machine's memory (the form's own reach).
-/
import Derived.Test.YtodedbokeodmkaaGreatZk41
import Derived.Test.YtodedbokeodmkaaGreatZk42
import Derived.WalkKit
import Derived.OpenShut
import Derived.ShutString
import Derived.SliceStrings
import Derived.SizedLaws
import Derived.Carry
import Derived.Test.YtodedbokeodmkaaGreatZk43
import Derived.Lib.SmallJoins
namespace Go.Proofs.YtodedbokeodmkaaGreat
open Go.ChangeShapes Go.WideShapes Go.ChangeAt Go.RowKit
set_option linter.unusedVariables false
set_option maxRecDepth 100000

section
variable {H : Type} {enc : TypeId × Value → H} {W : World} {base b0 : Nat} {held : Bool} {v : Value} {d : DataW H} {p : List MemPlace}
theorem listc6 {α : Type} {l : List α} (h : l.length = 6) : ∃ c0 c1 c2 c3 c4 c5, l = [c0, c1, c2, c3, c4, c5] := by
  match l, h with
  | [c0, c1, c2, c3, c4, c5], _ => exact ⟨c0, c1, c2, c3, c4, c5, rfl⟩
theorem listc5 {α : Type} {l : List α} (h : l.length = 5) : ∃ c0 c1 c2 c3 c4, l = [c0, c1, c2, c3, c4] := by
  match l, h with
  | [c0, c1, c2, c3, c4], _ => exact ⟨c0, c1, c2, c3, c4, rfl⟩
theorem listc3 {α : Type} {l : List α} (h : l.length = 3) : ∃ c0 c1 c2, l = [c0, c1, c2] := by
  match l, h with
  | [c0, c1, c2], _ => exact ⟨c0, c1, c2, rfl⟩
end
end Go.Proofs.YtodedbokeodmkaaGreat
namespace Go.Proofs.YtodedbokeodmkaaGreat
open Go.ChangeShapes Go.WideShapes Go.ChangeAt Go.RowKit
set_option linter.unusedVariables false
set_option maxRecDepth 100000

section
variable {H : Type} {enc : TypeId × Value → H} {W : World} {base b0 : Nat} {held : Bool} {v : Value} {d : DataW H} {p : List MemPlace}
theorem cell_lies {W : World} {a : Addr} {v : Value} (h : W.cell? a = some v) : a.spot = none ∧ a.block < W.heap.size := by
  unfold World.cell? at h
  have hlt : a.block < W.heap.size := by
    rcases Nat.lt_or_ge a.block W.heap.size with hl | hg
    · exact hl
    · rw [Array.getElem?_eq_none hg] at h; cases h
  refine ⟨?_, hlt⟩
  split at h
  · by_cases hs : a.spot.isSome
    · rw [if_pos hs] at h; cases h
    · simpa using hs
  · cases h
set_option maxHeartbeats 2000000 in
theorem data_core {c0 c1 c2 c3 c4 c5 c6 c7 c8 c9 c10 c11 : Value} {N : Nat} {xd : DataW H × List MemPlace} (hg : DataW.trod enc Tryz.prog W b0 (fun _ => true) held N 30 [c0, c1, c2, c3, c4, c5, c6, c7, c8, c9, c10, c11] = some xd)
    (hz : ∀ n ∈ xd.1.weights Tryz.prog 30, n ≤ reachBytes) : ∃ (a : MD) (tv : Value), [c0, c1, c2, c3, c4, c5, c6, c7, c8, c9, c10, c11] = (cellsD a tv).toList ∧ Fit W a tv := by
  have u1 : Tryz.prog.cellsOf 24 = 1 := by kernel_rfl
  have u2 : Tryz.prog.cellsOf 4 = 1 := by kernel_rfl
  have u3 : Tryz.prog.cellsOf 23 = 1 := by kernel_rfl
  have u4 : Tryz.prog.cellsOf 27 = 5 := by kernel_rfl
  have u5 : Tryz.prog.cellsOf 22 = 1 := by kernel_rfl
  have u6 : Tryz.prog.cellsOf 9 = 1 := by kernel_rfl
  have u7 : Tryz.prog.cellsOf 28 = 1 := by kernel_rfl
  have u8 : Tryz.prog.cellsOf 26 = 3 := by kernel_rfl
  have ub : Tryz.prog.bytesOf 9 = 16 := by kernel_rfl
  obtain ⟨xs, n, _, hx, hl, hlen, hfl⟩ := DataW.trod_struct Tryz.underlying30 hg
  obtain ⟨x0, x1, x2, x3, x4, x5, rfl⟩ := listc6 (l := xs) hlen
  have g0 : DataW.trod enc Tryz.prog W b0 (fun _ => true) held n 26 [c0, c1, c2] = some x0 := by simpa [Value.cells, u8] using hfl 0 _ rfl
  have g1 : DataW.trod enc Tryz.prog W b0 (fun _ => true) held n 22 [c3] = some x1 := by simpa [Value.cells, u5] using hfl 1 _ rfl
  have g2 : DataW.trod enc Tryz.prog W b0 (fun _ => true) held n 22 [c4] = some x2 := by simpa [Value.cells, u5] using hfl 2 _ rfl
  have g3 : DataW.trod enc Tryz.prog W b0 (fun _ => true) held n 27 [c5, c6, c7, c8, c9] = some x3 := by simpa [Value.cells, u4] using hfl 3 _ rfl
  have g4 : DataW.trod enc Tryz.prog W b0 (fun _ => true) held n 28 [c10] = some x4 := by simpa [Value.cells, u7] using hfl 4 _ rfl
  have g5 : DataW.trod enc Tryz.prog W b0 (fun _ => true) held n 9 [c11] = some x5 := by simpa [Value.cells, u6] using hfl 5 _ rfl
  obtain ⟨ays, m, _, hax, _, hal, hafl⟩ := DataW.trod_struct Tryz.underlying26 g0
  obtain ⟨y0, y1, y2, rfl⟩ := listc3 (l := ays) hal
  have a0 : DataW.trod enc Tryz.prog W b0 (fun _ => true) held m 4 [c0] = some y0 := by simpa [u2] using hafl 0 _ rfl
  have a1 : DataW.trod enc Tryz.prog W b0 (fun _ => true) held m 24 [c1] = some y1 := by simpa [u1] using hafl 1 _ rfl
  have a2 : DataW.trod enc Tryz.prog W b0 (fun _ => true) held m 24 [c2] = some y2 := by simpa [u1] using hafl 2 _ rfl
  obtain ⟨six, e0, _⟩ := DataW.trod_bool Tryz.underlying4 a0
  obtain ⟨hi, e1, _, w1⟩ := DataW.trod_int Tryz.underlying24 a1
  obtain ⟨lo, e2, _, w2⟩ := DataW.trod_int Tryz.underlying24 a2
  obtain ⟨nn, e3, _, w3⟩ := DataW.trod_string Tryz.underlying22 g1
  obtain ⟨mm, e4, _, w4⟩ := DataW.trod_string Tryz.underlying22 g2
  obtain ⟨rr, e11, _, w11⟩ := DataW.trod_string Tryz.underlying9 g5
  obtain ⟨zs, k, _, _, _, hzl, hzel⟩ := DataW.trod_array Tryz.underlying27 g3
  obtain ⟨z0, z1, z2, z3, z4, rfl⟩ := listc5 (l := zs) hzl
  have k0 : DataW.trod enc Tryz.prog W b0 (fun _ => true) held k 23 [c5] = some z0 := by simpa [u3] using hzel 0 (by omega)
  have k1 : DataW.trod enc Tryz.prog W b0 (fun _ => true) held k 23 [c6] = some z1 := by simpa [u3] using hzel 1 (by omega)
  have k2 : DataW.trod enc Tryz.prog W b0 (fun _ => true) held k 23 [c7] = some z2 := by simpa [u3] using hzel 2 (by omega)
  have k3 : DataW.trod enc Tryz.prog W b0 (fun _ => true) held k 23 [c8] = some z3 := by simpa [u3] using hzel 3 (by omega)
  have k4 : DataW.trod enc Tryz.prog W b0 (fun _ => true) held k 23 [c9] = some z4 := by simpa [u3] using hzel 4 (by omega)
  obtain ⟨v0, f0, _, q0⟩ := DataW.trod_int Tryz.underlying23 k0
  obtain ⟨v1, f1, _, q1⟩ := DataW.trod_int Tryz.underlying23 k1
  obtain ⟨v2, f2, _, q2⟩ := DataW.trod_int Tryz.underlying23 k2
  obtain ⟨v3, f3, _, q3⟩ := DataW.trod_int Tryz.underlying23 k3
  obtain ⟨v4, f4, _, q4⟩ := DataW.trod_int Tryz.underlying23 k4
  simp only [List.cons.injEq, and_true] at e0 e1 e2 e3 e4 e11 f0 f1 f2 f3 f4
  subst e0 e1 e2 e3 e4 e11 f0 f1 f2 f3 f4
  have b1 := bounds_u64 w1
  have b2 := bounds_u64 w2
  have d0 := bounds_u32 q0
  have d1 := bounds_u32 q1
  have d2 := bounds_u32 q2
  have d3 := bounds_u32 q3
  have d4 := bounds_u32 q4
  obtain ⟨hi, rfl⟩ : ∃ n : Nat, hi = n := ⟨hi.toNat, by omega⟩
  obtain ⟨lo, rfl⟩ : ∃ n : Nat, lo = n := ⟨lo.toNat, by omega⟩
  obtain ⟨v0, rfl⟩ : ∃ n : Nat, v0 = n := ⟨v0.toNat, by omega⟩
  obtain ⟨v1, rfl⟩ : ∃ n : Nat, v1 = n := ⟨v1.toNat, by omega⟩
  obtain ⟨v2, rfl⟩ : ∃ n : Nat, v2 = n := ⟨v2.toNat, by omega⟩
  obtain ⟨v3, rfl⟩ : ∃ n : Nat, v3 = n := ⟨v3.toNat, by omega⟩
  obtain ⟨v4, rfl⟩ : ∃ n : Nat, v4 = n := ⟨v4.toNat, by omega⟩
  have fin : ∀ L : List ByteArray, SRow W c10 L → (∀ x ∈ L, x.size ≤ maxLen) → L.length ≤ 17592186044416 → ∃ (a : MD) (tv : Value), [Value.bool six, .int .u64 (hi : Int), .int .u64 (lo : Int), .string nn, .string mm, .int .u32 (v0 : Int), .int .u32 (v1 : Int), .int .u32 (v2 : Int), .int .u32 (v3 : Int), .int .u32 (v4 : Int), c10, .string rr] = (cellsD a tv).toList ∧ Fit W a tv := fun L h1 h2 h3 =>
    ⟨⟨six, hi, lo, nn, mm, v0, v1, v2, v3, v4, L, rr⟩, c10, rfl, ⟨h1, w3, w4, w11, h2, h3, by show hi < _; omega, by show lo < _; omega, by show v0 < _; omega, by show v1 < _; omega, by show v2 < _; omega, by show v3 < _; omega, by show v4 < _; omega⟩⟩
  rcases open_strings Tryz.underlying28 Tryz.underlying9 u6 g4 with ⟨hcs, _⟩ | ⟨a, len, cap, ss, hcs, _, hle, hm, hss, hx4, hcell, hws⟩
  · simp only [List.cons.injEq, and_true] at hcs
    exact fin [] (.inl ⟨_, hcs, rfl⟩) (fun x hx => absurd hx List.not_mem_nil) (Nat.zero_le _)
  · simp only [List.cons.injEq, and_true] at hcs
    subst hcs
    simp only [if_true] at hss
    rcases Nat.eq_zero_or_pos cap with rfl | hcp
    · obtain rfl := Nat.le_zero.1 hle
      exact fin [] (.inl ⟨_, rfl, rfl⟩) (fun x hx => absurd hx List.not_mem_nil) (Nat.zero_le _)
    obtain ⟨hsp, hlt⟩ := cell_lies (show W.cell? a = _ from hcell 0 (by omega))
    obtain ⟨g, o, spot⟩ := a
    simp only at hsp hlt
    subst hsp
    have hlen : (ss.take len).length = len := by rw [List.length_take, hss]; omega
    have hreach : ss.length * 16 ≤ reachBytes := by
      have hd : xd.1 = .agg ([x0, x1, x2, x3, x4, x5].map (·.1)) := by have := congrArg Prod.fst hx; exact this
      refine hz _ ?_
      rw [hd, hx4]
      simp [DataW.weights, DataW.weightsEach, Tryz.underlying30, Tryz.underlying28, ub]
      refine Or.inr (Or.inr (Or.inr (Or.inr (Or.inl ?_))))
      have hst : ∀ l : List ByteArray, (strs (H := H) l).length = l.length := fun l => by simp [strs]
      rw [hst, hst, List.length_take, List.length_drop]
      have : min len ss.length + (ss.length - len) = ss.length := by omega
      rw [this]
    refine fin (ss.take len) (.inr ⟨g, o, cap, by rw [hlen], hlt, by omega, hm, fun j hj => ?_⟩) (fun x hx => hws x (List.mem_of_mem_take hx)) (by rw [hlen]; unfold reachBytes at hreach; omega)
    rw [hlen] at hj
    have hjs : j < ss.length := by omega
    have e : (⟨g, o, none⟩ : Addr).add j = ⟨g, o + j, none⟩ := by unfold Addr.add; split <;> simp_all
    rw [← e, hcell j hjs]
    simp [List.getD_eq_getElem?_getD, List.getElem?_eq_getElem hjs]
theorem listc16 {α : Type} {l : List α} (h : l.length = 16) : ∃ c0 c1 c2 c3 c4 c5 c6 c7 c8 c9 c10 c11 c12 c13 c14 c15, l = [c0, c1, c2, c3, c4, c5, c6, c7, c8, c9, c10, c11, c12, c13, c14, c15] := by
  match l, h with
  | [c0, c1, c2, c3, c4, c5, c6, c7, c8, c9, c10, c11, c12, c13, c14, c15], _ => exact ⟨c0, c1, c2, c3, c4, c5, c6, c7, c8, c9, c10, c11, c12, c13, c14, c15, rfl⟩
set_option maxHeartbeats 2000000 in
/-- A record's cells. -/
theorem rec_core {c0 c1 c2 c3 c4 c5 c6 c7 c8 c9 c10 c11 c12 c13 c14 c15 : Value} {N : Nat} {xd : DataW H × List MemPlace} (hg : DataW.trod enc Tryz.prog W b0 (fun _ => true) held N 32 [c0, c1, c2, c3, c4, c5, c6, c7, c8, c9, c10, c11, c12, c13, c14, c15] = some xd)
    (hz : ∀ n ∈ xd.1.weights Tryz.prog 32, n ≤ reachBytes) : ∃ (r : MR) (tv : Value), [c0, c1, c2, c3, c4, c5, c6, c7, c8, c9, c10, c11, c12, c13, c14, c15] = (cellsR r tv).toList ∧ FitR W r tv := by
  have u3 : Tryz.prog.cellsOf 23 = 1 := by kernel_rfl
  have u5 : Tryz.prog.cellsOf 22 = 1 := by kernel_rfl
  have u9 : Tryz.prog.cellsOf 3 = 1 := by kernel_rfl
  have uD : Tryz.prog.cellsOf 30 = 12 := by kernel_rfl
  obtain ⟨xs, n, _, hx, hl, hlen, hfl⟩ := DataW.trod_struct Tryz.underlying32 hg
  obtain ⟨x0, x1, x2, x3, x4, rfl⟩ := listc5 (l := xs) hlen
  have g0 : DataW.trod enc Tryz.prog W b0 (fun _ => true) held n 22 [c0] = some x0 := by simpa [Value.cells, u5] using hfl 0 _ rfl
  have g1 : DataW.trod enc Tryz.prog W b0 (fun _ => true) held n 3 [c1] = some x1 := by simpa [Value.cells, u9] using hfl 1 _ rfl
  have g2 : DataW.trod enc Tryz.prog W b0 (fun _ => true) held n 3 [c2] = some x2 := by simpa [Value.cells, u9] using hfl 2 _ rfl
  have g3 : DataW.trod enc Tryz.prog W b0 (fun _ => true) held n 23 [c3] = some x3 := by simpa [Value.cells, u3] using hfl 3 _ rfl
  have g4 : DataW.trod enc Tryz.prog W b0 (fun _ => true) held n 30 [c4, c5, c6, c7, c8, c9, c10, c11, c12, c13, c14, c15] = some x4 := by simpa [Value.cells, uD] using hfl 4 _ rfl
  obtain ⟨nn, e0, _, w0⟩ := DataW.trod_string Tryz.underlying22 g0
  obtain ⟨t, e1, _, w1⟩ := DataW.trod_int Tryz.underlying3 g1
  obtain ⟨c, e2, _, w2⟩ := DataW.trod_int Tryz.underlying3 g2
  obtain ⟨x, e3, _, w3⟩ := DataW.trod_int Tryz.underlying23 g3
  have b3 := bounds_u32 w3
  obtain ⟨x, rfl⟩ : ∃ n : Nat, x = n := ⟨x.toNat, by omega⟩
  have hd : xd.1 = .agg ([x0, x1, x2, x3, x4].map (·.1)) := by have := congrArg Prod.fst hx; exact this
  obtain ⟨a, tv, e4, fit⟩ := data_core g4 (fun m hm => hz m (by
    rw [hd]
    simp only [DataW.weights, Tryz.underlying32, List.map_cons, List.map_nil]
    simp [DataW.weightsEach, hm]))
  simp only [List.cons.injEq, and_true] at e0 e1 e2 e3
  subst e0 e1 e2 e3
  refine ⟨⟨nn, t, c, x, a⟩, tv, ?_, ⟨w0, by show x < _; omega, fit⟩⟩
  rw [e4]
theorem open_record (hok : Value.okWide Tryz.prog W .any base 32 v) (h : DataW.Trod enc Tryz.prog W b0 (fun _ => true) held 32 v d p) (hz : ∀ n ∈ d.weights Tryz.prog 32, n ≤ reachBytes) : ∃ (r : MR) (tv : Value), v = recV r tv ∧ FitR W r tv := by
  have hok' := hok
  simp only [Value.okWide, Tryz.underlying32] at hok'
  obtain ⟨cs, rfl, hsz, hrow⟩ := hok'
  have hC : Tryz.prog.cellsOf 32 = 16 := by kernel_rfl
  rw [hC] at hsz
  obtain ⟨l⟩ := cs
  obtain ⟨c0, c1, c2, c3, c4, c5, c6, c7, c8, c9, c10, c11, c12, c13, c14, c15, rfl⟩ := listc16 (l := l) hsz
  obtain ⟨fuel, hf⟩ := h
  obtain ⟨r, tv, e, fit⟩ := rec_core hf hz
  exact ⟨r, tv, by rw [e], fit⟩
end
end Go.Proofs.YtodedbokeodmkaaGreat
