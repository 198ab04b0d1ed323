/-
  An argument that is a message, opened. Condition: no slice of it is longer than a machine's memory (the form's own reach).
-/
import Derived.Test.YtdpgcgaalamgkaaGreatZk30
import Derived.Test.YtdpgcgaalamgkaaGreatZk24
import Derived.Lib.SmallJoins
namespace Go.Proofs.YtdpgcgaalamgkaaGreat
open Go.ChangeShapes Go.WideShapes Go.ChangeAt Go.RowKit Go.Deep
set_option linter.unusedVariables false
set_option maxRecDepth 100000

section
variable {H : Type} {enc : TypeId × Value → H} {W : World} {base b0 : Nat} {held : Bool} {v : Value} {d : DataW H} {p : List MemPlace}
set_option maxHeartbeats 2000000 in
theorem header_core {c0 c1 c2 c3 c4 c5 c6 c7 c8 c9 c10 c11 c12 c13 : Value} {N : Nat} {xd : DataW H × List MemPlace} {spare : Nat → Bool} (hg : DataW.trod enc Tryz.prog W b0 spare held N 50 [c0, c1, c2, c3, c4, c5, c6, c7, c8, c9, c10, c11, c12, c13] = some xd) :
    ∃ a : Hd, [c0, c1, c2, c3, c4, c5, c6, c7, c8, c9, c10, c11, c12, c13] = [.int .u16 a.id, .bool a.re, .int .i64 a.op, .bool a.aa, .bool a.tc, .bool a.rd, .bool a.ra, .bool a.ad, .bool a.cd, .int .i64 a.rc, .int .i64 a.n0, .int .i64 a.n1, .int .i64 a.n2, .int .i64 a.n3] ∧ a.fits := by
  have u1 : Tryz.prog.cellsOf 47 = 1 := by kernel_rfl
  have u2 : Tryz.prog.cellsOf 4 = 1 := by kernel_rfl
  have u3 : Tryz.prog.cellsOf 3 = 1 := by kernel_rfl
  have u4 : Tryz.prog.cellsOf 48 = 4 := by kernel_rfl
  obtain ⟨xs, n, _, hx, hl, hlen, hfl⟩ := DataW.trod_struct Tryz.underlying50 hg
  obtain ⟨x0, x1, x2, x3, x4, x5, x6, x7, x8, x9, x10, rfl⟩ := list11 (l := xs) hlen
  have g0 : DataW.trod enc Tryz.prog W b0 spare held n 47 [c0] = some x0 := by simpa [Value.cells, u1] using hfl 0 _ rfl
  have g1 : DataW.trod enc Tryz.prog W b0 spare held n 4 [c1] = some x1 := by simpa [Value.cells, u2] using hfl 1 _ rfl
  have g2 : DataW.trod enc Tryz.prog W b0 spare held n 3 [c2] = some x2 := by simpa [Value.cells, u3] using hfl 2 _ rfl
  have g3 : DataW.trod enc Tryz.prog W b0 spare held n 4 [c3] = some x3 := by simpa [Value.cells, u2] using hfl 3 _ rfl
  have g4 : DataW.trod enc Tryz.prog W b0 spare held n 4 [c4] = some x4 := by simpa [Value.cells, u2] using hfl 4 _ rfl
  have g5 : DataW.trod enc Tryz.prog W b0 spare held n 4 [c5] = some x5 := by simpa [Value.cells, u2] using hfl 5 _ rfl
  have g6 : DataW.trod enc Tryz.prog W b0 spare held n 4 [c6] = some x6 := by simpa [Value.cells, u2] using hfl 6 _ rfl
  have g7 : DataW.trod enc Tryz.prog W b0 spare held n 4 [c7] = some x7 := by simpa [Value.cells, u2] using hfl 7 _ rfl
  have g8 : DataW.trod enc Tryz.prog W b0 spare held n 4 [c8] = some x8 := by simpa [Value.cells, u2] using hfl 8 _ rfl
  have g9 : DataW.trod enc Tryz.prog W b0 spare held n 3 [c9] = some x9 := by simpa [Value.cells, u3] using hfl 9 _ rfl
  have g10 : DataW.trod enc Tryz.prog W b0 spare held n 48 [c10, c11, c12, c13] = some x10 := by simpa [Value.cells, u4] using hfl 10 _ rfl
  obtain ⟨b0_1, e0, _, w0⟩ := DataW.trod_int Tryz.underlying47 g0
  obtain ⟨b1, e1, _⟩ := DataW.trod_bool Tryz.underlying4 g1
  obtain ⟨b2, e2, _, w2⟩ := DataW.trod_int Tryz.underlying3 g2
  obtain ⟨b3, e3, _⟩ := DataW.trod_bool Tryz.underlying4 g3
  obtain ⟨b4, e4, _⟩ := DataW.trod_bool Tryz.underlying4 g4
  obtain ⟨b5, e5, _⟩ := DataW.trod_bool Tryz.underlying4 g5
  obtain ⟨b6, e6, _⟩ := DataW.trod_bool Tryz.underlying4 g6
  obtain ⟨b7, e7, _⟩ := DataW.trod_bool Tryz.underlying4 g7
  obtain ⟨b8, e8, _⟩ := DataW.trod_bool Tryz.underlying4 g8
  obtain ⟨b9, e9, _, w9⟩ := DataW.trod_int Tryz.underlying3 g9
  obtain ⟨ys, m, _, _, _, hyl, hel⟩ := DataW.trod_array Tryz.underlying48 g10
  obtain ⟨y0, y1, y2, y3, rfl⟩ := list4 (l := ys) hyl
  have k0 : DataW.trod enc Tryz.prog W b0 spare held m 3 [c10] = some y0 := by simpa [u3] using hel 0 (by omega)
  have k1 : DataW.trod enc Tryz.prog W b0 spare held m 3 [c11] = some y1 := by simpa [u3] using hel 1 (by omega)
  have k2 : DataW.trod enc Tryz.prog W b0 spare held m 3 [c12] = some y2 := by simpa [u3] using hel 2 (by omega)
  have k3 : DataW.trod enc Tryz.prog W b0 spare held m 3 [c13] = some y3 := by simpa [u3] using hel 3 (by omega)
  obtain ⟨q0, f0, _, v0⟩ := DataW.trod_int Tryz.underlying3 k0
  obtain ⟨q1, f1, _, v1⟩ := DataW.trod_int Tryz.underlying3 k1
  obtain ⟨q2, f2, _, v2⟩ := DataW.trod_int Tryz.underlying3 k2
  obtain ⟨q3, f3, _, v3⟩ := DataW.trod_int Tryz.underlying3 k3
  simp only [List.cons.injEq, and_true] at e0 e1 e2 e3 e4 e5 e6 e7 e8 e9 f0 f1 f2 f3
  subst e0 e1 e2 e3 e4 e5 e6 e7 e8 e9 f0 f1 f2 f3
  have r0 := bounds_u16 w0
  obtain ⟨i, rfl⟩ : ∃ n : Nat, b0_1 = n := ⟨b0_1.toNat, by omega⟩
  exact ⟨⟨i, b1, b2, b3, b4, b5, b6, b7, b8, b9, q0, q1, q2, q3⟩, rfl, ⟨by show i < 65536; omega, bounds_i64 w2, bounds_i64 w9, bounds_i64 v0, bounds_i64 v1, bounds_i64 v2, bounds_i64 v3⟩⟩
theorem quests_core {c : Value} {N : Nat} {xd : DataW H × List MemPlace} (hg : DataW.trod enc Tryz.prog W b0 (fun _ => true) held N 51 [c] = some xd) (hz : ∀ n ∈ xd.1.weights Tryz.prog 51, n ≤ reachBytes) : ∃ L : List MQ, CRow csQ 3 W c L ∧ (∀ q ∈ L, q.n.size ≤ maxLen) ∧ L.length ≤ 17592186044416 := by
  rcases open_slice Tryz.underlying51 hg with ⟨hcs, _⟩ | ⟨a, len', cap', m, n, D, Pl, hcs, _, hl, hm, hmm, hx, hi⟩
  · simp only [List.cons.injEq, and_true] at hcs
    subst hcs
    exact ⟨[], ⟨none, 0, rfl, Nat.le_refl _, Nat.zero_le _, fun j h => by simp at h⟩, fun x h => (by cases h), Nat.zero_le _⟩
  · simp only [List.cons.injEq, and_true] at hcs
    subst hcs
    have hlm : len' ≤ m := by rw [hmm]; split <;> omega
    have hd : xd.1 = .slice ((List.range len').map D) ((List.range (m - len')).map fun j => D (len' + j)) := congrArg Prod.fst hx
    have hb32 : Tryz.prog.bytesOf 65 = 32 := by kernel_rfl
    have hlen : len' ≤ 17592186044416 := by
      have := hz ((((List.range len').map D).length + ((List.range (m - len')).map fun j => D (len' + j)).length) * 32) (by rw [hd, DataW.weights]; simp only [Tryz.underlying51, hb32]; exact List.mem_cons_self)
      simp only [List.length_map, List.length_range] at this
      unfold reachBytes at this
      omega
    have hc3 : Tryz.prog.cellsOf 65 = 3 := by kernel_rfl
    rw [hc3] at hi
    obtain ⟨L, h1, h2⟩ := crow_of (Pr := fun q : MQ => q.n.size ≤ maxLen) (w := W) csQ_len (by decide) hl hm fun i hil => by
      obtain ⟨cs, hc, ht⟩ := hi i (by omega)
      obtain ⟨_, hlen, hcell⟩ := World.cells?_some hc
      obtain ⟨c0, c1, c2, rfl⟩ := listc3 hlen
      obtain ⟨q, e, hn⟩ := quest_core ht
      exact ⟨q, hn, fun j hj => by rw [hcell j hj, e]⟩
    refine ⟨L, h1, h2, ?_⟩
    obtain ⟨_, _, e, _⟩ := h1.shape
    injection e with _ e _
    rw [← e]
    exact hlen
theorem recs_core {c : Value} {N : Nat} {xd : DataW H × List MemPlace} (hg : DataW.trod enc Tryz.prog W b0 (fun _ => true) held N 52 [c] = some xd) (hz : ∀ n ∈ xd.1.weights Tryz.prog 52, n ≤ reachBytes) : ∃ L : List (MR × Value), CRow csR 16 W c L ∧ (∀ x ∈ L, FitR W x.1 x.2) ∧ NilOk c ∧ L.length ≤ 17592186044416 := by
  rcases open_slice Tryz.underlying52 hg with ⟨hcs, _⟩ | ⟨a, len', cap', m, n, D, Pl, hcs, _, hl, hm, hmm, hx, hi⟩
  · simp only [List.cons.injEq, and_true] at hcs
    subst hcs
    exact ⟨[], ⟨none, 0, rfl, Nat.le_refl _, Nat.zero_le _, fun j h => by simp at h⟩, fun x h => (by cases h), nilOk0, Nat.zero_le _⟩
  · simp only [List.cons.injEq, and_true] at hcs
    subst hcs
    have hlm : len' ≤ m := by rw [hmm]; split <;> omega
    have hc16 : Tryz.prog.cellsOf 32 = 16 := by kernel_rfl
    have hd : xd.1 = .slice ((List.range len').map D) ((List.range (m - len')).map fun j => D (len' + j)) := congrArg Prod.fst hx
    have hb160 : Tryz.prog.bytesOf 32 = 160 := by kernel_rfl
    have hlen : len' ≤ 17592186044416 := by
      have := hz ((((List.range len').map D).length + ((List.range (m - len')).map fun j => D (len' + j)).length) * 160) (by rw [hd, DataW.weights]; simp only [Tryz.underlying52, hb160]; exact List.mem_cons_self)
      simp only [List.length_map, List.length_range] at this
      unfold reachBytes at this
      omega
    rw [hc16] at hi
    obtain ⟨L, h1, h2⟩ := crow_of (Pr := fun x : MR × Value => FitR W x.1 x.2) (w := W) csR_len (by decide) hl hm fun i hil => by
      obtain ⟨cs, hc, ht⟩ := hi i (by omega)
      obtain ⟨_, hlen, hcell⟩ := World.cells?_some hc
      obtain ⟨c0, c1, c2, c3, c4, c5, c6, c7, c8, c9, c10, c11, c12, c13, c14, c15, rfl⟩ := listc16 hlen
      obtain ⟨r, tv, e, fit⟩ := rec_core ht (fun k hk => hz k (by
        rw [hd]
        exact weights_elem Tryz.underlying52 (List.mem_map_of_mem (List.mem_range.2 hil)) hk))
      exact ⟨(r, tv), fit, fun j hj => by rw [hcell j hj, e]⟩
    refine ⟨L, h1, h2, fun n c e => (by injection e with e; cases e), ?_⟩
    obtain ⟨_, _, e, _⟩ := h1.shape
    injection e with _ e _
    rw [← e]
    exact hlen
theorem list18 {α : Type} {l : List α} (h : l.length = 18) : ∃ c0 c1 c2 c3 c4 c5 c6 c7 c8 c9 c10 c11 c12 c13 c14 c15 c16 c17, l = [c0, c1, c2, c3, c4, c5, c6, c7, c8, c9, c10, c11, c12, c13, c14, c15, c16, c17] := by
  match l, h with
  | [c0, c1, c2, c3, c4, c5, c6, c7, c8, c9, c10, c11, c12, c13, c14, c15, c16, c17], _ => exact ⟨c0, c1, c2, c3, c4, c5, c6, c7, c8, c9, c10, c11, c12, c13, c14, c15, c16, c17, rfl⟩
/-- Its rows are no longer than a machine's memory. -/
structure ShortM (m : MM) : Prop where
  q : m.q.length ≤ 17592186044416
  a : m.a.length ≤ 17592186044416
  u : m.u.length ≤ 17592186044416
  m : m.m.length ≤ 17592186044416
set_option maxHeartbeats 2000000 in
theorem open_msg (hok : Value.okWide Tryz.prog W .any base 54 v) (h : DataW.Trod enc Tryz.prog W b0 (fun _ => true) held 54 v d p) (hz : ∀ n ∈ d.weights Tryz.prog 54, n ≤ reachBytes) : ∃ (m : MM) (vq va vu vm : Value), v = msgV m.h vq va vu vm ∧ FitM W m vq va vu vm ∧ ShortM m := by
  have hok' := hok
  simp only [Value.okWide, Tryz.underlying54] at hok'
  obtain ⟨cs, rfl, hsz, hrow⟩ := hok'
  have hC : Tryz.prog.cellsOf 54 = 18 := by kernel_rfl
  have hH : Tryz.prog.cellsOf 50 = 14 := by kernel_rfl
  have hQ : Tryz.prog.cellsOf 51 = 1 := by kernel_rfl
  have hR : Tryz.prog.cellsOf 52 = 1 := by kernel_rfl
  rw [hC] at hsz
  obtain ⟨l⟩ := cs
  obtain ⟨c0, c1, c2, c3, c4, c5, c6, c7, c8, c9, c10, c11, c12, c13, c14, c15, c16, c17, rfl⟩ := list18 (l := l) hsz
  obtain ⟨fuel, hf⟩ := h
  obtain ⟨xs, n, _, hx, hl, hlen, hfl⟩ := DataW.trod_struct Tryz.underlying54 hf
  obtain ⟨x0, x1, x2, x3, x4, rfl⟩ := listc5 (l := xs) hlen
  have g0 : DataW.trod enc Tryz.prog W b0 (fun _ => true) held n 50 [c0, c1, c2, c3, c4, c5, c6, c7, c8, c9, c10, c11, c12, c13] = some x0 := by simpa [Value.cells, hH] using hfl 0 _ rfl
  have g1 : DataW.trod enc Tryz.prog W b0 (fun _ => true) held n 51 [c14] = some x1 := by simpa [Value.cells, hQ] using hfl 1 _ rfl
  have g2 : DataW.trod enc Tryz.prog W b0 (fun _ => true) held n 52 [c15] = some x2 := by simpa [Value.cells, hR] using hfl 2 _ rfl
  have g3 : DataW.trod enc Tryz.prog W b0 (fun _ => true) held n 52 [c16] = some x3 := by simpa [Value.cells, hR] using hfl 3 _ rfl
  have g4 : DataW.trod enc Tryz.prog W b0 (fun _ => true) held n 52 [c17] = some x4 := by simpa [Value.cells, hR] using hfl 4 _ rfl
  have hd : d = .agg ([x0, x1, x2, x3, x4].map (·.1)) := by have := congrArg Prod.fst hx; exact this
  obtain ⟨hh, e0, hfit⟩ := header_core g0
  obtain ⟨Lq, q1, q2, q4⟩ := quests_core g1 (fun k hk => hz k (by
    rw [hd]
    simp only [DataW.weights, Tryz.underlying54, List.map_cons, List.map_nil]
    simp [DataW.weightsEach, hk]))
  obtain ⟨La, a1, a2, a3, a4⟩ := recs_core g2 (fun k hk => hz k (by
    rw [hd]
    simp only [DataW.weights, Tryz.underlying54, List.map_cons, List.map_nil]
    simp [DataW.weightsEach, hk]))
  obtain ⟨Lu, u1, u2, u3, u4⟩ := recs_core g3 (fun k hk => hz k (by
    rw [hd]
    simp only [DataW.weights, Tryz.underlying54, List.map_cons, List.map_nil]
    simp [DataW.weightsEach, hk]))
  obtain ⟨Lm, m1, m2, m3, m4⟩ := recs_core g4 (fun k hk => hz k (by
    rw [hd]
    simp only [DataW.weights, Tryz.underlying54, List.map_cons, List.map_nil]
    simp [DataW.weightsEach, hk]))
  simp only [List.cons.injEq, and_true] at e0
  obtain ⟨rfl, rfl, rfl, rfl, rfl, rfl, rfl, rfl, rfl, rfl, rfl, rfl, rfl, rfl⟩ := e0
  exact ⟨⟨hh, Lq, La, Lu, Lm⟩, c14, c15, c16, c17, rfl, ⟨hfit, q1, a1, u1, m1, q2, fun x hx => (mem_recs.1 hx).elim (a2 x) (fun h => h.elim (u2 x) (m2 x)), a3, u3, m3⟩, ⟨q4, a4, u4, m4⟩⟩
end
end Go.Proofs.YtdpgcgaalamgkaaGreat
