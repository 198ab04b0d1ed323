/-
  A row of acts, as the laws of layer 15 get it: opened to cells. Conditions: as each theorem names them.
-/
import Derived.Test.YtabhapohkohbmaaBt
import Derived.Deep.Slices
import Derived.Deep.Fields
import Derived.OpenShut
import Derived.ShutString
import Derived.Carry
namespace Go.Proofs.Ytabhapohkohbmaa
open Go.RowKit Go.ChangeShapes Go.WideShapes Go.Deep
set_option linter.unusedVariables false

structure Ac where
  kind : Int
  s : ByteArray
  v : Int
structure Ac.fits (x : Ac) : Prop where
  kind : (Lit.int .i64 x.kind).wf = true
  s : x.s.size ≤ maxLen
  v : (Lit.int .i64 x.v).wf = true
/-- The three cells of an act. -/
structure AcAt (w : World) (g o : Nat) (x : Ac) : Prop where
  kind : w.cell? ⟨g, o, none⟩ = some (.int .i64 x.kind)
  s : w.cell? ⟨g, o + 1, none⟩ = some (.string x.s)
  v : w.cell? ⟨g, o + 2, none⟩ = some (.int .i64 x.v)
theorem AcAt.below {w w' : World} {g o k : Nat} {x : Ac} (h : AcAt w g o x) (hb : Below k w w') (hk : g < k) : AcAt w' g o x :=
  ⟨(hb.cell (p := ⟨g, o, none⟩) hk).trans h.kind, (hb.cell (p := ⟨g, o + 1, none⟩) hk).trans h.s, (hb.cell (p := ⟨g, o + 2, none⟩) hk).trans h.v⟩
/-- A slice of acts, as it can be read. -/
structure ARow (w : World) (v : Value) (L : List Ac) : Prop where
  shape : ∃ A cap, v = .slice A L.length cap ∧ L.length ≤ cap ∧ cap ≤ maxLen ∧ ∀ j (h : j < L.length), ∃ g o, A = some ⟨g, o, none⟩ ∧ g < w.heap.size ∧ AcAt w g (o + j * 3) L[j]
  fits : ∀ x ∈ L, x.fits

theorem add_offL (b off i : Nat) : (⟨b, off, none⟩ : Addr).add i = ⟨b, off + i, none⟩ := by unfold Addr.add; split <;> simp_all

section
variable {H : Type} {enc : TypeId × Value → H} {w : World} {base : Nat} {spare : Nat → Bool} {held : Bool}
theorem cellsAct : Try.prog.cellsOf 41 = 3 := by kernel_rfl
theorem oneAct : ∀ {fs : Array Field}, Try.prog.underlying 41 = some (.struct fs) → oneCellFields Try.prog fs = true := by
  intro fs h
  rw [Try.underlying41] at h
  cases h
  kernel_rfl
theorem at_oneL {cs : List Value} {u : Value} {j : Nat} (h : (cs.drop j).take 1 = [u]) : cs[j]? = some u := by
  have := congrArg (fun l => l[0]?) h
  simpa using this
/-- An act out of its three cells. -/
theorem openAct1 {n : Nat} {a : Addr} {cs : List Value} {x : DataW H × List MemPlace} (hc : w.cells? base a 3 = some cs) (h : DataW.trod enc Try.prog w base spare held n 41 cs = some x) :
    ∃ y : Ac, y.fits ∧ (∀ j : Nat, j < 3 → w.cell? (a.add j) = [Value.int .i64 y.kind, .string y.s, .int .i64 y.v][j]?) := by
  obtain ⟨_, hlen, hcell⟩ := World.cells?_some hc
  obtain ⟨ys, n', _, _, _, hyl, hf⟩ := DataW.trod_struct Try.underlying41 h
  have hyl : ys.length = 3 := hyl
  have one := hone_of (oneAct Try.underlying41)
  have get : ∀ (i : Nat) (f : Field), i < 3 → f.offset = i ∧ Try.prog.cellsOf f.type = 1 → DataW.trod enc Try.prog w base spare held n' f.type ((cs.drop f.offset).take (Try.prog.cellsOf f.type)) = ys[i]? → ∃ z, DataW.trod enc Try.prog w base spare held n' f.type ((cs.drop i).take 1) = some z := by
    intro i f hi hof he
    rw [hof.1, hof.2, List.getElem?_eq_getElem (by omega)] at he
    exact ⟨_, he⟩
  obtain ⟨z0, f0⟩ := get 0 _ (by decide) (one 0 _ rfl) (hf 0 _ rfl)
  obtain ⟨z1, f1⟩ := get 1 _ (by decide) (one 1 _ rfl) (hf 1 _ rfl)
  obtain ⟨z2, f2⟩ := get 2 _ (by decide) (one 2 _ rfl) (hf 2 _ rfl)
  obtain ⟨k, c0, _, w0⟩ := DataW.trod_int Try.underlying3 f0
  obtain ⟨s, c1, _, w1⟩ := DataW.trod_string Try.underlying9 f1
  obtain ⟨v, c2, _, w2⟩ := DataW.trod_int Try.underlying3 f2
  refine ⟨⟨k, s, v⟩, ⟨w0, w1, w2⟩, fun j hj => ?_⟩
  rw [hcell j (by omega)]
  have e0 := at_oneL c0
  have e1 := at_oneL c1
  have e2 := at_oneL c2
  obtain rfl | rfl | rfl : j = 0 ∨ j = 1 ∨ j = 2 := by omega
  · exact e0
  · exact e1
  · exact e2

theorem openActs {v : Value} {d : DataW H} {p : List MemPlace} {b0 : Nat} (hv : Value.okWide Try.prog w .any b0 35 v) (h : DataW.Trod enc Try.prog w base spare held 35 v d p) : ∃ L, ARow w v L := by
  obtain ⟨s0, len, cap, rfl⟩ := okWide_slice Try.underlying35 hv
  obtain ⟨fuel, hf⟩ := h
  rcases open_slice Try.underlying35 hf with ⟨hcs, _⟩ | ⟨a, len', cap', m, n, D, Pl, hcs, _, hl, hm, hmm, _, hi⟩
  · simp [Value.cells] at hcs
    obtain ⟨rfl, rfl, rfl⟩ := hcs
    exact ⟨[], ⟨none, 0, rfl, Nat.le_refl _, Nat.zero_le _, fun j h => by simp at h⟩, fun x h => by cases h⟩
  · simp [Value.cells] at hcs
    obtain ⟨rfl, rfl, rfl⟩ := hcs
    have hlm : len ≤ m := by rw [hmm]; split <;> omega
    have hx : ∀ i, i < len → ∃ y : Ac, y.fits ∧ ∀ j : Nat, j < 3 → w.cell? ((a.add (i * 3)).add j) = [Value.int .i64 y.kind, .string y.s, .int .i64 y.v][j]? := by
      intro i hil
      obtain ⟨cs, hc, ht⟩ := hi i (by omega)
      rw [cellsAct] at hc
      exact openAct1 hc ht
    have hchoose := fun i (h : i < len) => Classical.choose_spec (hx i h)
    refine ⟨List.ofFn fun i : Fin len => Classical.choose (hx i.1 i.2), ⟨some a, cap, by rw [List.length_ofFn], by rw [List.length_ofFn]; exact hl, hm, fun j hj => ?_⟩, fun x hxm => ?_⟩
    · rw [List.length_ofFn] at hj
      have hc := (hchoose j hj).2
      rw [List.getElem_ofFn]
      generalize Classical.choose (hx j hj) = y at hc ⊢
      have c0 := hc 0 (by decide)
      have c1 := hc 1 (by decide)
      have c2 := hc 2 (by decide)
      have c00 := (hchoose 0 (by omega)).2 0 (by decide)
      obtain ⟨b, off, spot⟩ := a
      have hspot : spot = none := by simpa [Addr.add] using World.cell?_spot c00
      clear c00
      subst hspot
      rw [add_offL, add_offL] at c0 c1 c2
      exact ⟨b, off, rfl, World.block_lt_of_cell? w _ c0, c0, c1, c2⟩
    · obtain ⟨i, rfl⟩ := List.mem_ofFn.1 hxm
      exact (hchoose i.1 i.2).1
end
theorem ARow.below {w w' : World} {v : Value} {L : List Ac} (h : ARow w v L) (hb : Below w.heap.size w w') : ARow w' v L := by
  obtain ⟨⟨A, cap, h1, h2, h3, h4⟩, hf⟩ := h
  exact ⟨⟨A, cap, h1, h2, h3, fun j hj => by
    obtain ⟨g, o, e1, e2, e3⟩ := h4 j hj
    exact ⟨g, o, e1, Nat.lt_of_lt_of_le e2 hb.size, e3.below hb e2⟩⟩, hf⟩
end Go.Proofs.Ytabhapohkohbmaa
