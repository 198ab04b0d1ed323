/-
  Arguments that are slices of names, of strings, of bools: how they are read. Conditions: as each theorem names them.
-/
import Derived.Test.YtabhapohkohbmaaKitS
import Derived.Test.YtabhapohkohbmaaBt
import Derived.OpenShut
import Derived.ShutString
import Derived.SliceStrings
import Derived.Deep.Grids
namespace Go.Proofs.Ytabhapohkohbmaa
open Go.ChangeShapes Go.WideShapes Go.ChangeAt Go.RowKit
set_option linter.unusedVariables false
set_option maxRecDepth 100000

/-- A slice that can be read: its values, one cell each. -/
def VRow (w : World) (v : Value) (L : List Value) : Prop :=
  ∃ A cap, v = .slice A L.length cap ∧ L.length ≤ cap ∧ cap ≤ maxLen ∧ ∀ j (h : j < L.length), ∃ g o, A = some ⟨g, o, none⟩ ∧ g < w.heap.size ∧ w.cell? ⟨g, o + j, none⟩ = some L[j]
theorem VRow.below {w w' : World} {v : Value} {L : List Value} {k : Nat} (h : VRow w v L) (hb : Below k w w') (hk : w.heap.size ≤ k) : VRow w' v L := by
  obtain ⟨A, cap, h1, h2, h3, h4⟩ := h
  exact ⟨A, cap, h1, h2, h3, fun j hj => by
    obtain ⟨g, o, e1, e2, e3⟩ := h4 j hj
    exact ⟨g, o, e1, Nat.lt_of_lt_of_le e2 hb.size, (hb.cell (p := ⟨g, o + j, none⟩) (Nat.lt_of_lt_of_le e2 hk)).trans e3⟩⟩
def NRow (w : World) (v : Value) (L : List ByteArray) : Prop := VRow w v (L.map Value.string) ∧ ∀ x ∈ L, x.size ≤ maxLen
def BRow (w : World) (v : Value) (L : List Bool) : Prop := VRow w v (L.map Value.bool)
theorem NRow.below {w w' : World} {v : Value} {L : List ByteArray} {k : Nat} (h : NRow w v L) (hb : Below k w w') (hk : w.heap.size ≤ k) : NRow w' v L := ⟨h.1.below hb hk, h.2⟩
theorem BRow.below {w w' : World} {v : Value} {L : List Bool} {k : Nat} (h : BRow w v L) (hb : Below k w w') (hk : w.heap.size ≤ k) : BRow w' v L := VRow.below h hb hk
theorem NRow.shape {w : World} {v : Value} {L : List ByteArray} (h : NRow w v L) : ∃ A cap, v = .slice A L.length cap ∧ L.length ≤ cap ∧ cap ≤ maxLen := by
  obtain ⟨⟨A, cap, h1, h2, h3, _⟩, _⟩ := h
  rw [List.length_map] at h1 h2
  exact ⟨A, cap, h1, h2, h3⟩
theorem BRow.shape {w : World} {v : Value} {L : List Bool} (h : BRow w v L) : ∃ A cap, v = .slice A L.length cap ∧ L.length ≤ cap ∧ cap ≤ maxLen := by
  obtain ⟨A, cap, h1, h2, h3, _⟩ := h
  rw [List.length_map] at h1 h2
  exact ⟨A, cap, h1, h2, h3⟩
theorem NRow.at {w : World} {A : Option Addr} {n cap : Nat} {L : List ByteArray} (h : NRow w (.slice A n cap) L) (j : Nat) (hj : j < L.length) : ∃ g o, A = some ⟨g, o, none⟩ ∧ g < w.heap.size ∧ w.cell? ⟨g, o + j, none⟩ = some (.string L[j]) := by
  obtain ⟨⟨A', cap', h1, _, _, h4⟩, _⟩ := h
  injection h1 with h1 _ _
  subst h1
  obtain ⟨g, o, e1, e2, e3⟩ := h4 j (by rw [List.length_map]; exact hj)
  exact ⟨g, o, e1, e2, by rw [e3, List.getElem_map]⟩
theorem BRow.at {w : World} {A : Option Addr} {n cap : Nat} {L : List Bool} (h : BRow w (.slice A n cap) L) (j : Nat) (hj : j < L.length) : ∃ g o, A = some ⟨g, o, none⟩ ∧ g < w.heap.size ∧ w.cell? ⟨g, o + j, none⟩ = some (.bool L[j]) := by
  obtain ⟨A', cap', h1, _, _, h4⟩ := h
  injection h1 with h1 _ _
  subst h1
  obtain ⟨g, o, e1, e2, e3⟩ := h4 j (by rw [List.length_map]; exact hj)
  exact ⟨g, o, e1, e2, by rw [e3, List.getElem_map]⟩

theorem vrow_of {w : World} {a : Addr} {len cap : Nat} {L : List Value} (hlen : len = L.length) (h1 : len ≤ cap) (h2 : cap ≤ maxLen) (hc : ∀ j (h : j < L.length), w.cell? (a.add j) = some L[j]) : VRow w (.slice (some a) len cap) L := by
  subst hlen
  by_cases h0 : L.length = 0
  · exact ⟨some a, cap, rfl, h1, h2, fun j hj => by omega⟩
  · obtain ⟨b, off, spot⟩ := a
    have hspot : spot = none := by simpa [Addr.add] using World.cell?_spot (hc 0 (by omega))
    subst hspot
    refine ⟨_, cap, rfl, h1, h2, fun j hj => ?_⟩
    have := hc j hj
    have e : (⟨b, off, none⟩ : Addr).add j = ⟨b, off + j, none⟩ := by unfold Addr.add; split <;> simp_all
    rw [e] at this
    exact ⟨b, off, rfl, World.block_lt_of_cell? w _ this, this⟩

section
variable {H : Type} {enc : TypeId × Value → H} {w : World} {base : Nat} {held : Bool}
theorem cellsSt : Try.prog.cellsOf 9 = 1 := by kernel_rfl
theorem cellsBo : Try.prog.cellsOf 4 = 1 := by kernel_rfl
set_option maxRecDepth 100000 in
theorem openStrings {t e : TypeId} (ht : Try.prog.underlying t = some (.slice e)) (he : Try.prog.underlying e = some .string) (hc : Try.prog.cellsOf e = 1) {v : Value} {d : DataW H} {p : List MemPlace} {b0 : Nat}
    (hv : Value.okWide Try.prog w .any b0 t v) (h : DataW.Trod enc Try.prog w base (fun _ => true) held t v d p) : ∃ L, NRow w v L := by
  obtain ⟨s0, len, cap, rfl⟩ := okWide_slice ht hv
  obtain ⟨fuel, hf⟩ := h
  rcases open_strings ht he hc hf with ⟨hcs, hx⟩ | ⟨a, len', cap', ss, hcs, _, hl, hm, hz, hx, hcell, hws⟩
  · simp [Value.cells] at hcs
    obtain ⟨rfl, rfl, rfl⟩ := hcs
    exact ⟨[], ⟨none, 0, rfl, Nat.le_refl _, Nat.zero_le _, fun j h => by simp at h⟩, fun x h => by cases h⟩
  · simp [Value.cells] at hcs
    obtain ⟨rfl, rfl, rfl⟩ := hcs
    simp only [if_true] at hz
    have hlen : (ss.take len).length = len := by rw [List.length_take, hz]; omega
    refine ⟨ss.take len, vrow_of (by rw [List.length_map, hlen]) hl hm fun j hj => ?_, fun x hx => hws x (List.mem_of_mem_take hx)⟩
    rw [List.length_map, hlen] at hj
    have hjs : j < ss.length := by omega
    rw [hcell j hjs]
    simp [List.getD_eq_getElem?_getD, List.getElem?_eq_getElem hjs]
theorem openStrs {v : Value} {d : DataW H} {p : List MemPlace} {b0 : Nat} (hv : Value.okWide Try.prog w .any b0 50 v) (h : DataW.Trod enc Try.prog w base (fun _ => true) held 50 v d p) : ∃ L, NRow w v L :=
  openStrings (t := 50) (e := 9) Try.underlying50 Try.underlying9 cellsSt hv h
end
end Go.Proofs.Ytabhapohkohbmaa
