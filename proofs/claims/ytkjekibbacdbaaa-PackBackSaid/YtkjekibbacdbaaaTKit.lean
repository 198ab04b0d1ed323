/-
  Rows of strings that the call owns, and that came in: their cells, their blocks. Conditions: as each theorem names them.
-/
import Derived.Test.YtkjekibbacdbaaaNmKitT
import Derived.Test.YtkjekibbacdbaaaPkOpen
namespace Go.Proofs.Ytkjekibbacdbaaa
open Go.RowKit
set_option linter.unusedVariables false

theorem NRow.cellB {w : World} {q o n cap : Nat} {L : List ByteArray} (h : NRow w (.slice (some ⟨q, o, none⟩) n cap) L) (j : Nat) (hj : j < L.length) : w.cell? ⟨q, o + j, none⟩ = some (.string L[j]) := by
  obtain ⟨g, o', e, _, h⟩ := h.at j hj
  injection e with e
  injection e with e1 e2
  subst e1; subst e2
  exact h
theorem stNm : ST Try.prog 32 22 := ⟨Try.underlying22, by kernel_rfl⟩
section
variable {w w' : World} {base b : Nat} {te : TypeId} {v v' : Value} {L : List ByteArray}
theorem TOwn.same (h : TOwn te w base v L) (hs : ∀ k, v.ownBlock = some k → w'.heap[k]? = w.heap[k]?) : TOwn te w' base v L := by
  refine ⟨h.1, h.2.imp id fun ⟨g, cap, cur, h1, h2, h3, h4⟩ => ⟨g, cap, cur, h1, h2, ?_, h4⟩⟩
  rw [hs g (by rw [h1]; rfl)]
  exact h3
theorem TOwn.block (h : TOwn te w base v L) {k : Nat} (hk : v.ownBlock = some k) : base ≤ k ∧ k < w.heap.size := by
  rcases h.2 with ⟨rfl, _⟩ | ⟨g, cap, cur, rfl, hb, hg, _⟩
  · cases hk
  · obtain rfl : g = k := by simpa [Value.ownBlock] using hk
    refine ⟨hb, ?_⟩
    rcases Nat.lt_or_ge g w.heap.size with hlt | hge
    · exact hlt
    · rw [Array.getElem?_eq_none hge] at hg; cases hg
theorem TOwn.ptr {A : Option Addr} {n cap : Nat} (hv : TOwn te w base (.slice A n cap) L) (hne : L ≠ []) : ∃ q, A = some ⟨q, 0, none⟩ := by
  rcases hv.2 with ⟨_, hn⟩ | ⟨q, cap', cur, h1, _⟩
  · exact absurd (List.eq_nil_of_length_eq_zero hn) hne
  · injection h1 with h1
    exact ⟨q, h1⟩
theorem TOwn.at {q n cap : Nat} (hv : TOwn te w base (.slice (some ⟨q, 0, none⟩) n cap) L) {j : Nat} {x : ByteArray} (hj : L[j]? = some x) : w.cell? ⟨q, j, none⟩ = some (.string x) := by
  have := World.ownsRow.cells hv (g := q) rfl j (.string x) (by rw [List.getElem?_map, hj]; rfl)
  have e : (⟨q, 0, none⟩ : Addr).add j = ⟨q, j, none⟩ := by unfold Addr.add; split <;> simp_all
  rw [e] at this
  exact this
end
end Go.Proofs.Ytkjekibbacdbaaa
