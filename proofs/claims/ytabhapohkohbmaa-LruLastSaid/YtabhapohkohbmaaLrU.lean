/-
  A list's keys beside a law. Condition: at most 2^40 keys.
-/
import Derived.Test.YtabhapohkohbmaaLrT
import Derived.Test.YtabhapohkohbmaaLrJ
namespace Go.Proofs.Ytabhapohkohbmaa
open Go.RowKit Go.Maps
set_option linter.unusedVariables false
set_option linter.unusedSimpArgs false
section
variable {w wr w' : World} {p mst q nst : Nat} {R R' S : Rw} {D D' : Nat → Prop}
theorem One.keys (h : One w D p mst R wr) (hl : R.length ≤ 1099511627776) : Calls Try.prog 32 #[.pointer (some ⟨p, 0, none⟩)] wr fun e w' => ∃ v, e = .returned v ∧ OwnK w' wr.heap.size v (R.map (·.1)) ∧ One w D p mst R w' ∧ Stay D wr w' ∧ Below wr.heap.size wr w' := by
  have H := h
  obtain ⟨T, h1, h2, h3, h4⟩ := h
  refine (keys_anyP _ R wr hl fun W hW => (h1.next hW).snapshot hl).mono ?_
  rintro e w' ⟨v, rfl, ho, hb⟩
  exact ⟨v, rfl, ho, (H.next hb).1, (H.next hb).2, hb⟩
theorem OwnK.next {w w' : World} {base : Nat} {v : Value} {L : List ByteArray} (h : OwnK w base v L) (hb : Below w.heap.size w w') : OwnK w' base v L := by
  obtain ⟨h1, h2⟩ := h
  refine ⟨h1, ?_⟩
  rcases h2 with h2 | ⟨g, cap, cur, e, hg, hc, r⟩
  · exact Or.inl h2
  · exact Or.inr ⟨g, cap, cur, e, hg, (hb.block g (Array.getElem?_eq_some_iff.1 hc).1).trans hc, r⟩
theorem OwnK.stay {w w' : World} {base : Nat} {v : Value} {L : List ByteArray} (h : OwnK w base v L) (hs : ∀ g, v.ownBlock = some g → w'.heap[g]? = w.heap[g]?) : OwnK w' base v L := by
  obtain ⟨h1, h2⟩ := h
  refine ⟨h1, ?_⟩
  rcases h2 with h2 | ⟨g, cap, cur, e, hg, hc, r⟩
  · exact Or.inl h2
  · exact Or.inr ⟨g, cap, cur, e, hg, (hs g (by rw [e]; rfl)).trans hc, r⟩
theorem OwnK.lt {w : World} {base : Nat} {v : Value} {L : List ByteArray} (h : OwnK w base v L) : ∀ g, v.ownBlock = some g → base ≤ g ∧ g < w.heap.size := by
  intro g' hg'
  rcases h.2 with ⟨rfl, _⟩ | ⟨g, cap, cur, rfl, hg, hc, r⟩
  · cases hg'
  · obtain rfl : g = g' := by simpa [Value.ownBlock] using hg'
    exact ⟨hg, (Array.getElem?_eq_some_iff.1 hc).1⟩
theorem OwnK.row {w : World} {base : Nat} {v : Value} {L : List ByteArray} (h : OwnK w base v L) : SRow w v L := .of_own h
end
end Go.Proofs.Ytabhapohkohbmaa
