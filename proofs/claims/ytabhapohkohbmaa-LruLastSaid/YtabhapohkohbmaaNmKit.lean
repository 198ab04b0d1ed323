/-
  Laws for walks over names: rows of strings, as they are read, as they are made. Conditions: those that each theorem names. Nothing of any program is named here.
-/
import Derived.Test.YtabhapohkohbmaaKitS
import Derived.RangeFuncNested
import Derived.RangeFuncBox
import Derived.RangeFuncCalls
import Derived.RangeFuncLeaves
import Derived.OwnWalkIn
namespace Go.Proofs.Ytabhapohkohbmaa
open Go.RowKit
set_option linter.unusedVariables false

/-! ### Rows of strings -/
/-- A slice of strings, as it can be read. -/
def SRow (w : World) (v : Value) (L : List ByteArray) : Prop :=
  (∃ A, v = .slice A 0 0 ∧ L = []) ∨ ∃ g off cap, v = .slice (some ⟨g, off, none⟩) L.length cap ∧ g < w.heap.size ∧ L.length ≤ cap ∧ cap ≤ maxLen ∧ ∀ j (h : j < L.length), w.cell? ⟨g, off + j, none⟩ = some (.string L[j])
theorem SRow.below {w w' : World} {v : Value} {L : List ByteArray} {k : Nat} (h : SRow w v L) (hb : Below k w w') (hk : w.heap.size ≤ k) : SRow w' v L := by
  rcases h with h | ⟨g, off, cap, h1, h2, h3, h4, h5⟩
  · exact .inl h
  · exact .inr ⟨g, off, cap, h1, Nat.lt_of_lt_of_le h2 hb.size, h3, h4, fun j hj => (hb.cell (p := ⟨g, off + j, none⟩) (Nat.lt_of_lt_of_le h2 hk)).trans (h5 j hj)⟩
theorem SRow.next {w w' : World} {v : Value} {L : List ByteArray} (h : SRow w v L) (hb : Below w.heap.size w w') : SRow w' v L := h.below hb (Nat.le_refl _)
theorem SRow.shape {w : World} {v : Value} {L : List ByteArray} (h : SRow w v L) : ∃ A cap, v = .slice A L.length cap ∧ L.length ≤ cap ∧ cap ≤ maxLen := by
  rcases h with ⟨A, rfl, rfl⟩ | ⟨g, off, cap, h1, h2, h3, h4, h5⟩
  · exact ⟨A, 0, rfl, Nat.le_refl _, Nat.zero_le _⟩
  · exact ⟨_, cap, h1, h3, h4⟩
/-- A row that the call owns can be read. -/
theorem SRow.of_own {w : World} {base : Nat} {t : TypeId} {v : Value} {L : List ByteArray} (h : w.ownsRow base t 1 v L.length (L.map Value.string)) : SRow w v L := by
  rcases h.2 with ⟨rfl, hn⟩ | ⟨g, cap, cur, rfl, hb, hg, hnc, hcm, _⟩
  · exact .inl ⟨none, rfl, List.eq_nil_of_length_eq_zero hn⟩
  · refine .inr ⟨g, 0, cap, rfl, ?_, hnc, hcm, fun j hj => ?_⟩
    · rcases Nat.lt_or_ge g w.heap.size with hlt | hge
      · exact hlt
      · rw [Array.getElem?_eq_none hge] at hg; cases hg
    · have := World.ownsRow.cells h (g := g) rfl j (.string L[j]) (by rw [List.getElem?_map, List.getElem?_eq_getElem hj]; rfl)
      have e : (⟨g, 0, none⟩ : Addr).add j = ⟨g, 0 + j, none⟩ := by unfold Addr.add; split <;> simp_all
      rw [e] at this
      exact this

/-- What the body of a loop over an iterator owes where it has called what turns nothing that lay. -/
theorem keepsFrom_below {B : Nat} {W W' : World} (hb : Below W.heap.size W W') : KeepsFrom B W W' :=
  ⟨hb.size, fun k o _ hk _ => (hb.block k (Array.getElem?_eq_some_iff.1 hk).1).trans hk⟩
theorem boxed_below {W W' : World} {b : Nat} {t : TypeId} {v : Value} (h : Boxed W b t v) (hb : Below W.heap.size W W') : Boxed W' b t v := (hb.block b h.lt).trans h
theorem boxed_drew {W : World} {b : Nat} {t : TypeId} {v : Value} (h : Boxed W b t v) : Boxed W.drew b t v := h
theorem own_block {W : World} {base : Nat} {e : TypeId} {size : Nat} {v : Value} {k : Nat} {xs : List Value} (h : W.ownsRow base e size v k xs) {j : Nat} (hj : v.ownBlock = some j) : base ≤ j ∧ ∃ o : Obj, W.heap[j]? = some o ∧ o.isCells = true := by
  rcases h.2 with ⟨rfl, _⟩ | ⟨g, cap, cur, rfl, hb, hg, _⟩
  · simp [Value.ownBlock] at hj
  · obtain rfl : g = j := by simpa [Value.ownBlock] using hj
    exact ⟨hb, _, hg, rfl⟩
/-- A variable's box is stored into, behind a call that made the row longer. -/
theorem boxed_put {W w1 : World} {n₀ b : Nat} {t e : TypeId} {size : Nat} {v v' : Value} {k m : Nat} {xs ys : List Value} (hv : Boxed W b t v) (hte : t ≠ e) (hrow : W.ownsRow n₀ e size v k xs) (hn₀ : n₀ ≤ W.heap.size) (hb : n₀ ≤ b)
    (hown' : w1.ownsRow n₀ e size v' m ys) (hg : W.grownBy w1 v.ownBlock) :
    Boxed w1 b t v ∧ Boxed (w1.setCell ⟨b, 0, none⟩ v') b t v' ∧ (w1.setCell ⟨b, 0, none⟩ v').ownsRow n₀ e size v' m ys ∧ KeepsOthers W (w1.setCell ⟨b, 0, none⟩ v') ∧ Below n₀ W (w1.setCell ⟨b, 0, none⟩ v') := by
  have h1 : Boxed w1 b t v := hv.kept hg (hv.not_row hte hrow)
  refine ⟨h1, h1.set v', hown'.kept (grownBy_setCell' w1 b v') (.inr (h1.not_row hte hown').symm), ?_, ?_⟩
  · refine (KeepsOthers.of_grownBy hg fun j o ej hj => ?_).trans (KeepsOthers.setCell _ _ _)
    obtain ⟨_, o', ho', hc⟩ := own_block hrow ej
    rw [hj] at ho'
    cases ho'
    exact hc
  · exact ((Below.refl n₀ W).grown hg hn₀ fun j ej => (own_block hrow ej).1).setCell (p := ⟨b, 0, none⟩) hb v'
end Go.Proofs.Ytabhapohkohbmaa
