/-
  Laws for walks over names: append of a string onto bytes that the call owns; rows of strings, as they are read, as they are made. Conditions: those that each theorem names. Nothing of any program is named here.
-/
import Derived.Test.YtjflmifolmpdgaaKit
import Derived.Lib.AppendStr
import Derived.RangeFuncNested
import Derived.RangeFuncBox
import Derived.RangeFuncCalls
import Derived.RangeFuncLeaves
import Derived.OwnWalkIn
namespace Go.Proofs.Ytjflmifolmpdgaa
open Go.RowKit
set_option linter.unusedVariables false

theorem grown_trans {w w1 w2 : World} {r r1 : Option Nat} (h : w.grownBy w1 r) (h1 : w1.grownBy w2 r1) (hr : r1 = r ∨ ∀ k, r1 = some k → w.heap.size ≤ k) : w.grownBy w2 r :=
  ⟨h1.os.trans h.os, h1.tape.trans h.tape, h1.output.trans h.output, Nat.le_trans h.size h1.size, fun k hk hne => by
    have h2 := h.block k hk hne
    refine (h1.block k (Nat.lt_of_lt_of_le hk h.size) ?_).trans h2
    intro e
    rcases hr with rfl | hr
    · exact hne e
    · have := hr k e.symm
      omega⟩
theorem grown_alloc {w w' : World} {r : Option Nat} {o : Obj} (h : (w.alloc o).grownBy w' r) : w.grownBy w' r :=
  grown_trans (World.grownBy_alloc w o r) h (.inl rfl)
theorem grown_below {w w1 w2 : World} {r : Option Nat} (h : w.grownBy w1 r) (hb : Below w1.heap.size w1 w2) : w.grownBy w2 r :=
  ⟨hb.os.trans h.os, hb.tape.trans h.tape, hb.output.trans h.output, Nat.le_trans h.size hb.size, fun k hk hne => (hb.block k (Nat.lt_of_lt_of_le hk h.size)).trans (h.block k hk hne)⟩
theorem below_to_grown {w w' : World} {r : Option Nat} (hb : Below w.heap.size w w') : w.grownBy w' r :=
  ⟨hb.os, hb.tape, hb.output, hb.size, fun k hk _ => hb.block k hk⟩

/-- append of a string onto the bytes that the call owns. -/
theorem wpList_appendS {P : Program} {tb ts tt : TypeId} (T : BT P tb ts tt) (w : World) {ops : Array Oper} {rest : List Oper} {o : Oper} {a : Act} {Q : Exit → Act → World → Prop} (hgd : o.guard = none) (s x : Operand)
    (ho : o.op = .call { callee := .builtin .append, args := #[s, x], argTypes := #[ts, tt] })
    (base : Nat) (v : Value) (l : List UInt8) (hs : a.eval s = v) (hown : Own tb w base v l)
    (t : ByteArray) (hx : a.eval x = .string t) (hlen : l.length + t.size ≤ 70368744177664) (hbase : base ≤ w.heap.size)
    (h : ∀ v' w', Own tb w' base v' (l ++ bs t) → w.grownBy w' v.ownBlock → wpList P ops Q rest (a.put o.dst v') w') :
    wpList P ops Q (o :: rest) a w := by
  obtain ⟨i, hi, hz, hsz, hby⟩ := info_parts T.info
  refine Lib.wpList_append_own_string w hgd s x ts tt ho base tb i T.us T.ut hi hz hsz hby v l.length (l.map B) hs hown t hx (by unfold maxLen; omega) (by omega) hbase ?_
  intro v' w' h1 h2 _
  refine h v' w' ?_ h2
  unfold Own
  rw [List.length_append, List.map_append, bs_length]
  exact h1

/-! ### Rows of strings -/
/-- A slice of strings, as it can be read. -/
def SRow (w : World) (v : Value) (L : List ByteArray) : Prop :=
  (v = .slice none 0 0 ∧ L = []) ∨ ∃ g off cap, v = .slice (some ⟨g, off, none⟩) L.length cap ∧ g < w.heap.size ∧ L.length ≤ cap ∧ cap ≤ maxLen ∧ ∀ j (h : j < L.length), w.cell? ⟨g, off + j, none⟩ = some (.string L[j])
theorem SRow.below {w w' : World} {v : Value} {L : List ByteArray} {k : Nat} (h : SRow w v L) (hb : Below k w w') (hk : w.heap.size ≤ k) : SRow w' v L := by
  rcases h with h | ⟨g, off, cap, h1, h2, h3, h4, h5⟩
  · exact .inl h
  · exact .inr ⟨g, off, cap, h1, Nat.lt_of_lt_of_le h2 hb.size, h3, h4, fun j hj => (hb.cell (p := ⟨g, off + j, none⟩) (Nat.lt_of_lt_of_le h2 hk)).trans (h5 j hj)⟩
theorem SRow.next {w w' : World} {v : Value} {L : List ByteArray} (h : SRow w v L) (hb : Below w.heap.size w w') : SRow w' v L := h.below hb (Nat.le_refl _)
theorem SRow.shape {w : World} {v : Value} {L : List ByteArray} (h : SRow w v L) : ∃ A cap, v = .slice A L.length cap ∧ L.length ≤ cap ∧ cap ≤ maxLen := by
  rcases h with ⟨rfl, rfl⟩ | ⟨g, off, cap, h1, h2, h3, h4, h5⟩
  · exact ⟨none, 0, rfl, Nat.le_refl _, Nat.zero_le _⟩
  · exact ⟨_, cap, h1, h3, h4⟩
/-- A row that the call owns can be read. -/
theorem SRow.of_own {w : World} {base : Nat} {t : TypeId} {v : Value} {L : List ByteArray} (h : w.ownsRow base t 1 v L.length (L.map Value.string)) : SRow w v L := by
  rcases h.2 with ⟨rfl, hn⟩ | ⟨g, cap, cur, rfl, hb, hg, hnc, hcm, _⟩
  · exact .inl ⟨rfl, List.eq_nil_of_length_eq_zero hn⟩
  · refine .inr ⟨g, 0, cap, rfl, ?_, hnc, hcm, fun j hj => ?_⟩
    · rcases Nat.lt_or_ge g w.heap.size with hlt | hge
      · exact hlt
      · rw [Array.getElem?_eq_none hge] at hg; cases hg
    · have := World.ownsRow.cells h (g := g) rfl j (.string L[j]) (by rw [List.getElem?_map, List.getElem?_eq_getElem hj]; rfl)
      have e : (⟨g, 0, none⟩ : Addr).add j = ⟨g, 0 + j, none⟩ := by unfold Addr.add; split <;> simp_all
      rw [e] at this
      exact this

/-- What the body of a loop over an iterator owes where it has called what turns nothing that lay. -/
theorem keepsFrom_below {B : Nat} {W W' : World} (hb : Below W.heap.size W W') : KeepsFrom B W W' :=
  ⟨hb.size, fun k o _ hk _ => (hb.block k (Array.getElem?_eq_some_iff.1 hk).1).trans hk⟩
theorem boxed_below {W W' : World} {b : Nat} {t : TypeId} {v : Value} (h : Boxed W b t v) (hb : Below W.heap.size W W') : Boxed W' b t v := (hb.block b h.lt).trans h
theorem boxed_drew {W : World} {b : Nat} {t : TypeId} {v : Value} (h : Boxed W b t v) : Boxed W.drew b t v := h
theorem own_block {W : World} {base : Nat} {e : TypeId} {size : Nat} {v : Value} {k : Nat} {xs : List Value} (h : W.ownsRow base e size v k xs) {j : Nat} (hj : v.ownBlock = some j) : base ≤ j ∧ ∃ o : Obj, W.heap[j]? = some o ∧ o.isCells = true := by
  rcases h.2 with ⟨rfl, _⟩ | ⟨g, cap, cur, rfl, hb, hg, _⟩
  · simp [Value.ownBlock] at hj
  · obtain rfl : g = j := by simpa [Value.ownBlock] using hj
    exact ⟨hb, _, hg, rfl⟩
/-- A variable's box is stored into, behind a call that made the row longer. -/
theorem boxed_put {W w1 : World} {n₀ b : Nat} {t e : TypeId} {size : Nat} {v v' : Value} {k m : Nat} {xs ys : List Value} (hv : Boxed W b t v) (hte : t ≠ e) (hrow : W.ownsRow n₀ e size v k xs) (hn₀ : n₀ ≤ W.heap.size) (hb : n₀ ≤ b)
    (hown' : w1.ownsRow n₀ e size v' m ys) (hg : W.grownBy w1 v.ownBlock) :
    Boxed w1 b t v ∧ Boxed (w1.setCell ⟨b, 0, none⟩ v') b t v' ∧ (w1.setCell ⟨b, 0, none⟩ v').ownsRow n₀ e size v' m ys ∧ KeepsOthers W (w1.setCell ⟨b, 0, none⟩ v') ∧ Below n₀ W (w1.setCell ⟨b, 0, none⟩ v') := by
  have h1 : Boxed w1 b t v := hv.kept hg (hv.not_row hte hrow)
  refine ⟨h1, h1.set v', hown'.kept (grownBy_setCell' w1 b v') (.inr (h1.not_row hte hown').symm), ?_, ?_⟩
  · refine (KeepsOthers.of_grownBy hg fun j o ej hj => ?_).trans (KeepsOthers.setCell _ _ _)
    obtain ⟨_, o', ho', hc⟩ := own_block hrow ej
    rw [hj] at ho'
    cases ho'
    exact hc
  · exact ((Below.refl n₀ W).grown hg hn₀ fun j ej => (own_block hrow ej).1).setCell (p := ⟨b, 0, none⟩) hb v'
end Go.Proofs.Ytjflmifolmpdgaa
