/-
  A reader, a writer of octets, as the program's blocks. Conditions: those that each theorem names.
-/
import Derived.Test.YtbbglpjhblhkdaaGreatLies
namespace Go.Proofs.YtbbglpjhblhkdaaGreat
open Go.RowKit
set_option linter.unusedVariables false

/-! ### A reader -/
/-- Block g is a reader of s, made by NewReader, at the place k. -/
def RD (w : World) (g : Nat) (s : ByteArray) (k : Nat) : Prop := Lies w g 144 #[.string s, .int .i64 k, .pointer (some ⟨g, 0, none⟩)]
/-- What a reader's call does: it hands back v, and its place is k' then. -/
def Rdr (w : World) (g : Nat) (s : ByteArray) (k' : Nat) (v : Value) (e : Ending) (w' : World) : Prop := e = .returned v ∧ RD w' g s k' ∧ w.grownBy w' (some g)

/-! ### A writer -/
/-- Block g is a writer, made by NewWriter, of at most M octets: it has the octets l, the error f. -/
def WR (w : World) (base g M : Nat) (l : List UInt8) (f : Nat) : Prop :=
  ∃ v, Lies w g 137 #[v, .int .i64 M, .int .i64 f, .pointer (some ⟨g, 0, none⟩)] ∧ Own 5 w base v l
/-- What a writer's call does: it hands back v; it has l', f' then. -/
def Wtr (w : World) (base g M : Nat) (l' : List UInt8) (f' : Nat) (v : Value) (e : Ending) (w' : World) : Prop := e = .returned v ∧ WR w' base g M l' f' ∧ Kp base g w w'
theorem WR.row_ne {w : World} {base g M : Nat} {l : List UInt8} {f h : Nat} {t : TypeId} {cs : Array Value} (hW : WR w base g M l f) (hL : Lies w h t cs) (ht : t ≠ 5) : some h ≠ rowOf w g := by
  obtain ⟨v, hG, hown⟩ := hW
  rw [rowOf_lies hG rfl]
  exact hown.ne_lies hL ht
/-- Another object stays. -/
theorem Kp.lies {w w' : World} {base base' g M : Nat} {l : List UInt8} {f h : Nat} {t : TypeId} {cs : Array Value} (hk : Kp base g w w') (hW : WR w base' g M l f) (hL : Lies w h t cs) (hne : h ≠ g) (ht : t ≠ 5) : Lies w' h t cs :=
  (hk.rest h hL.lt hne (hW.row_ne hL ht)).trans hL
/-- Another writer stays, whose row is another one. -/
theorem Kp.wr {w w' : World} {base base1 base2 g M h M' : Nat} {l l' : List UInt8} {f f' : Nat} (hk : Kp base g w w') (hW : WR w base1 g M l f) (hX : WR w base2 h M' l' f') (hne : h ≠ g) (hr : rowOf w h = none ∨ rowOf w h ≠ rowOf w g) :
    WR w' base2 h M' l' f' ∧ rowOf w' h = rowOf w h ∧ (rowOf w' h = none ∨ rowOf w' h ≠ rowOf w' g) := by
  obtain ⟨v, hL, hown⟩ := hX
  have hL' := hk.lies hW hL hne (by decide)
  have e1 := rowOf_lies hL rfl
  have e2 := rowOf_lies hL' rfl
  have e3 : rowOf w' h = rowOf w h := e2.trans e1.symm
  refine ⟨⟨v, hL', ?_⟩, e3, ?_⟩
  · rcases hown.2 with ⟨rfl, hn⟩ | ⟨b, cap, cur, rfl, h1, h2, h3⟩
    · exact ⟨hown.1, .inl ⟨rfl, hn⟩⟩
    · refine ⟨hown.1, .inr ⟨b, cap, cur, rfl, h1, ?_, h3⟩⟩
      have hb : some b ≠ rowOf w g := by
        rcases hr with e | e
        · rw [e1] at e; cases e
        · rw [e1] at e; exact e
      have hbg : b ≠ g := fun e => by
        subst e
        obtain ⟨v2, hL2, _⟩ := hW
        exact Lies.ne h2 hL2 (by decide) rfl
      exact (hk.rest b (Array.getElem?_eq_some_iff.1 h2).1 hbg hb).trans h2
  · rcases hown.2 with ⟨rfl, _⟩ | ⟨b, cap, cur, rfl, h1, h2, h3⟩
    · exact .inl e2
    · rw [e3]
      rcases hr with e | e
      · exact .inl e
      · refine .inr ?_
        rcases hk.row with e4 | e4
        · rw [e4]; exact e
        · intro e5
          rw [e1] at e5
          have h6 := e4 b e5.symm
          have h7 := (Array.getElem?_eq_some_iff.1 h2).1
          omega
end Go.Proofs.YtbbglpjhblhkdaaGreat
