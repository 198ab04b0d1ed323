/-
  Blocks of a call's own, kept as a list: what of them stays when something is called, laid or written elsewhere. Conditions: as each theorem names them.
-/
import Derived.Test.YtjadghmanpkgoaaGreatDoorLies
import Derived.Laws.Rows
namespace Go.Proofs.YtjadghmanpkgoaaGreatDoor
open Go.RowKit
set_option linter.unusedVariables false

/-- The listed blocks lie; what was there at the start is as it was. -/
structure Bx (w wr : World) (B : List (Nat × TypeId × Array Value)) : Prop where
  bel : Below w.heap.size w wr
  all : ∀ x ∈ B, Lies wr x.1 x.2.1 x.2.2
section
variable {w wr w' : World} {B : List (Nat × TypeId × Array Value)} {g : Nat} {t : TypeId} {cs : Array Value}
theorem Bx.start (w : World) : Bx w w [] := ⟨Below.refl _ _, fun x hx => nomatch hx⟩
theorem Bx.next (r : Bx w wr B) (hb : Below wr.heap.size wr w') : Bx w w' B := ⟨r.bel.trans (hb.mono r.bel.size), fun x hx => (r.all x hx).next hb⟩
theorem Bx.drewN (r : Bx w wr B) (n : Nat) : Bx w (wr.drewN n) B := r.next ⟨rfl, rfl, rfl, Nat.le_refl _, fun _ _ => rfl⟩
theorem Bx.drew (r : Bx w wr B) : Bx w wr.drew B := r.drewN 1
theorem Bx.alloc (r : Bx w wr B) (o : Obj) : Bx w (wr.alloc o) B := r.next ((Below.refl _ _).alloc (Nat.le_refl _) o)
theorem Bx.more (r : Bx w wr B) (t : TypeId) (cs : Array Value) : Bx w (wr.alloc (.cells cs t)) ((wr.heap.size, t, cs) :: B) := ⟨(r.alloc _).bel, fun x hx => by
  rcases List.mem_cons.1 hx with rfl | hx
  · exact Lies.new _ _ _
  · exact (r.alloc _).all x hx⟩
theorem Bx.at (r : Bx w wr B) (h : (g, t, cs) ∈ B) : Lies wr g t cs := r.all _ h
theorem Bx.ltall (r : Bx w wr B) : ∀ x ∈ B, x.1 < wr.heap.size := fun x hx => (r.all x hx).lt
theorem Bx.add (r : Bx w wr B) (h : Lies wr g t cs) : Bx w wr ((g, t, cs) :: B) := ⟨r.bel, fun x hx => by
  rcases List.mem_cons.1 hx with rfl | hx
  · exact h
  · exact r.all x hx⟩
theorem Bx.put (r : Bx w wr B) (hg : ∀ x ∈ B, x.1 < g) (hw : w.heap.size ≤ g) (j : Nat) (v : Value) : Bx w (wr.setCell ⟨g, j, none⟩ v) B := ⟨r.bel.setCell (p := ⟨g, j, none⟩) hw v, fun x hx => by
  have h1 := r.all x hx
  have h2 := hg x hx
  unfold Lies at *
  rw [heap_setCell_other _ _ _ _ (show x.1 ≠ g by omega)]
  exact h1⟩
end
end Go.Proofs.YtjadghmanpkgoaaGreatDoor
