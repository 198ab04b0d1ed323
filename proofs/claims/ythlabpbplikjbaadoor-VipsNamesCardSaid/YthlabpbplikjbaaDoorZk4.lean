/-
  Objects that a call makes and that its callees write: a block known whole; what stays, where one object is written; appends and copies of bytes. Conditions: those that each theorem names. Blocks of a call's own, kept as a list: what of them stays when something is called, laid or written elsewhere. Conditions: as each theorem names them.
-/
import Derived.Test.YthlabpbplikjbaaDoorZk3
import Derived.Test.YthlabpbplikjbaaDoorZk1
import Derived.Deep.QuietTactic
import Derived.BigQuiet
import Derived.IntWalk
import Derived.Laws.CopyOwn
import Derived.Laws.Rows
namespace Go.Proofs.YthlabpbplikjbaaDoor
open Go.RowKit
set_option linter.unusedVariables false

/-- Block g bears the cells cs, of type t; all may be written. -/
def Lies (w : World) (g : Nat) (t : TypeId) (cs : Array Value) : Prop := w.heap[g]? = some (.cells cs t (0, 0))
section
variable {w w' : World} {g base k : Nat} {t tb : TypeId} {cs : Array Value} {v : Value} {l : List UInt8}
theorem Lies.lt (h : Lies w g t cs) : g < w.heap.size := (Array.getElem?_eq_some_iff.1 h).1
theorem Lies.cell (h : Lies w g t cs) (j : Nat) : w.cell? ⟨g, j, none⟩ = cs[j]? := cell_of_row w g j cs t (0, 0) h
theorem Lies.free (h : Lies w g t cs) (j : Nat) : w.frozen? ⟨g, j, none⟩ = false := frozen_of_row w g j cs t h
theorem Lies.set (h : Lies w g t cs) (j : Nat) (u : Value) : Lies (w.setCell ⟨g, j, none⟩ u) g t (cs.setIfInBounds j u) := heap_setCell_same w g j cs t u h
theorem Lies.grown {row : Option Nat} (h : Lies w g t cs) (hg : w.grownBy w' row) (hne : some g ≠ row) : Lies w' g t cs := (hg.block g h.lt hne).trans h
theorem Lies.below (h : Lies w g t cs) (hb : Below k w w') (hk : g < k) : Lies w' g t cs := (hb.block g hk).trans h
theorem Lies.next (h : Lies w g t cs) (hb : Below w.heap.size w w') : Lies w' g t cs := h.below hb h.lt
theorem Lies.drew (h : Lies w g t cs) : Lies w.drew g t cs := h
theorem Lies.drewN (h : Lies w g t cs) (n : Nat) : Lies (w.drewN n) g t cs := h
theorem Lies.alloc (h : Lies w g t cs) (o : Obj) : Lies (w.alloc o) g t cs := (heap_alloc_old w o h.lt).trans h
theorem Lies.new (w : World) (t : TypeId) (cs : Array Value) : Lies (w.alloc (.cells cs t)) w.heap.size t cs := heap_alloc_new w _
theorem Lies.ne {t' : TypeId} {cs' : Array Value} {g' : Nat} (h : Lies w g t cs) (h' : Lies w g' t' cs') (ht : t ≠ t') : g ≠ g' := fun e => by
  subst e
  have e : some (Obj.cells cs t (0, 0)) = some (Obj.cells cs' t' (0, 0)) := h.symm.trans h'
  injection e with e
  injection e with _ e _
  exact ht e
theorem Own.grown {row : Option Nat} (h : Own tb w base v l) (hg : w.grownBy w' row) (hne : v.ownBlock = none ∨ v.ownBlock ≠ row) : Own tb w' base v l := World.ownsRow.kept h hg hne
/-- The block of the row that lies in the first cell of block g. -/
def rowOf (w : World) (g : Nat) : Option Nat := (w.cell? ⟨g, 0, none⟩).bind Value.ownBlock
theorem rowOf_same (h : w'.heap[g]? = w.heap[g]?) : rowOf w' g = rowOf w g := by
  unfold rowOf
  rw [World.cell?_of_block (w := w) (w' := w') (a := ⟨g, 0, none⟩) h]
/-- w' is w, but for block g and the row of bytes that lies in its first cell: those may have been written, the row may be a new one. -/
structure Kp (base g : Nat) (w w' : World) : Prop where
  below : Below base w w'
  rest : ∀ k, k < w.heap.size → k ≠ g → some k ≠ rowOf w g → w'.heap[k]? = w.heap[k]?
  row : rowOf w' g = rowOf w g ∨ ∀ k, rowOf w' g = some k → w.heap.size ≤ k
theorem Kp.refl (base g : Nat) (w : World) : Kp base g w w := ⟨Below.refl _ _, fun _ _ _ _ => rfl, .inl rfl⟩
theorem Kp.trans {w'' : World} (h : Kp base g w w') (k : Kp base g w' w'') : Kp base g w w'' := by
  refine ⟨h.below.trans k.below, fun i hi hg hr => ?_, ?_⟩
  · refine (k.rest i (Nat.lt_of_lt_of_le hi h.below.size) hg ?_).trans (h.rest i hi hg hr)
    rcases h.row with e | e
    · rw [e]; exact hr
    · intro e2
      have := e i e2.symm
      omega
  · rcases k.row with e | e
    · rw [e]; exact h.row
    · exact .inr fun i hi => Nat.le_trans h.below.size (e i hi)
theorem Kp.of_grown (hg : w.grownBy w' (some g)) (hbase : base ≤ g) (hb : base ≤ w.heap.size) (hr : rowOf w' g = rowOf w g) : Kp base g w w' :=
  ⟨(Below.refl base w).grown hg hb fun k hk => by injection hk with hk; omega, fun k hk hne _ => hg.block k hk (fun e => hne (by injection e)), .inl hr⟩
theorem Kp.of_below (hg : Below w.heap.size w w') (hb : base ≤ w.heap.size) (hlt : g < w.heap.size) : Kp base g w w' :=
  ⟨hg.mono hb, fun k hk _ _ => hg.block k hk, .inl (rowOf_same (hg.block g hlt))⟩
end

section
variable {P : Program} {tb ts tt : TypeId}
end

/-- A call that only reads: it hands back v. -/
def Quiet (w : World) (v : Value) (e : Ending) (w' : World) : Prop := e = .returned v ∧ ∃ m, w' = w.drewN m
end Go.Proofs.YthlabpbplikjbaaDoor
namespace Go.Proofs.YthlabpbplikjbaaDoor
open Go.RowKit
set_option linter.unusedVariables false

/-- The listed blocks lie; what was there at the start is as it was. -/
structure Bx (w wr : World) (B : List (Nat × TypeId × Array Value)) : Prop where
  bel : Below w.heap.size w wr
  all : ∀ x ∈ B, Lies wr x.1 x.2.1 x.2.2
section
variable {w wr w' : World} {B : List (Nat × TypeId × Array Value)} {g : Nat} {t : TypeId} {cs : Array Value}
theorem Bx.start (w : World) : Bx w w [] := ⟨Below.refl _ _, fun x hx => nomatch hx⟩
theorem Bx.next (r : Bx w wr B) (hb : Below wr.heap.size wr w') : Bx w w' B := ⟨r.bel.trans (hb.mono r.bel.size), fun x hx => (r.all x hx).next hb⟩
theorem Bx.drewN (r : Bx w wr B) (n : Nat) : Bx w (wr.drewN n) B := r.next ⟨rfl, rfl, rfl, Nat.le_refl _, fun _ _ => rfl⟩
theorem Bx.drew (r : Bx w wr B) : Bx w wr.drew B := r.drewN 1
theorem Bx.alloc (r : Bx w wr B) (o : Obj) : Bx w (wr.alloc o) B := r.next ((Below.refl _ _).alloc (Nat.le_refl _) o)
theorem Bx.more (r : Bx w wr B) (t : TypeId) (cs : Array Value) : Bx w (wr.alloc (.cells cs t)) ((wr.heap.size, t, cs) :: B) := ⟨(r.alloc _).bel, fun x hx => by
  rcases List.mem_cons.1 hx with rfl | hx
  · exact Lies.new _ _ _
  · exact (r.alloc _).all x hx⟩
theorem Bx.at (r : Bx w wr B) (h : (g, t, cs) ∈ B) : Lies wr g t cs := r.all _ h
theorem Bx.add (r : Bx w wr B) (h : Lies wr g t cs) : Bx w wr ((g, t, cs) :: B) := ⟨r.bel, fun x hx => by
  rcases List.mem_cons.1 hx with rfl | hx
  · exact h
  · exact r.all x hx⟩
theorem Bx.put (r : Bx w wr B) (hg : ∀ x ∈ B, x.1 < g) (hw : w.heap.size ≤ g) (j : Nat) (v : Value) : Bx w (wr.setCell ⟨g, j, none⟩ v) B := ⟨r.bel.setCell (p := ⟨g, j, none⟩) hw v, fun x hx => by
  have h1 := r.all x hx
  have h2 := hg x hx
  unfold Lies at *
  rw [heap_setCell_other _ _ _ _ (show x.1 ≠ g by omega)]
  exact h1⟩
end
end Go.Proofs.YthlabpbplikjbaaDoor
