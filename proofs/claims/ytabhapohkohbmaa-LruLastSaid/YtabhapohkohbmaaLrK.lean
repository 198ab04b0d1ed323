/-
  What a call may change: the blocks of one set, which may come to be another set. Conditions: as each theorem names them.
-/
import Derived.Test.YtabhapohkohbmaaLrM
import Derived.Test.YtabhapohkohbmaaMp
import Derived.Test.YtabhapohkohbmaaLies
import Derived.Test.YtabhapohkohbmaaCls
import Derived.Test.YtabhapohkohbmaaPh
import Derived.Test.YtabhapohkohbmaaSeq
import Derived.Maps.Own
import Derived.Maps.OwnSet
import Derived.DeepKeys4
import Derived.LaidEqlPtr
import Derived.Deep.Cut
import Derived.Laws.MakeOwn
import Derived.Maps.AppendAt
import Derived.LoopTactic
namespace Go.Proofs.Ytabhapohkohbmaa
open Go.RowKit Go.Maps
set_option linter.unusedVariables false
set_option linter.unusedSimpArgs false

/-- Blocks that lay and are not among T lie as they lay, and are not among T' either; the rest of the world stays. -/
structure Kl (T T' : Nat → Prop) (w w' : World) : Prop where
  os : w'.os = w.os
  tape : w'.tape = w.tape
  output : w'.output = w.output
  size : w.heap.size ≤ w'.heap.size
  kp : Kpt T T' w w'
section
variable {T T' T'' : Nat → Prop} {w w' w'' : World}
theorem Kl.refl (T : Nat → Prop) (w : World) : Kl T T w w := ⟨rfl, rfl, rfl, Nat.le_refl _, .refl _ _⟩
theorem Kl.trans (h : Kl T T' w w') (k : Kl T' T'' w' w'') : Kl T T'' w w'' := ⟨k.os.trans h.os, k.tape.trans h.tape, k.output.trans h.output, Nat.le_trans h.size k.size, h.kp.trans k.kp⟩
theorem Kl.of_below (hb : Below w.heap.size w w') : Kl T T w w' := ⟨hb.os, hb.tape, hb.output, hb.size, .below hb⟩
theorem Kl.of_grown {b : Nat} (hg : w.grownBy w' (some b)) (hb : T b) : Kl T T w w' := ⟨hg.os, hg.tape, hg.output, hg.size, .of_grown hg fun k e _ => by injection e with e; exact e ▸ hb⟩
theorem Kl.setCell (h : Kl T T' w w') {g : Nat} (hg : T' g) (j : Nat) (v : Value) : Kl T T' w (w'.setCell ⟨g, j, none⟩ v) := ⟨h.os, h.tape, h.output, by simpa [World.setCell] using h.size, h.kp.trans (Kpt.setCell (p := ⟨g, j, none⟩) hg v)⟩
theorem Kl.drew (h : Kl T T' w.drew w') : Kl T T' w w' := ⟨h.os, h.tape, h.output, h.size, h.kp⟩
theorem Kl.lies (h : Kl T T' w w') {g : Nat} {t : TypeId} {cs : Array Value} (hl : Lies w g t cs) (hT : ¬ T g) : Lies w' g t cs := (h.kp.at hl hT).1
theorem Kl.map (h : Kl T T' w w') {P : Program} {k : TypeId} {b : Nat} {E : List (Value × Value)} (hl : MapE P k w b E) (hT : ¬ T b) : MapE P k w' b E := hl.same (h.kp b hl.lt hT).1
theorem Kl.not (h : Kl T T' w w') {b : Nat} (hb : b < w.heap.size) (hT : ¬ T b) : ¬ T' b := (h.kp b hb hT).2
theorem Kl.weak {S : Nat → Prop} (h : Kl T T w w') (hs : ∀ b, T b → S b) : Kl S S w w' := ⟨h.os, h.tape, h.output, h.size, fun b hb hS => ⟨(h.kp b hb fun ht => hS (hs b ht)).1, hS⟩⟩
theorem Kl.more (h : Kl T T' w w') {S : Nat → Prop} (hs : ∀ k, S k → T' k ∨ w.heap.size ≤ k) : Kl T S w w' := ⟨h.os, h.tape, h.output, h.size, fun b hb ht => ⟨(h.kp b hb ht).1, fun h' => (hs b h').elim (h.kp b hb ht).2 fun hle => absurd hb (Nat.not_lt.2 hle)⟩⟩
theorem Kl.below {n : Nat} (h : Kl T T' w w') (hn : n ≤ w.heap.size) (hT : ∀ b, T b → n ≤ b) : Below n w w' := ⟨h.os, h.tape, h.output, h.size, fun i hi => (h.kp i (Nat.lt_of_lt_of_le hi hn) fun ht => absurd (hT i ht) (by omega)).1⟩
end
theorem Lies.setOther {w : World} {g g' j : Nat} {t : TypeId} {cs : Array Value} (h : Lies w g t cs) (hne : g ≠ g') (u : Value) : Lies (w.setCell ⟨g', j, none⟩ u) g t cs := (heap_setCell_other w ⟨g', j, none⟩ g u hne).trans h
theorem lies_ne_mapP {P : Program} {w : World} {g b : Nat} {t k : TypeId} {cs : Array Value} {E : List (Value × Value)} (h : Lies w g t cs) (hm : MapE P k w b E) : g ≠ b := fun e => by
  obtain ⟨es, clock, hb, _⟩ := hm
  subst e
  have : some (Obj.cells cs t (0, 0)) = some (Obj.map es clock) := h.symm.trans hb
  cases this
theorem MapE.setCell {P : Program} {w : World} {g b j : Nat} {t k : TypeId} {cs : Array Value} {E : List (Value × Value)} (hm : MapE P k w b E) (h : Lies w g t cs) (u : Value) : MapE P k (w.setCell ⟨g, j, none⟩ u) b E := hm.same (heap_setCell_other w ⟨g, j, none⟩ b u (lies_ne_mapP h hm).symm)
section
variable {P : Program} (w : World)
theorem run_neq_same {tp te : TypeId} {j : TypeInfo} (a : Addr) (hp : P.underlying tp = some (.pointer te)) (hte : P.info? te = some j) :
    (binOp .neq tp (.pointer (some a)) (.pointer (some a))).run P w = .ok (.bool false) w := by
  have h : ∀ d : Nat, (Op.equalIn (d + 1) tp (.pointer (some a)) (.pointer (some a))).run P w = .ok true w := fun d => by
    simp [Op.equalIn, run_underlying hp, sizeOf, typeInfo, hte, run_sameAddr_same]
  simp only [binOp]
  simp [Op.equal, Op.maxDepth, h 9999]
theorem run_neq_other {tp te : TypeId} {j : TypeInfo} {a b : Addr} {ca cb : Array Value} {ta tb : TypeId} (hp : P.underlying tp = some (.pointer te)) (hte : P.info? te = some j) (hsz : j.size ≠ 0)
    (hne : a ≠ b) (ha : w.heap[a.block]? = some (.cells ca ta (0, 0))) (hb : w.heap[b.block]? = some (.cells cb tb (0, 0))) :
    (binOp .neq tp (.pointer (some a)) (.pointer (some b))).run P w = .ok (.bool true) w := by
  have h : ∀ d : Nat, (Op.equalIn (d + 1) tp (.pointer (some a)) (.pointer (some b))).run P w = .ok false w := fun d => by
    simp [Op.equalIn, run_underlying hp, sizeOf, typeInfo, hte, hsz, run_sameAddr_other w hne ha hb]
  simp only [binOp]
  simp [Op.equal, Op.maxDepth, h 9999]
end
theorem skeyL : Keyed Try.prog 9 := string_keyed Try.underlying9
theorem keyK {k : ByteArray} (h : k.size ≤ maxLen) : keyOf Try.prog 9 (.string k) = some (.string k.data.toList) := Go.WideMaps.keyOf_string_mk Try.underlying9 h
end Go.Proofs.Ytabhapohkohbmaa
