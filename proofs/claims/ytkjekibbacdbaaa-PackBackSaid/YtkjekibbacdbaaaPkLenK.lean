/-
  A law's own row of places beside a packer; the states that PackLengths goes through. Conditions: as each theorem names them.
-/
import Derived.Test.YtkjekibbacdbaaaPkLives
import Derived.Test.YtkjekibbacdbaaaPkLenM
import Derived.Test.YtkjekibbacdbaaaPkOpen
namespace Go.Proofs.Ytkjekibbacdbaaa
open Go.RowKit Go.Maps
set_option linter.unusedVariables false

theorem NRow.cell {w : World} {q o n cap : Nat} {L : List ByteArray} (h : NRow w (.slice (some ⟨q, o, none⟩) n cap) L) (j : Nat) (hj : j < L.length) : w.cell? ⟨q, o + j, none⟩ = some (.string L[j]) := by
  obtain ⟨g, o', e, _, h⟩ := h.at j hj
  injection e with e
  injection e with e1 e2
  subst e1; subst e2
  exact h
section
variable {w w' : World} {base b g M : Nat} {F F' : Nat → Prop} {s : PS} {va va' : Value} {o : List Nat} {a : Nat}
theorem at_app (hp : PK w b F g M s) (hv : OwnI w base va o) (hd : ∀ k, va.ownBlock = some k → ¬ F k) (hbase : base ≤ w.heap.size)
    (h1 : w'.ownsRow base 3 1 va' (o.length + 1) (o.map I64 ++ [I64 a])) (hg : (w.alloc (.cells #[I64 a] 3)).grownBy w' va.ownBlock) (hob : va'.ownBlock = va.ownBlock ∨ va'.ownBlock = some (w.alloc (.cells #[I64 a] 3)).heap.size) :
    OwnI w' base va' (o ++ [a]) ∧ (∀ k, va'.ownBlock = some k → ¬ F k) ∧ PK w' b F g M s ∧ Below base w w' := by
  have hg' := grown_alloc hg
  refine ⟨by unfold OwnI; rw [List.length_append, List.map_append]; exact h1, fun k hk hF => ?_, hp.kept hg'.size fun k hF => hg'.block k (hp.lt hF).2 (fun e => hd k e.symm hF), (Below.refl base w).grown hg' hbase (fun k hk => (hv.block hk).1)⟩
  rcases hob with e | e
  · exact hd k (e ▸ hk) hF
  · rw [e] at hk
    injection hk with hk
    have := (hp.lt hF).2
    simp at hk
    omega
theorem at_pk (hv : OwnI w base va o) (hd : ∀ k, va.ownBlock = some k → ¬ F k) (hk : Kf b F F' w w') : OwnI w' base va o ∧ ∀ k, va.ownBlock = some k → ¬ F' k :=
  ⟨hv.same fun k h => hk.rest k (hv.block h).2.1 (hd k h), fun k h h' => (hk.sub k h').elim (hd k h) (fun e => by have := (hv.block h).2.1; omega)⟩
theorem OwnI.ptr {A : Option Addr} {n cap : Nat} (hv : OwnI w base (.slice A n cap) o) (hne : o ≠ []) : ∃ q, A = some ⟨q, 0, none⟩ := by
  rcases hv.2 with ⟨_, hn⟩ | ⟨q, cap', cur, h1, _⟩
  · exact absurd (List.eq_nil_of_length_eq_zero hn) hne
  · injection h1 with h1
    exact ⟨q, h1⟩
theorem at_cell {q n cap : Nat} (hv : OwnI w base (.slice (some ⟨q, 0, none⟩) n cap) o) {j : Nat} (hj : o[j]? = some a) : w.cell? ⟨q, j, none⟩ = some (.int .i64 a) := by
  have := World.ownsRow.cells hv (g := q) rfl j (I64 a) (by rw [List.getElem?_map, hj]; rfl)
  rw [add_off] at this
  exact this
end
def stL (R : List (List UInt8)) (k : Nat) : PS := ⟨flat (R.take k), 0, fun _ => none, atsN R k⟩
def stM (R : List (List UInt8)) (k : Nat) : PS := ⟨flat (R.take k) ++ [0, 0], 0, fun _ => none, atsN R k ++ [off R k]⟩
theorem stL_begin (R : List (List UInt8)) {k : Nat} (hk : k ≤ R.length) (h : off R k + 2 ≤ 65535) : beginS 65535 (stL R k) = (off R k, 0, stM R k) := by
  have hl := flat_len R k hk
  rw [begin_room rfl (by show (flat (R.take k)).length + 2 ≤ 65535; omega)]
  unfold stL stM
  simp only [hl]
theorem stM_put (R : List (List UInt8)) {k : Nat} (hk : k < R.length) (h : off R k + (R[k].length + 2) ≤ 65535) : putS 65535 (stM R k) R[k] = (0, stL R (k + 1)) := by
  have hl := flat_len R k (by omega)
  rw [put_room rfl (by show (flat (R.take k) ++ [0, 0]).length + R[k].length ≤ 65535; rw [List.length_append, hl]; simp; omega)]
  unfold stL stM
  rw [flat_succ R k hk, atsN_succ]
  simp
def stE (R : List (List UInt8)) (l : List UInt8) (j : Nat) : PS := ⟨l, 0, fun _ => none, atsN R j⟩
theorem stE_ok (R : List (List UInt8)) (l : List UInt8) (j : Nat) : endS (stE R l (j + 1)) (off R j : Int) = (0, stE R (over l (off R j) (octs (l.length - off R j - 2) 2)) j) := end_ok (s := stE R l (j + 1)) rfl rfl
theorem stE_no (R : List (List UInt8)) (l : List UInt8) (j : Nat) (hj : j + 1 < R.length) : endS (stE R l (j + 2)) (off R j : Int) = (9, stE R l (j + 2)) :=
  end_no (s := stE R l (j + 2)) (j := j + 1) rfl rfl (by have := off_mono R (j := j) (by omega) (j + 1) (by omega) (by omega); omega)
def LnRel (R : List (List UInt8)) (w : World) (b g : Nat) (va vi : Value) (wr : World) : Prop :=
  ∃ (k : Nat) (F : Nat → Prop), vi = .int .i64 k ∧ k ≤ R.length ∧ off R k ≤ 302 * k ∧ PK wr b F g 65535 (stL R k) ∧ OwnI wr b va (atsN R k) ∧ (∀ q, va.ownBlock = some q → ¬ F q) ∧ Below w.heap.size w wr
def LdRel (R : List (List UInt8)) (w : World) (b g : Nat) (va vi : Value) (wr : World) : Prop :=
  ∃ (j : Nat) (F : Nat → Prop) (l : List UInt8), vi = .int .i64 ((j : Int) - 1) ∧ j ≤ R.length ∧ Fil R l j ∧ PK wr b F g 65535 (stE R l j) ∧ OwnI wr b va (atsN R R.length) ∧ (∀ q, va.ownBlock = some q → ¬ F q) ∧ Below w.heap.size w wr
def LtRel (n : Nat) (wE : World) (vi : Value) (wr : World) : Prop := ∃ p m : Nat, vi = .int .i64 p ∧ p ≤ n ∧ wr = wE.drewN m
end Go.Proofs.Ytkjekibbacdbaaa
