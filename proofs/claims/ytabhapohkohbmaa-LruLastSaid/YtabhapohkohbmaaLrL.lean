/-
  LruLast: its mathematics, and its three rows in memory: the list, the order, the values. Conditions: as each theorem names them.
-/
import Derived.Test.YtabhapohkohbmaaLrP
import Derived.Test.YtabhapohkohbmaaLrV
import Derived.Test.YtabhapohkohbmaaLrW
import Derived.Test.YtabhapohkohbmaaPick
namespace Go.Proofs.Ytabhapohkohbmaa
open Go.RowKit Go.Maps
set_option linter.unusedVariables false
set_option linter.unusedSimpArgs false

def filK (L : List ByteArray) (k : ByteArray) : List ByteArray := L.filter fun y => decide (y ≠ k)
section
variable {R : Rw} {k : ByteArray} {v : Int} {mst : Nat}
theorem keys_drop : keysR (dropR R k) = filK (keysR R) k := by
  unfold keysR dropR filK
  rw [List.filter_map]
  rfl
theorem keys_add : keysR (addR R k v) = k :: filK (keysR R) k := by
  unfold addR
  show k :: keysR (dropR R k) = _
  rw [keys_drop]
theorem keys_get (h : lookR R k = some v) : keysR (getR R k) = k :: filK (keysR R) k := by
  unfold getR
  rw [h]
  show k :: keysR (dropR R k) = _
  rw [keys_drop]
theorem fil_all {L : List ByteArray} (h : ∀ y ∈ L, y ≠ k) : filK L k = L := by
  unfold filK
  rw [List.filter_eq_self]
  exact fun x hx => decide_eq_true (h x hx)
/-- Put where there is room, or the key is there: nobody goes. -/
theorem put_room (h0 : 0 < mst) (hl : (addR R k v).length ≤ mst) : putR mst R k v = (addR R k v, ⟨#[]⟩, false, 0) := by
  unfold putR
  rw [if_neg (by omega), if_pos hl]
theorem add_len_in {x : ByteArray × Int} (hu : UnL R) (hx : x ∈ R) : (addR R x.1 v).length ≤ R.length := by
  obtain ⟨P, Q, rfl⟩ := List.append_of_mem hx
  unfold addR dropR
  have h1 : (x :: Q).filter (fun y => decide (y.1 ≠ x.1)) = Q.filter (fun y => decide (y.1 ≠ x.1)) := List.filter_cons_of_neg (by simp)
  rw [List.filter_append, h1]
  have h2 := List.length_filter_le (fun y : ByteArray × Int => decide (y.1 ≠ x.1)) P
  have h3 := List.length_filter_le (fun y : ByteArray × Int => decide (y.1 ≠ x.1)) Q
  simp only [List.length_cons, List.length_append] at *
  omega
theorem add_len_out (hn : ∀ x ∈ R, x.1 ≠ k) : (addR R k v).length = R.length + 1 := by
  unfold addR
  rw [drop_all hn]
  rfl
/-- Put of one more than there is room for. -/
theorem put_full (h0 : 0 < mst) (hl : R.length = mst) (hn : ∀ x ∈ R, x.1 ≠ k) : ∃ last, keysR R = (keysR R).dropLast ++ [last] ∧ putR mst R k v = ((k, v) :: R.dropLast, last, true, 0) ∧ keysR ((k, v) :: R.dropLast) = k :: filK (keysR R).dropLast k := by
  have hR : R ≠ [] := by intro e; rw [e] at hl; simp at hl; omega
  have hadd : addR R k v = (k, v) :: R := by unfold addR; rw [drop_all hn]
  have e1 : R = R.dropLast ++ [R.getLast hR] := (List.dropLast_concat_getLast hR).symm
  have ek : keysR R = keysR R.dropLast ++ [(R.getLast hR).1] := by
    conv => lhs; rw [e1]
    unfold keysR
    rw [List.map_append]
    rfl
  have ed : (keysR R).dropLast = keysR R.dropLast := by rw [ek, List.dropLast_concat]
  refine ⟨(R.getLast hR).1, by rw [ed]; exact ek, ?_, ?_⟩
  · unfold putR
    rw [if_neg (by omega), if_neg (by rw [hadd]; simp; omega), hadd]
    have e2 : (k, v) :: R = ((k, v) :: R.dropLast) ++ [R.getLast hR] := by rw [List.cons_append, ← e1]
    have e3 : lastR ((k, v) :: R) = (R.getLast hR).1 := by rw [e2]; exact lastR_snoc _ _
    have e4 : ((k, v) :: R).dropLast = (k, v) :: R.dropLast := by rw [e2, List.dropLast_concat]
    rw [e3, e4]
  · rw [ed, fil_all]
    · rfl
    · intro y hy
      obtain ⟨z, hz, rfl⟩ := List.mem_map.1 hy
      exact hn z (List.dropLast_subset _ hz)
end
/-- The values' map has each key's value. -/
def VE (E : List (Value × Value)) (R : Rw) : Prop := ∀ x ∈ R, (Value.string x.1, Value.int .i64 x.2) ∈ E
theorem VE.get {E : List (Value × Value)} {R : Rw} {k : ByteArray} {v : Int} (h : VE E R) (hu : UnL R) (hl : lookR R k = some v) : VE E (getR R k) := by
  unfold getR
  rw [hl]
  intro x hx
  rcases List.mem_cons.1 hx with rfl | hx
  · rcases look_cases R k hu with ⟨h1, _⟩ | ⟨y, hy, rfl, h2⟩
    · rw [hl] at h1; cases h1
    · rw [hl] at h2
      injection h2 with h2
      subst h2
      exact h y hy
  · exact h x (List.mem_filter.1 hx).1
theorem VE.put {E E' : List (Value × Value)} {R : Rw} {k : ByteArray} {v : Int} (h : VE E R) (h1 : (Value.string k, Value.int .i64 v) ∈ E') (h2 : ∀ p ∈ E, p.1 ≠ .string k → p ∈ E') (mst : Nat) (hm : 0 < mst) (hl : R.length ≤ mst) : VE E' (putR mst R k v).1 := by
  intro x hx
  rw [put_take hm hl] at hx
  rcases List.mem_cons.1 (List.mem_of_mem_take hx) with rfl | hx
  · exact h1
  · obtain ⟨h3, h4⟩ := List.mem_filter.1 hx
    refine h2 _ (h x h3) fun e => ?_
    injection e with e
    exact of_decide_eq_true h4 e
/-- 'm[key] = val'. -/
theorem MapE.upd {P : Program} {k : TypeId} {w : World} {b : Nat} {E : List (Value × Value)} {t e : TypeId} (h : MapE P k w b E) (K : Keyed P k) (ht : P.underlying t = some (.map k e)) (hr : E.length < maxLen) {key val : Value} {kl : Lit} (hkey : keyOf P k key = some kl) :
    ∃ w' E', (Instr.mapUpdate t (.map (some b)) key val).run P w = .ok () w' ∧ MapE P k w' b E' ∧ (key, val) ∈ E' ∧ (∀ p ∈ E, p.1 ≠ key → p ∈ E') ∧ E'.length ≤ E.length + 1 ∧ w.grownBy w' (some b) ∧ w'.heap.size = w.heap.size := by
  by_cases hx : ∃ p ∈ E, p.1 = key
  · obtain ⟨⟨k0, v0⟩, hp, rfl⟩ := hx
    obtain ⟨A, B, rfl⟩ := List.append_of_mem hp
    obtain ⟨w', h1, h2, h3, h4⟩ := h.set K ht (val := val) hkey List.perm_middle
    refine ⟨w', _, h1, h2, List.mem_cons_self, ?_, by simp, h3, h4⟩
    intro p hp hne
    rcases List.mem_append.1 hp with hp | hp
    · exact List.mem_cons_of_mem _ (List.mem_append.2 (Or.inl hp))
    · rcases List.mem_cons.1 hp with rfl | hp
      · exact absurd rfl hne
      · exact List.mem_cons_of_mem _ (List.mem_append.2 (Or.inr hp))
  · obtain ⟨w', h1, h2, h3, h4⟩ := h.put K ht hr (val := val) hkey (fun p hp e => hx ⟨p, hp, e⟩)
    exact ⟨w', _, h1, h2, by simp, fun p hp _ => List.mem_append.2 (Or.inl hp), by simp, h3, h4⟩
end Go.Proofs.Ytabhapohkohbmaa
