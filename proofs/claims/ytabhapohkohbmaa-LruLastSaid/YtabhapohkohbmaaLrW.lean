/-
  A map's entry written anew. Conditions: as the theorem names them.
-/
import Derived.Test.YtabhapohkohbmaaMp
namespace Go.Proofs.Ytabhapohkohbmaa
open Go.RowKit Go.Maps Go.ChangeMaps Go.MapKept
set_option linter.unusedVariables false

theorem perm_modify {α : Type} (f : α → α) : ∀ (l : List α) (j : Nat) (x : α), l[j]? = some x → (l.modify j f).Perm (f x :: l.eraseIdx j)
  | [], j, x, h => by simp at h
  | y :: r, 0, x, h => by
    simp at h
    subst h
    exact List.Perm.refl _
  | y :: r, j + 1, x, h => by
    have := perm_modify f r j x (by simpa using h)
    exact (this.cons y).trans (List.Perm.swap (f x) y _)
section
variable {P : Program} {k : TypeId} {w w' : World} {b : Nat} {E E' : List (Value × Value)} {t e : TypeId}
/-- 'm[key] = val' at a key that is there. -/
theorem MapE.set (h : MapE P k w b E) (K : Keyed P k) (ht : P.underlying t = some (.map k e)) {key val v0 : Value} {kl : Lit} (hkey : keyOf P k key = some kl) (hp : E.Perm ((key, v0) :: E')) :
    ∃ w', (Instr.mapUpdate t (.map (some b)) key val).run P w = .ok () w' ∧ MapE P k w' b ((key, val) :: E') ∧ w.grownBy w' (some b) ∧ w'.heap.size = w.heap.size := by
  obtain ⟨es, clock, hb, h⟩ := h
  obtain ⟨x, hx, hpx⟩ := h.mem.1 (hp.mem_iff.2 (List.mem_cons_self ..))
  have hxk : x.key = key := congrArg Prod.fst hpx
  rcases K.find w hkey es.toList h.reads with ⟨h1, h2⟩ | ⟨j, e0, h1, h2, h3⟩
  · exact absurd hxk (h2 x hx)
  · have he : e0 = x := entry_eq_of_key ((stamped_iff es clock).1 h.st).2.2 (List.mem_of_getElem? h2) hx (h3.trans hxk.symm)
    subst he
    have hj : es[j]? = some e0 := by simpa using h2
    have hmod : (es.modify j fun e => { e with key, val := val }).toList = es.toList.modify j fun e => { e with key, val := val } := by simp
    have hkey' : ∀ e', es[j]? = some e' → ({ e' with key := key, val := val } : MapEntry).key = e'.key := fun e' he' => by rw [hj] at he'; cases he'; exact h3.symm
    refine ⟨setBlock w b (.map (es.modify j fun e => { e with key, val := val }) clock), ?_, ⟨_, _, heap_setBlock_same hb _, ?_, stamped_modify h.st _ _ (fun _ _ => rfl) (fun e' _ he' => hkey' e' he'), ?_, ?_⟩, ⟨rfl, rfl, rfl, by simp [setBlock], fun i _ hi => heap_setBlock_other hb _ (fun e => hi (by rw [e]))⟩, by simp [setBlock]⟩
    · simp [Instr.mapUpdate, run_underlying ht, MapKept.run_getObj_map hb, K.check w false hkey, h1, hj, h3, K.stays w hkey, MapKept.run_setObj_map _ hb, Result.andThen, setBlock]
    · simpa using h.size
    · intro y hy
      have hm : y.key ∈ (es.modify j fun e => { e with key, val := val }).toList.map (·.key) := List.mem_map.2 ⟨y, hy, rfl⟩
      rw [modify_keys j _ hkey'] at hm
      obtain ⟨z, hz, e⟩ := List.mem_map.1 hm
      rw [← e]
      exact h.reads z hz
    · rw [hmod]
      have h5 := (perm_modify (fun e : MapEntry => { e with key, val := val }) es.toList j e0 h2).map pair
      have h6 := ((perm_erase es.toList j e0 h2).map pair).symm.trans (h.perm.trans hp)
      rw [List.map_cons, hpx] at h6
      exact h5.trans (List.Perm.cons _ h6.cons_inv)
end
end Go.Proofs.Ytabhapohkohbmaa
