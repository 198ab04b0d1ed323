/-
  A map's block as a row of entries, in whatever order: asked, written at a new key, struck, gone through. Conditions: as each theorem names them.
-/
import Derived.Maps.Range
namespace Go.Proofs.Ytabhapohkohbmaa
open Go.RowKit Go.Maps Go.ChangeMaps Go.MapKept
set_option linter.unusedVariables false

def pair (x : MapEntry) : Value × Value := (x.key, x.val)
/-- What lies in the block: its entries E, in some order; each key reads as one. -/
structure Ents (P : Program) (k : TypeId) (es : Array MapEntry) (clock : Nat) (E : List (Value × Value)) : Prop where
  size : es.size ≤ maxLen
  st : Stamped es clock
  reads : ∀ x ∈ es.toList, ∃ l, keyOf P k x.key = some l
  perm : (es.toList.map pair).Perm E
/-- Block b is a map of the entries E. -/
def MapE (P : Program) (k : TypeId) (w : World) (b : Nat) (E : List (Value × Value)) : Prop := ∃ es clock, w.heap[b]? = some (.map es clock) ∧ Ents P k es clock E
/-- It is gone through by the iterator r: those of Lf are still to come. -/
def RangeE (P : Program) (k : TypeId) (w : World) (b r : Nat) (E Lf : List (Value × Value)) : Prop :=
  ∃ es clock since seen c0, w.heap[b]? = some (.map es clock) ∧ Ents P k es clock E ∧ w.heap[r]? = some (.mapIter (some b) since seen c0) ∧ (∀ x ∈ es.toList, x.born < since) ∧ ((leftOf es seen).toList.map pair).Perm Lf ∧ since ≤ c0 ∧ since ≤ clock

section
variable {P : Program} {k : TypeId} {w w' : World} {b r : Nat} {E E' Lf : List (Value × Value)} {es : Array MapEntry} {clock : Nat}

theorem Ents.mem (h : Ents P k es clock E) {p : Value × Value} : p ∈ E ↔ ∃ x ∈ es.toList, pair x = p := by rw [← h.perm.mem_iff, List.mem_map]
theorem Ents.len (h : Ents P k es clock E) : es.size = E.length := by rw [← h.perm.length_eq, List.length_map, Array.length_toList]
theorem Ents.apart (h : Ents P k es clock E) : E.Pairwise fun p q => p.1 ≠ q.1 := by
  refine (h.perm.pairwise_iff (fun {_ _} hne => Ne.symm hne)).1 ?_
  rw [List.pairwise_map]
  exact ((stamped_iff es clock).1 h.st).2.2
theorem MapE.lt (h : MapE P k w b E) : b < w.heap.size := by obtain ⟨es, clock, hb, _⟩ := h; exact (Array.getElem?_eq_some_iff.1 hb).1
theorem MapE.apart (h : MapE P k w b E) : E.Pairwise fun p q => p.1 ≠ q.1 := by obtain ⟨es, clock, hb, h⟩ := h; exact h.apart
theorem MapE.same (h : MapE P k w b E) (hs : w'.heap[b]? = w.heap[b]?) : MapE P k w' b E := by obtain ⟨es, clock, hb, h⟩ := h; exact ⟨es, clock, hs.trans hb, h⟩
theorem MapE.next (h : MapE P k w b E) (hb : Below w.heap.size w w') : MapE P k w' b E := h.same (hb.block b h.lt)
theorem MapE.below {n : Nat} (h : MapE P k w b E) (hb : Below n w w') (hn : b < n) : MapE P k w' b E := h.same (hb.block b hn)
theorem MapE.alloc (h : MapE P k w b E) (o : Obj) : MapE P k (w.alloc o) b E := h.next ((Below.refl _ _).alloc (Nat.le_refl _) o)
theorem MapE.grown {row : Option Nat} (h : MapE P k w b E) (hg : w.grownBy w' row) (hne : some b ≠ row) : MapE P k w' b E := h.same (hg.block b h.lt hne)
theorem MapE.perm (h : MapE P k w b E) (hp : E.Perm E') : MapE P k w b E' := by obtain ⟨es, clock, hb, h⟩ := h; exact ⟨es, clock, hb, h.size, h.st, h.reads, h.perm.trans hp⟩
theorem MapE.new (P : Program) (k : TypeId) (w : World) : MapE P k (w.alloc (.map #[] 0)) w.heap.size [] :=
  ⟨#[], 0, (MapKept.heap_alloc w _).1, by simp, stamped_empty 0, by simp, by simp⟩
/-- The same entries in another block. -/
theorem MapE.copy {w0 : World} (hb : w.heap[b]? = some (.map es clock)) (h : Ents P k es clock E) : MapE P k (w0.alloc (.map es clock)) w0.heap.size E := ⟨es, clock, (MapKept.heap_alloc w0 _).1, h⟩
theorem MapE.room (h : MapE P k w b E) : E.length ≤ maxLen := by obtain ⟨es, clock, hb, h⟩ := h; rw [← h.len]; exact h.size

variable {t e : TypeId}
/-- 'm[key]', where there is none. -/
theorem MapE.look_no (c : Bool) (h : MapE P k w b E) (K : Keyed P k) (ht : P.underlying t = some (.map k e)) {z : Value} (hz : (zeroValue e).run P w = .ok z w) {key : Value} {kl : Lit} (hkey : keyOf P k key = some kl) (hn : ∀ p ∈ E, p.1 ≠ key) :
    (Instr.lookup t (.map (some b)) key c).run P w = .ok (if c then .tuple #[z, .bool false] else z) w := by
  obtain ⟨es, clock, hb, h⟩ := h
  rcases K.find w hkey es.toList h.reads with ⟨h1, h2⟩ | ⟨j, e0, h1, h2, h3⟩
  · simp [Instr.lookup, run_underlying ht, MapKept.run_getObj_map hb, K.check w _ hkey, h1, hz, Result.andThen]
  · exact absurd h3 (hn (pair e0) (h.mem.2 ⟨e0, List.mem_of_getElem? h2, rfl⟩))
/-- 'm[key]', where there is one. -/
theorem MapE.look_yes (c : Bool) (h : MapE P k w b E) (K : Keyed P k) (ht : P.underlying t = some (.map k e)) {key v : Value} {kl : Lit} (hkey : keyOf P k key = some kl) (hm : (key, v) ∈ E) :
    (Instr.lookup t (.map (some b)) key c).run P w = .ok (if c then .tuple #[v, .bool true] else v) w := by
  obtain ⟨es, clock, hb, h⟩ := h
  obtain ⟨x, hx, hpx⟩ := h.mem.1 hm
  have hxk : x.key = key := congrArg Prod.fst hpx
  have hxv : x.val = v := congrArg Prod.snd hpx
  rcases K.find w hkey es.toList h.reads with ⟨h1, h2⟩ | ⟨j, e0, h1, h2, h3⟩
  · exact absurd hxk (h2 x hx)
  · have : e0 = x := entry_eq_of_key ((stamped_iff es clock).1 h.st).2.2 (List.mem_of_getElem? h2) hx (h3.trans hxk.symm)
    subst this
    simp [Instr.lookup, run_underlying ht, MapKept.run_getObj_map hb, K.check w _ hkey, h1, Result.andThen, hxv]
/-- 'm[key] = val' at a key that is not there. -/
theorem MapE.put (h : MapE P k w b E) (K : Keyed P k) (ht : P.underlying t = some (.map k e)) (hr : E.length < maxLen) {key val : Value} {kl : Lit} (hkey : keyOf P k key = some kl) (hn : ∀ p ∈ E, p.1 ≠ key) :
    ∃ w', (Instr.mapUpdate t (.map (some b)) key val).run P w = .ok () w' ∧ MapE P k w' b (E ++ [(key, val)]) ∧ w.grownBy w' (some b) ∧ w'.heap.size = w.heap.size := by
  obtain ⟨es, clock, hb, h⟩ := h
  rcases K.find w hkey es.toList h.reads with ⟨h1, h2⟩ | ⟨j, e0, h1, h2, h3⟩
  · refine ⟨setBlock w b (.map (es.push ⟨key, val, clock⟩) (clock + 1)), ?_, ⟨_, _, heap_setBlock_same hb _, ?_, stamped_push h.st h2, ?_, ?_⟩, ⟨rfl, rfl, rfl, by simp [setBlock], fun i _ hi => heap_setBlock_other hb _ (fun e => hi (by rw [e]))⟩, by simp [setBlock]⟩
    · simp [Instr.mapUpdate, run_underlying ht, MapKept.run_getObj_map hb, K.check w false hkey, h1, MapKept.run_setObj_map _ hb, Result.andThen, setBlock]
    · have := h.len
      simp
      omega
    · intro x hx
      simp only [Array.toList_push, List.mem_append, List.mem_singleton] at hx
      rcases hx with hx | rfl
      · exact h.reads x hx
      · exact ⟨_, hkey⟩
    · rw [Array.toList_push, List.map_append, List.map_singleton]
      exact h.perm.append_right _
  · exact absurd h3 (hn (pair e0) (h.mem.2 ⟨e0, List.mem_of_getElem? h2, rfl⟩))
theorem perm_erase {α : Type} [DecidableEq Nat] : ∀ (l : List α) (j : Nat) (x : α), l[j]? = some x → l.Perm (x :: l.eraseIdx j)
  | [], j, x, h => by simp at h
  | y :: r, 0, x, h => by simp at h; subst h; exact List.Perm.refl _
  | y :: r, j + 1, x, h => by
    have := perm_erase r j x (by simpa using h)
    exact (this.cons y).trans (List.Perm.swap x y _)
/-- The block behind 'delete(m, key)', where there is one. -/
theorem ents_drop (hb : w.heap[b]? = some (.map es clock)) (h : Ents P k es clock E) (K : Keyed P k) (ht : P.underlying t = some (.map k e)) {ty : TypeId} {key v : Value} {kl : Lit} (hkey : keyOf P k key = some kl) (hp : E.Perm ((key, v) :: E')) :
    ∃ j x, es.toList[j]? = some x ∧ pair x = (key, v) ∧ (Builtin.delete_ #[t, k] ty #[.map (some b), key]).run P w = .ok (.tuple #[]) (setBlock w b (.map (es.eraseIdxIfInBounds j) clock)) ∧ Ents P k (es.eraseIdxIfInBounds j) clock E' ∧ (es.eraseIdxIfInBounds j).toList = es.toList.eraseIdx j := by
  obtain ⟨x, hx, hpx⟩ := h.mem.1 (hp.mem_iff.2 (List.mem_cons_self ..))
  have hxk : x.key = key := congrArg Prod.fst hpx
  rcases K.find w hkey es.toList h.reads with ⟨h1, h2⟩ | ⟨j, e0, h1, h2, h3⟩
  · exact absurd hxk (h2 x hx)
  · have he : e0 = x := entry_eq_of_key ((stamped_iff es clock).1 h.st).2.2 (List.mem_of_getElem? h2) hx (h3.trans hxk.symm)
    subst he
    have hjl : j < es.toList.length := (List.getElem?_eq_some_iff.1 h2).1
    have hjs : j < es.size := by simpa using hjl
    have hsub : (es.eraseIdxIfInBounds j).toList = es.toList.eraseIdx j := by
      unfold Array.eraseIdxIfInBounds
      rw [dif_pos hjs]
      simp
    refine ⟨j, e0, h2, hpx, ?_, ⟨Nat.le_trans (MapFrom.size_erase es j) h.size, stamped_erase h.st j, ?_, ?_⟩, hsub⟩
    · simp [Builtin.delete_, run_underlying ht, MapKept.run_getObj_map hb, K.check w _ hkey, h1, MapKept.run_setObj_map _ hb, Result.andThen, setBlock]
    · intro y hy
      rw [hsub] at hy
      exact h.reads y ((List.eraseIdx_sublist _ _).subset hy)
    · rw [hsub]
      have h5 := ((perm_erase es.toList j e0 h2).map pair).symm.trans (h.perm.trans hp)
      rw [List.map_cons, hpx] at h5
      exact h5.cons_inv
/-- 'delete(m, key)', where there is one. -/
theorem MapE.drop (h : MapE P k w b E) (K : Keyed P k) (ht : P.underlying t = some (.map k e)) {ty : TypeId} {key v : Value} {kl : Lit} (hkey : keyOf P k key = some kl) (hp : E.Perm ((key, v) :: E')) :
    ∃ w', (Builtin.delete_ #[t, k] ty #[.map (some b), key]).run P w = .ok (.tuple #[]) w' ∧ MapE P k w' b E' ∧ w.grownBy w' (some b) ∧ w'.heap.size = w.heap.size := by
  obtain ⟨es, clock, hb, h⟩ := h
  obtain ⟨j, x, _, _, hrun, h', _⟩ := ents_drop (ty := ty) hb h K ht hkey hp
  exact ⟨_, hrun, ⟨_, _, heap_setBlock_same hb _, h'⟩, ⟨rfl, rfl, rfl, by simp [setBlock], fun i _ hi => heap_setBlock_other hb _ (fun e => hi (by rw [e]))⟩, by simp [setBlock]⟩
/-- 'len(m)'. -/
theorem MapE.len (h : MapE P k w b E) (ht : P.underlying t = some (.map k e)) (ty : TypeId) : (Builtin.len_ #[t] ty #[.map (some b)]).run P w = .ok (.int .i64 (E.length : Int)) w := by
  obtain ⟨es, clock, hb, h⟩ := h
  rw [← h.len]
  simp [Builtin.len_, run_underlying ht, MapKept.run_getObj_map hb, Result.andThen, go_sem]

theorem RangeE.owns (h : RangeE P k w b r E Lf) : MapE P k w b E := by obtain ⟨es, clock, since, seen, c0, hb, h, _⟩ := h; exact ⟨es, clock, hb, h⟩
theorem RangeE.lt (h : RangeE P k w b r E Lf) : r < w.heap.size := by obtain ⟨es, clock, since, seen, c0, _, _, hr, _⟩ := h; exact (Array.getElem?_eq_some_iff.1 hr).1
theorem RangeE.ne (h : RangeE P k w b r E Lf) : r ≠ b := by
  obtain ⟨es, clock, since, seen, c0, hb, _, hr, _⟩ := h
  intro e
  rw [e, hb] at hr
  cases hr
theorem RangeE.same (h : RangeE P k w b r E Lf) (h1 : w'.heap[b]? = w.heap[b]?) (h2 : w'.heap[r]? = w.heap[r]?) : RangeE P k w' b r E Lf := by
  obtain ⟨es, clock, since, seen, c0, hb, he, hr, rest⟩ := h
  exact ⟨es, clock, since, seen, c0, h1.trans hb, he, h2.trans hr, rest⟩
/-- 'range m'. -/
theorem MapE.range (h : MapE P k w b E) (ht : P.underlying t = some (.map k e)) :
    ∃ w', (Instr.range t (.map (some b))).run P w = .ok (.pointer (some ⟨w.heap.size, 0, none⟩)) w' ∧ RangeE P k w' b w.heap.size E E ∧ Below w.heap.size w w' ∧ w'.heap.size = w.heap.size + 1 := by
  have hlt := h.lt
  obtain ⟨es, clock, hb, h⟩ := h
  refine ⟨_, run_range_map w t k e b es clock ht hb, ⟨es, clock, clock, #[], clock, ((MapKept.heap_alloc w _).2 b hlt).trans hb, h, (MapKept.heap_alloc w _).1, h.st.1, ?_, Nat.le_refl _, Nat.le_refl _⟩, (Below.refl _ _).alloc (Nat.le_refl _) _, by simp⟩
  have : leftOf es #[] = es := by simp [leftOf]
  rw [this]
  exact h.perm
theorem left_push_perm (es : Array MapEntry) (seen : Array Nat) {x : MapEntry} (hn : (es.toList.map (·.born)).Nodup) (hx : x ∈ (leftOf es seen).toList) : (leftOf es seen).toList.Perm (x :: (leftOf es (seen.push x.born)).toList) := by
  unfold leftOf at hx ⊢
  simp only [Array.toList_filter] at hx ⊢
  have key : ∀ l : List MapEntry, (l.map (·.born)).Nodup → x ∈ l.filter (fun e => !seen.contains e.born) → (l.filter fun e => !seen.contains e.born).Perm (x :: l.filter fun e => !(seen.push x.born).contains e.born) := by
    intro l
    induction l with
    | nil => intro _ h; simp at h
    | cons y l ih =>
      intro hnd hm
      rw [List.map_cons, List.nodup_cons] at hnd
      by_cases hyx : y = x
      · subst hyx
        have hy : seen.contains y.born = false := by
          have := (List.mem_filter.1 hm).2
          simpa using this
        have h1 : (seen.push y.born).contains y.born = true := by rw [contains_push]; simp
        rw [List.filter_cons_of_pos (by show (!seen.contains y.born) = true; rw [hy]; rfl), List.filter_cons_of_neg (by show ¬ (!(seen.push y.born).contains y.born) = true; rw [h1]; decide)]
        refine List.Perm.cons _ (List.Perm.of_eq (List.filter_congr fun z hz => ?_))
        rw [contains_push]
        have : (z.born == y.born) = false := by
          rw [beq_eq_false_iff_ne]
          intro e
          exact hnd.1 (List.mem_map.2 ⟨z, hz, e⟩)
        rw [this, Bool.or_false]
      · have hm' : x ∈ l.filter (fun e => !seen.contains e.born) := by
          rw [List.mem_filter] at hm ⊢
          exact ⟨(List.mem_cons.1 hm.1).resolve_left (fun e => hyx e.symm), hm.2⟩
        have ihh := ih hnd.2 hm'
        have hb : (y.born == x.born) = false := by
          rw [beq_eq_false_iff_ne]
          intro e
          exact hnd.1 (List.mem_map.2 ⟨x, (List.mem_filter.1 hm').1, e.symm⟩)
        have h1 : (seen.push x.born).contains y.born = seen.contains y.born := by rw [contains_push, hb, Bool.or_false]
        by_cases hs : seen.contains y.born = true
        · rw [List.filter_cons_of_neg (by show ¬ (!seen.contains y.born) = true; rw [hs]; decide), List.filter_cons_of_neg (by show ¬ (!(seen.push x.born).contains y.born) = true; rw [h1, hs]; decide)]
          exact ihh
        · rw [Bool.not_eq_true] at hs
          rw [List.filter_cons_of_pos (by show (!seen.contains y.born) = true; rw [hs]; rfl), List.filter_cons_of_pos (by show (!(seen.push x.born).contains y.born) = true; rw [h1, hs]; rfl)]
          exact (ihh.cons y).trans (List.Perm.swap x y _)
  exact key es.toList hn hx
/-- The step. -/
theorem RangeE.next (h : RangeE P k w b r E Lf) (ty : TypeId) :
    (Lf = [] ∧ (Instr.next (.pointer (some ⟨r, 0, none⟩)) false ty).run P w = .ok (.tuple #[.bool false]) w) ∨
    ∃ key v Lf' w', Lf.Perm ((key, v) :: Lf') ∧ (∃ kl, keyOf P k key = some kl) ∧ (key, v) ∈ E ∧ (Instr.next (.pointer (some ⟨r, 0, none⟩)) false ty).run P w = .ok (.tuple #[.bool true, key, v]) w' ∧ RangeE P k w' b r E Lf' ∧ w.grownBy w' (some r) ∧ w'.heap.size = w.heap.size ∧ (Instr.entry (.pointer (some ⟨r, 0, none⟩))).run P w' = .ok (.tuple #[key, v]) w' := by
  have hne := h.ne
  obtain ⟨es, clock, since, seen, c0, hb, he, hr, hold, hpl, hsc, hsk⟩ := h
  rcases run_next_at (P := P) w ty r b since c0 seen es clock hr hb hold hsc with ⟨h0, hrun⟩ | ⟨x, hx, w1, hal, hrun⟩
  · refine Or.inl ⟨?_, hrun⟩
    have : (leftOf es seen).toList = [] := by rw [← List.length_eq_zero_iff, Array.length_toList]; exact h0
    rw [this] at hpl
    exact hpl.nil_eq.symm
  · obtain ⟨hem, hes⟩ := mem_left hx
    have hr1 : w1.heap[r]? = some (.mapIter (some b) since seen c0) := by rcases hal with rfl | rfl <;> exact hr
    have hb1 : w1.heap[b]? = some (.map es clock) := by rcases hal with rfl | rfl <;> exact hb
    have hset := heap_set (o' := .mapIter (some b) since (seen.push x.born) clock) hr1
    have hb' : (setBlock w1 r (.mapIter (some b) since (seen.push x.born) clock)).heap[b]? = some (.map es clock) := (hset.2 b (fun e1 => hne e1.symm)).trans hb1
    have hst := (stamped_iff es clock).1 he.st
    have hp := (left_push_perm es seen hst.2.1 hx).map pair
    refine Or.inr ⟨x.key, x.val, (leftOf es (seen.push x.born)).toList.map pair, _, hpl.symm.trans hp, he.reads x hem, he.mem.2 ⟨x, hem, rfl⟩, hrun, ⟨es, clock, since, seen.push x.born, clock, hb', he, hset.1, hold, List.Perm.refl _, hsk, hsk⟩, ?_, ?_,
      run_entry_at _ r b since seen es clock x hset.1 hb' hem hst.2.1⟩
    · rcases hal with rfl | rfl <;> exact ⟨rfl, rfl, rfl, by simp [setBlock], fun i _ hi => hset.2 i (fun e1 => hi (by rw [e1]))⟩
    · rcases hal with rfl | rfl <;> simp [setBlock]
/-- 'delete(m, key)' in a round, of a key that has come. -/
theorem RangeE.drop (h : RangeE P k w b r E Lf) (K : Keyed P k) (ht : P.underlying t = some (.map k e)) {ty : TypeId} {key v : Value} {kl : Lit} (hkey : keyOf P k key = some kl) (hp : E.Perm ((key, v) :: E')) (hl : (key, v) ∉ Lf) :
    ∃ w', (Builtin.delete_ #[t, k] ty #[.map (some b), key]).run P w = .ok (.tuple #[]) w' ∧ RangeE P k w' b r E' Lf ∧ w.grownBy w' (some b) ∧ w'.heap.size = w.heap.size := by
  have hne := h.ne
  obtain ⟨es, clock, since, seen, c0, hb, he, hr, hold, hpl, hsc, hsk⟩ := h
  obtain ⟨j, x, hj, hpx, hrun, he', hsub⟩ := ents_drop (ty := ty) hb he K ht hkey hp
  have hxs : (fun e : MapEntry => !seen.contains e.born) x = false := by
    cases hs : (!seen.contains x.born)
    · exact hs
    · refine absurd (hpl.mem_iff.1 (List.mem_map.2 ⟨x, ?_, hpx⟩)) hl
      unfold leftOf
      rw [Array.toList_filter, List.mem_filter]
      exact ⟨List.mem_of_getElem? hj, hs⟩
  have hfe : ∀ (l : List MapEntry) (j : Nat), l[j]? = some x → (l.eraseIdx j).filter (fun e : MapEntry => !seen.contains e.born) = l.filter fun e : MapEntry => !seen.contains e.born := by
    intro l
    induction l with
    | nil => intro j h; simp at h
    | cons y l ih =>
      intro j h
      cases j with
      | zero =>
        simp at h
        subst h
        rw [List.eraseIdx_zero, List.tail_cons, List.filter_cons_of_neg (by simpa using hxs)]
      | succ j =>
        rw [List.eraseIdx_cons_succ, List.filter_cons, List.filter_cons, ih j (by simpa using h)]
  have hl' : (leftOf (es.eraseIdxIfInBounds j) seen).toList = (leftOf es seen).toList := by
    unfold leftOf
    rw [Array.toList_filter, Array.toList_filter, hsub]
    exact hfe _ j hj
  refine ⟨_, hrun, ⟨_, clock, since, seen, c0, heap_setBlock_same hb _, he', (heap_setBlock_other hb _ hne).trans hr, fun y hy => hold y ?_, by rw [hl']; exact hpl, hsc, hsk⟩, ⟨rfl, rfl, rfl, by simp [setBlock], fun i _ hi => heap_setBlock_other hb _ (fun e => hi (by rw [e]))⟩, by simp [setBlock]⟩
  rw [hsub] at hy
  exact (List.eraseIdx_sublist _ _).subset hy
end
end Go.Proofs.Ytabhapohkohbmaa
