/-
  A region that draws its order, of any program: single operations, frames whose slots are told one by one, for walks by what each operation leaves behind. No condition.
-/
import Derived.Test.YtpmlldgjbmingaaGreatDoorRdInv
import Derived.RangeFuncBox
namespace Go.Proofs.YtpmlldgjbmingaaGreatDoor
open Go.RowKit
set_option linter.unusedVariables false

section
variable {P : Program} {ops : Array Oper} {o : Oper} {i : Nat} {a : Act} {w : World} {Q : Exit → Act → World → Prop} {K : Act → World → Prop}
theorem rg_op (hi : ops[i]? = some o) (hg : o.guard = none) (h : Oper.wp P o a w K Q) : wpOp P ops Q i K a w := by
  unfold wpOp
  have hw : Region.wanted o (yielded ops a.tmps) = true := by simp [Region.wanted, hg]
  simp only [hi, hw, if_true]
  exact .inl h
theorem rg_call {fid : FuncId} {xs : Array Operand} {ats : Array TypeId} {args : Array Value} (hop : o.op = .call { callee := .value (.func fid), args := xs, argTypes := ats }) (hgo : ∀ args w, (callFunc fid args).run P w = .ok (.enter fid args) w) (ha : xs.map a.eval = args)
    (h : Calls P fid args w fun e w' => ∃ v, e = .returned v ∧ K (a.put o.dst v) w') : Oper.wp P o a w K Q := by
  have e : execOp a.eval o = callFunc fid (#[] ++ xs.map a.eval ++ #[]) := by
    obtain ⟨d, op, ty, pos, af, gd⟩ := o
    simp only at hop
    subst hop
    rfl
  unfold Oper.wp
  rw [e, hgo, ha]
  refine Calls.mono (by simpa using h) ?_
  rintro e w' ⟨v, rfl, hv⟩
  exact hv
theorem rg_value {v : Value} {w' : World} (h : (execOp a.eval o).run P w = .ok (.value v) w') (hK : K (a.put o.dst v) w') : Oper.wp P o a w K Q := by
  unfold Oper.wp
  rw [h]
  exact hK
theorem rg_skip {w' : World} (h : (execOp a.eval o).run P w = .ok .skip w') (hK : K (a.put o.dst undef) w') : Oper.wp P o a w K Q := by
  unfold Oper.wp
  rw [h]
  exact hK
end

/-! ### Frames -/
/-- What slot s holds. -/
def slot (a : Act) (s : Nat) : Value := a.tmps.getD s undef
theorem slot_nf {a : Act} {s : Nat} {v : Value} (h : slot a s = v) : a.tmps[s]?.getD undef = v := by
  unfold slot at h
  rwa [Array.getD_eq_getD_getElem?] at h
theorem slot_put {a : Act} {d s : Nat} {v : Value} (hd : d < a.tmps.size) : slot (a.put (some d) v) s = if s = d then v else slot a s := by
  unfold slot Act.put
  simp only [Array.getD_eq_getD_getElem?]
  by_cases h : s = d
  · subst h
    rw [if_pos rfl, Array.getElem?_setIfInBounds_self_of_lt hd]
    rfl
  · rw [if_neg h, Array.getElem?_setIfInBounds_ne (Ne.symm h)]
/-- A frame that differs from a0 in the slots S alone. -/
structure Frm (a0 : Act) (S : List Nat) (a : Act) : Prop where
  size : a.tmps.size = a0.tmps.size
  dfr : a.defers = a0.defers
  old : ∀ s, s ∉ S → slot a s = slot a0 s
theorem Frm.refl (a0 : Act) (S : List Nat) : Frm a0 S a0 := ⟨rfl, rfl, fun _ _ => rfl⟩
theorem Frm.put {a0 a : Act} {S : List Nat} (h : Frm a0 S a) {d : Nat} (hd : d ∈ S) (hs : d < a0.tmps.size) (v : Value) : Frm a0 S (a.put (some d) v) :=
  ⟨by unfold Act.put; simp only [Array.size_setIfInBounds]; exact h.size, h.dfr, fun s hx => by
    rw [slot_put (by rw [h.size]; exact hs)]
    by_cases e : s = d
    · exact absurd (by rw [e]; exact hd) hx
    · rw [if_neg e]
      exact h.old s hx⟩
theorem Frm.none {a0 a : Act} {S : List Nat} (h : Frm a0 S a) (v : Value) : Frm a0 S (a.put .none v) := h
def setAll (t : Array Value) (l : List (Nat × Value)) : Array Value := l.foldl (fun t p => t.setIfInBounds p.1 p.2) t
theorem setAll_size (l : List (Nat × Value)) : ∀ t : Array Value, (setAll t l).size = t.size := by
  induction l with
  | nil => intro t; rfl
  | cons p l ih => intro t; exact (ih _).trans (by simp)
theorem setAll_get : ∀ (l : List (Nat × Value)) (t : Array Value) (s : Nat), (l.map Prod.fst).Nodup → (∀ p ∈ l, p.1 < t.size) →
    (setAll t l).getD s undef = ((l.find? fun p => p.1 == s).map Prod.snd).getD (t.getD s undef)
  | [], _, _, _, _ => rfl
  | p :: l, t, s, hn, hl => by
    rw [List.map_cons, List.nodup_cons] at hn
    have ih := setAll_get l (t.setIfInBounds p.1 p.2) s hn.2 fun q hq => by rw [Array.size_setIfInBounds]; exact hl q (List.mem_cons_of_mem _ hq)
    show (setAll (t.setIfInBounds p.1 p.2) l).getD s undef = _
    rw [ih]
    by_cases h : p.1 = s
    · subst h
      have hnone : (l.find? fun q => q.1 == p.1) = none := by
        rw [List.find?_eq_none]
        intro q hq hqe
        have e : q.1 = p.1 := by simpa using hqe
        exact hn.1 (List.mem_map.2 ⟨q, hq, e⟩)
      rw [List.find?_cons_of_pos (by simp), hnone]
      simp only [Option.map_none, Option.getD_none, Option.map_some, Option.getD_some, Array.getD_eq_getD_getElem?, Array.getElem?_setIfInBounds_self_of_lt (hl p (List.mem_cons_self ..))]
    · rw [List.find?_cons_of_neg (by simpa using h)]
      congr 1
      simp only [Array.getD_eq_getD_getElem?, Array.getElem?_setIfInBounds_ne h]
/-- A frame, written out: its slots one by one. -/
theorem Frm.eq {a0 a : Act} {S : List Nat} (h : Frm a0 S a) (l : List (Nat × Value)) (hS : S = l.map Prod.fst) (hn : (l.map Prod.fst).Nodup) (hl : ∀ p ∈ l, p.1 < a0.tmps.size) (hv : ∀ p ∈ l, slot a p.1 = p.2) : a = { a0 with tmps := setAll a0.tmps l } := by
  obtain ⟨t, d⟩ := a
  obtain ⟨t0, d0⟩ := a0
  have hd : d = d0 := h.dfr
  subst hd
  congr 1
  have hsz : t.size = t0.size := h.size
  apply Array.ext
  · rw [setAll_size]; exact hsz
  · intro i h1 h2
    have e1 : t[i] = t.getD i undef := by simp [Array.getD_eq_getD_getElem?, h1]
    have e2 : (setAll t0 l)[i] = (setAll t0 l).getD i undef := by simp [Array.getD_eq_getD_getElem?, h2]
    rw [e1, e2, setAll_get l t0 i hn hl]
    cases hf : l.find? fun p => p.1 == i with
    | none =>
      have : i ∉ S := by
        rw [hS]
        intro hm
        obtain ⟨p, hp, hpe⟩ := List.mem_map.1 hm
        have := List.find?_eq_none.1 hf p hp
        simp [hpe] at this
      exact h.old i this
    | some p =>
      have hp := List.mem_of_find?_eq_some hf
      have hpe : p.1 = i := by simpa using List.find?_some hf
      have := hv p hp
      rw [hpe] at this
      exact this
end Go.Proofs.YtpmlldgjbmingaaGreatDoor
