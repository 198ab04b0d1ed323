/-
  Rows of keys with their values: what stays, what goes, a smaller row is the first part of a greater one. Mathematics alone.
-/
import Derived.Test.YtabhapohkohbmaaLrU
namespace Go.Proofs.Ytabhapohkohbmaa
set_option linter.unusedVariables false
set_option linter.unusedSimpArgs false

section
variable {R S : Rw} {k : ByteArray} {v : Int} {mst s n : Nat}
def UnL (R : Rw) : Prop := R.Pairwise fun x y => x.1 ≠ y.1
theorem drop_len : (dropR R k).length ≤ R.length := List.length_filter_le _ _
theorem put_take (h0 : 0 < mst) (hl : R.length ≤ mst) : (putR mst R k v).1 = (addR R k v).take mst := by
  have hd := drop_len (R := R) (k := k)
  unfold putR
  rw [if_neg (by omega)]
  split
  · rename_i h
    exact (List.take_of_length_le h).symm
  · rename_i h
    have hlen : (addR R k v).length = mst + 1 := by
      simp [addR] at h ⊢
      omega
    show (addR R k v).dropLast = _
    rw [List.dropLast_eq_take, hlen]
    rfl
theorem drop_all : (∀ x ∈ R, x.1 ≠ k) → dropR R k = R := fun h => by
  unfold dropR
  rw [List.filter_eq_self]
  exact fun x hx => decide_eq_true (h x hx)
theorem drop_take : ∀ (R : Rw) (t : Nat), UnL R → (dropR (R.take (t + 1)) k).take t = (dropR R k).take t
  | [], t, h => rfl
  | x :: r, t, h => by
    have h1 := (List.pairwise_cons.1 h)
    by_cases hx : x.1 = k
    · have hr : ∀ y ∈ r, y.1 ≠ k := fun y hy e => h1.1 y hy (hx.trans e.symm)
      have e1 : dropR (x :: r) k = dropR r k := by unfold dropR; rw [List.filter_cons_of_neg (by simp [hx])]
      have e2 : dropR ((x :: r).take (t + 1)) k = dropR (r.take t) k := by rw [List.take_succ_cons]; unfold dropR; rw [List.filter_cons_of_neg (by simp [hx])]
      rw [e1, e2, drop_all hr, drop_all fun y hy => hr y (List.mem_of_mem_take hy), List.take_take, Nat.min_self]
    · have e1 : dropR (x :: r) k = x :: dropR r k := by unfold dropR; rw [List.filter_cons_of_pos (by simp [hx])]
      have e2 : dropR ((x :: r).take (t + 1)) k = x :: dropR (r.take t) k := by rw [List.take_succ_cons]; unfold dropR; rw [List.filter_cons_of_pos (by simp [hx])]
      rw [e1, e2]
      cases t with
      | zero => rfl
      | succ t => rw [List.take_succ_cons, List.take_succ_cons, drop_take r t h1.2]
/-- The same put leaves the smaller row the first part of the greater one. -/
theorem put_less (hs : 0 < s) (hsn : s ≤ n) (hu : UnL S) (hR : R = S.take s) (hlS : S.length ≤ n) : (putR s R k v).1 = ((putR n S k v).1).take s := by
  subst hR
  rw [put_take hs (by simp; omega), put_take (by omega) hlS, List.take_take, Nat.min_eq_left hsn]
  obtain ⟨t, rfl⟩ : ∃ t, s = t + 1 := ⟨s - 1, by omega⟩
  unfold addR
  rw [List.take_succ_cons, List.take_succ_cons, drop_take S t hu]
theorem look_mem : ∀ {R : Rw} {x : ByteArray × Int}, UnL R → x ∈ R → lookR R x.1 = some x.2
  | y :: r, x, h, hx => by
    have h1 := List.pairwise_cons.1 h
    show (if y.1 = x.1 then _ else _) = _
    rcases List.mem_cons.1 hx with rfl | hx
    · rw [if_pos rfl]
    · rw [if_neg (h1.1 x hx)]
      exact look_mem h1.2 hx
theorem look_none : ∀ {R : Rw} {k : ByteArray}, (∀ x ∈ R, x.1 ≠ k) → lookR R k = none
  | [], k, h => rfl
  | y :: r, k, h => by
    show (if y.1 = k then _ else _) = _
    rw [if_neg (h y List.mem_cons_self)]
    exact look_none fun x hx => h x (List.mem_cons_of_mem _ hx)
theorem look_cases (R : Rw) (k : ByteArray) (hu : UnL R) : (lookR R k = none ∧ ∀ x ∈ R, x.1 ≠ k) ∨ ∃ x ∈ R, x.1 = k ∧ lookR R k = some x.2 := by
  by_cases h : ∃ x ∈ R, x.1 = k
  · obtain ⟨x, hx, rfl⟩ := h
    exact Or.inr ⟨x, hx, rfl, look_mem hu hx⟩
  · have h' : ∀ x ∈ R, x.1 ≠ k := fun x hx e => h ⟨x, hx, e⟩
    exact Or.inl ⟨look_none h', h'⟩
end
end Go.Proofs.Ytabhapohkohbmaa
