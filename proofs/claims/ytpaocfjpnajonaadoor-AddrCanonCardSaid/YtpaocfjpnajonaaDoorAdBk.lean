/-
  A reverse name read: the walk of addr.Back. Conditions: as each theorem names them.
-/
import Derived.Test.YtpaocfjpnajonaaDoorAdRvs
import Derived.Test.YtpaocfjpnajonaaDoorNmFold
namespace Go.Proofs.YtpaocfjpnajonaaDoor
open Go.RowKit
set_option linter.unusedVariables false

theorem strs_strB (ys : List Lab) : strs ys = (strB (ys.map lb)).map Value.string := by
  unfold strs strB
  rw [List.map_map, List.map_map]
  refine List.map_congr_left fun y _ => ?_
  show Value.string y.1 = Value.string ⟨(bs y.1).toArray⟩
  congr 1
theorem foldN_len (l : List UInt8) : (foldN l).length ≤ 254 := by
  unfold foldN
  split
  · rename_i h
    rw [fold_length]
    exact (chkN_iff.1 h).1
  · simp
/-- The labels, folded, turned about. -/
def backL (n : List UInt8) : List (List UInt8) := (nlabs (foldN n)).reverse
theorem backL_facts (n : List UInt8) : (backL n).length ≤ 127 ∧ ∀ x ∈ backL n, x.length ≤ 63 := by
  unfold backL
  refine ⟨by rw [List.length_reverse]; exact nlabs_len _, fun x hx => (nlabs_ok _ x (List.mem_reverse.1 hx)).2⟩
def bkR : List (List UInt8) → Option Ad
  | x :: y :: r => if x ≠ arpa then none else if y = inaddr then ofNumO r else if y = ip6 then ofDigO r else none
  | _ => none
theorem bkR_cons (x y : List UInt8) (r : List (List UInt8)) : bkR (x :: y :: r) = if x ≠ arpa then none else if y = inaddr then ofNumO r else if y = ip6 then ofDigO r else none := rfl
theorem bkA_eq (n : List UInt8) : bkA n = match bkR (backL n) with
    | some a => (a, true)
    | none => (noA, false) := by
  unfold bkA backO bkR backL
  rfl
theorem eq_lit {x : ByteArray} {l : List UInt8} (h : bs x = l) : (x.toList == l) = true := beq_iff_eq.2 (by rw [bs_toList]; exact h)
theorem ne_lit {x : ByteArray} {l : List UInt8} (h : bs x ≠ l) : (x.toList == l) = false := beq_eq_false_iff_ne.2 (fun e => h (by rw [← bs_toList]; exact e))
/-- What stands behind the first two of a row. -/
theorem row_tail2 {w : World} {g cap N : Nat} {X Y : ByteArray} {M : List ByteArray} (h : At Value.string w g 0 cap (X :: Y :: M)) (hN : (X :: Y :: M).length = N) : RowE Value.string w (.slice (some ⟨g, 2, none⟩) (N - 2) (cap - 2)) M := by
  have := h.drop (n := 2) (by simp)
  subst hN
  simp only [Nat.zero_add, List.drop_succ_cons, List.drop_zero] at this
  exact this
theorem row_tail0 {w : World} {g N cap : Nat} {X Y : ByteArray} {M : List ByteArray} (h : At Value.string w g 0 cap (X :: Y :: M)) (hN : (X :: Y :: M).length = N) (hc : cap = 2) : RowE Value.string w (.slice (some ⟨g, 0, none⟩) (N - 2) 0) M := by
  have h1 := h.le
  simp only [List.length_cons] at h1 hN
  obtain rfl : M = [] := List.eq_nil_of_length_eq_zero (by omega)
  obtain rfl : N = 2 := by simpa using hN.symm
  exact .inr ⟨g, 0, 0, rfl, h.lt, Nat.zero_le _, by unfold maxLen; omega, fun j hj => absurd hj (Nat.not_lt_zero _)⟩
theorem own_at {w : World} {base g N cap : Nat} {M : List ByteArray} (h : TOwn 9 w base (.slice (some ⟨g, 0, none⟩) N cap) M) (hN : M.length = N) : At Value.string w g 0 cap M := by
  subst hN
  exact At.of_own h
/-- What lies where the first two are read. -/
theorem two_cells {w : World} {g cap : Nat} {X Y : ByteArray} {M : List ByteArray} (h : At Value.string w g 0 cap (X :: Y :: M)) : w.cell? ⟨g, 0, none⟩ = some (.string X) ∧ w.cell? ⟨g, 1, none⟩ = some (.string Y) := by
  have h0 := h.cell 0 (by simp)
  have h1 := h.cell 1 (by simp)
  exact ⟨h0, h1⟩
end Go.Proofs.YtpaocfjpnajonaaDoor
