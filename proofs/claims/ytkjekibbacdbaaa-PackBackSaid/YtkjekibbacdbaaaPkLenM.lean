/-
  Lengths that are begun one behind the other and ended from the last one on: plain mathematics. No condition beyond those that each theorem names.
-/
import Derived.Test.YtkjekibbacdbaaaPkMath
namespace Go.Proofs.Ytkjekibbacdbaaa
open Go.RowKit
set_option linter.unusedVariables false

def off (R : List (List UInt8)) (j : Nat) : Nat := ((R.take j).map (fun r => r.length + 2)).sum
def flat (R : List (List UInt8)) : List UInt8 := R.flatMap (fun r => [0, 0] ++ r)
theorem off_zero (R : List (List UInt8)) : off R 0 = 0 := rfl
theorem off_succ (R : List (List UInt8)) (j : Nat) (h : j < R.length) : off R (j + 1) = off R j + (R[j].length + 2) := by
  unfold off
  rw [List.take_succ_eq_append_getElem h, List.map_append, List.sum_append]
  simp
theorem flat_succ (R : List (List UInt8)) (j : Nat) (h : j < R.length) : flat (R.take (j + 1)) = flat (R.take j) ++ ([0, 0] ++ R[j]) := by
  unfold flat
  rw [List.take_succ_eq_append_getElem h, List.flatMap_append]
  simp
theorem flat_len (R : List (List UInt8)) : ∀ j, j ≤ R.length → (flat (R.take j)).length = off R j
  | 0, _ => rfl
  | j + 1, h => by
    rw [flat_succ R j (by omega), List.length_append, flat_len R j (by omega), off_succ R j (by omega), List.length_append]
    simp only [List.length_cons, List.length_nil]
    omega
theorem off_mono (R : List (List UInt8)) {j : Nat} (hj : j < R.length) : ∀ k, j < k → k ≤ R.length → off R j + (R[j].length + 2) ≤ off R k
  | 0, h, _ => by omega
  | k + 1, h, hk => by
    by_cases e : j = k
    · subst e
      rw [off_succ R j hj]
      exact Nat.le_refl _
    · have := off_mono R hj k (by omega) (by omega)
      rw [off_succ R k (by omega)]
      omega
theorem flat_split (R : List (List UInt8)) (p : Nat) (h : p < R.length) : ∃ z, flat R = flat (R.take p) ++ ([0, 0] ++ R[p] ++ z) := by
  refine ⟨flat (R.drop (p + 1)), ?_⟩
  have e : R = R.take p ++ (R[p] :: R.drop (p + 1)) := by rw [← List.drop_eq_getElem_cons h, List.take_append_drop]
  unfold flat
  conv => lhs; rw [e]
  rw [List.flatMap_append, List.flatMap_cons]
theorem over_get (l : List UInt8) (k : Nat) (x : List UInt8) (h : k + x.length ≤ l.length) (i : Nat) : (over l k x)[i]? = if i < k then l[i]? else if i < k + x.length then x[i - k]? else l[i]? := by
  unfold over
  have ht : (l.take k).length = k := by rw [List.length_take]; omega
  by_cases h1 : i < k
  · rw [if_pos h1, List.getElem?_append_left (by omega), List.getElem?_take, if_pos h1]
  · rw [if_neg h1, List.getElem?_append_right (by omega), ht]
    by_cases h2 : i < k + x.length
    · rw [if_pos h2, List.getElem?_append_left (by omega)]
    · rw [if_neg h2, List.getElem?_append_right (by omega), List.getElem?_drop]
      congr 1
      omega
theorem over_other (l : List UInt8) (k : Nat) (x : List UInt8) (h : k + x.length ≤ l.length) (p q : Nat) (hd : p + q ≤ k ∨ k + x.length ≤ p) : ((over l k x).drop p).take q = (l.drop p).take q := by
  apply List.ext_getElem?
  intro i
  rw [List.getElem?_take, List.getElem?_take]
  by_cases hi : i < q
  · rw [if_pos hi, if_pos hi, List.getElem?_drop, List.getElem?_drop, over_get l k x h]
    rcases hd with hd | hd
    · rw [if_pos (by omega)]
    · rw [if_neg (by omega), if_neg (by omega)]
  · rw [if_neg hi, if_neg hi]
theorem over_same (l : List UInt8) (k : Nat) (x : List UInt8) (h : k + x.length ≤ l.length) : ((over l k x).drop k).take x.length = x := by
  unfold over
  rw [List.drop_left' (by rw [List.length_take]; omega), List.take_left' rfl]
/-- The lengths from the j-th on are told. -/
structure Fil (R : List (List UInt8)) (l : List UInt8) (j : Nat) : Prop where
  len : l.length = off R R.length
  rows : ∀ p (h : p < R.length), (l.drop (off R p + 2)).take R[p].length = R[p]
  nums : ∀ p, p < R.length → j ≤ p → (l.drop (off R p)).take 2 = octs (l.length - off R p - 2) 2
theorem fil_start (R : List (List UInt8)) : Fil R (flat R) R.length := by
  refine ⟨by have := flat_len R R.length (Nat.le_refl _); rwa [List.take_length] at this, fun p h => ?_, fun p h h' => by omega⟩
  obtain ⟨z, hz⟩ := flat_split R p h
  have hl := flat_len R p (by omega)
  have e : flat R = (flat (R.take p) ++ [0, 0]) ++ (R[p] ++ z) := by rw [hz]; simp
  rw [e, List.drop_left' (by rw [List.length_append, hl]; rfl), List.take_left' rfl]
theorem fil_step {R : List (List UInt8)} {l : List UInt8} {j : Nat} (h : Fil R l (j + 1)) (hj : j < R.length) : Fil R (over l (off R j) (octs (l.length - off R j - 2) 2)) j := by
  have hlen := h.len
  have hm := off_mono R hj R.length hj (Nat.le_refl _)
  have ho : off R j + (octs (l.length - off R j - 2) 2).length ≤ l.length := by rw [octs_length]; omega
  have hl : (over l (off R j) (octs (l.length - off R j - 2) 2)).length = l.length := over_length _ _ _ ho
  refine ⟨hl.trans hlen, fun p hp => ?_, fun p hp hjp => ?_⟩
  · rw [over_other _ _ _ ho _ _ ?_]
    · exact h.rows p hp
    · rw [octs_length]
      rcases Nat.lt_trichotomy p j with hpj | hpj | hpj
      · have := off_mono R hp j hpj (by omega)
        omega
      · subst hpj
        omega
      · have := off_mono R hj p hpj (by omega)
        omega
  · rw [hl]
    by_cases e : j = p
    · subst e
      have := over_same l (off R j) (octs (l.length - off R j - 2) 2) ho
      rwa [octs_length] at this
    · rw [over_other _ _ _ ho _ _ (by rw [octs_length]; have := off_mono R hj p (by omega) (by omega); omega)]
      exact h.nums p hp (by omega)
def atsN (R : List (List UInt8)) (k : Nat) : List Nat := (List.range k).map (off R)
theorem atsN_succ (R : List (List UInt8)) (k : Nat) : atsN R (k + 1) = atsN R k ++ [off R k] := by unfold atsN; rw [List.range_succ, List.map_append]; rfl
theorem atsN_length (R : List (List UInt8)) (k : Nat) : (atsN R k).length = k := by simp [atsN]
theorem atsN_get (R : List (List UInt8)) {k j : Nat} (h : j < k) : (atsN R k)[j]? = some (off R j) := by simp [atsN, h]
theorem atsN_last (R : List (List UInt8)) (k : Nat) : (atsN R (k + 1)).getLast? = some (off R k) ∧ (atsN R (k + 1)).dropLast = atsN R k := by
  rw [atsN_succ]
  simp
theorem begin_room {M : Nat} {s : PS} (hf : s.f = 0) (h : s.l.length + 2 ≤ M) : beginS M s = (s.l.length, 0, { s with l := s.l ++ [0, 0], o := s.o ++ [s.l.length] }) := by
  have hn : numS M s 0 2 = putS M s [0, 0] := by
    unfold numS putS numW
    rw [if_neg (by omega), if_neg (by rw [show room 0 2 = true from rfl]; simp)]
    rfl
  have hp := put_room (x := [0, 0]) hf (by simpa using h)
  unfold beginS
  rw [hn, hp]
  simp
theorem end_ok {R : List (List UInt8)} {s : PS} {j : Nat} (hf : s.f = 0) (ho : s.o = atsN R (j + 1)) : endS s (off R j : Int) = (0, { s with l := over s.l (off R j) (octs (s.l.length - off R j - 2) 2), o := atsN R j }) := by
  unfold endS
  rw [if_neg (by omega), ho, (atsN_last R j).1, (atsN_last R j).2]
  simp
theorem end_no {R : List (List UInt8)} {s : PS} {j a : Nat} (hf : s.f = 0) (ho : s.o = atsN R (j + 1)) (ha : off R j ≠ a) : endS s (a : Int) = (9, s) := by
  unfold endS
  rw [if_neg (by omega), ho, (atsN_last R j).1]
  simp
  omega
theorem num2 {l : List UInt8} {p v : Nat} (hv : v < 65536) (h : (l.drop p).take 2 = octs v 2) : ∃ c d : UInt8, l[p]? = some c ∧ l[p + 1]? = some d ∧ 256 * c.toNat + d.toNat = v := by
  have e : octs v 2 = [UInt8.ofNat (v / 256), UInt8.ofNat v] := by simp [octs]
  rw [e] at h
  have h0 := congrArg (fun z => z[0]?) h
  have h1 := congrArg (fun z => z[1]?) h
  simp at h0 h1
  refine ⟨_, _, h0, by simpa [Nat.add_comm] using h1, ?_⟩
  have a1 : (UInt8.ofNat (v / 256)).toNat = v / 256 := by rw [ofNat_val]; omega
  have a2 : (UInt8.ofNat v).toNat = v % 256 := ofNat_val v
  rw [a1, a2]
  omega
end Go.Proofs.Ytkjekibbacdbaaa
