/-
  Order of addresses and of their octets; sums in parts: mathematics. Conditions: as each theorem names them. Nothing of any program is named here.
-/
import Derived.Test.YtpaocfjpnajonaaGreatDoorAdMth
namespace Go.Proofs.YtpaocfjpnajonaaGreatDoor
open Go.RowKit
set_option linter.unusedVariables false

/-- Octets of one length: the row that is less has the lesser number. -/
theorem lt_num_aux : ∀ (l m : List UInt8) (u v : Nat), l.length = m.length → u < v → l.foldl (fun v c => v * 256 + c.toNat) u < m.foldl (fun v c => v * 256 + c.toNat) v
  | [], [], u, v, _, h => h
  | c :: l, d :: m, u, v, hl, h => lt_num_aux l m _ _ (by simpa using hl) (by
      show u * 256 + c.toNat < v * 256 + d.toNat
      have := c.toNat_lt
      omega)
  | [], _ :: _, _, _, hl, _ => by cases hl
  | _ :: _, [], _, _, hl, _ => by cases hl
theorem lt_num : ∀ (l m : List UInt8) (u : Nat), l.length = m.length → (l < m ↔ l.foldl (fun v c => v * 256 + c.toNat) u < m.foldl (fun v c => v * 256 + c.toNat) u)
  | [], [], u, _ => by simp
  | [], _ :: _, _, hl => by cases hl
  | _ :: _, [], _, hl => by cases hl
  | c :: l, d :: m, u, hl => by
    have hl' : l.length = m.length := by simpa using hl
    rw [List.cons_lt_cons_iff]
    simp only [List.foldl_cons]
    constructor
    · rintro (h | ⟨rfl, h⟩)
      · have : c.toNat < d.toNat := h
        exact lt_num_aux l m _ _ hl' (by omega)
      · exact (lt_num l m _ hl').1 h
    · intro h
      rcases Nat.lt_trichotomy c.toNat d.toNat with h1 | h1 | h1
      · exact .inl h1
      · obtain rfl : c = d := UInt8.toNat_inj.1 h1
        exact .inr ⟨rfl, (lt_num l m _ hl').2 h⟩
      · have := lt_num_aux m l (u * 256 + d.toNat) (u * 256 + c.toNat) hl'.symm (by omega)
        omega
theorem num_append (a b : List UInt8) : num (a ++ b) = num a * 256 ^ b.length + num b := by
  have : ∀ (b : List UInt8) (v : Nat), b.foldl (fun v c => v * 256 + c.toNat) v = v * 256 ^ b.length + num b := by
    intro b
    induction b with
    | nil => intro v; simp [num]
    | cons c r ih =>
      intro v
      unfold num
      rw [List.foldl_cons, List.foldl_cons, ih, ih (0 * 256 + c.toNat), List.length_cons, Nat.pow_succ]
      simp only [Nat.zero_mul, Nat.zero_add]
      rw [Nat.add_mul, Nat.mul_assoc, Nat.mul_comm (256 ^ r.length) 256, Nat.add_assoc]
  unfold num
  rw [List.foldl_append, this]
  rfl
/-- An address as a number. -/
def V (a : Ad) : Nat := a.2.1 * 18446744073709551616 + a.2.2
theorem octA_num {a : Ad} (hf : fitA a) (hc : chkA a = 0) : num (octA a) = V a := by
  obtain ⟨six, hi, lo⟩ := a
  cases six
  · have hb : hi = 0 ∧ lo < 4294967296 := by
      unfold chkA at hc
      simp only [true_and] at hc
      split at hc
      · cases hc
      · omega
    obtain ⟨rfl, hlo⟩ := hb
    show num (octs lo 4) = 0 * 18446744073709551616 + lo
    rw [num_octs 4 lo hlo]
    omega
  · show num (octs hi 8 ++ octs lo 8) = hi * 18446744073709551616 + lo
    rw [num_append, octs_length, num_octs 8 hi hf.1, num_octs 8 lo hf.2]
theorem octA_len (a : Ad) : (octA a).length = if a.1 then 16 else 4 := by
  obtain ⟨six, hi, lo⟩ := a
  cases six
  · exact octs_length 4 lo
  · show (octs hi 8 ++ octs lo 8).length = 16
    rw [List.length_append, octs_length, octs_length]
theorem oct_lt {a b : Ad} (ha : fitA a) (hb : fitA b) (ca : chkA a = 0) (cb : chkA b = 0) (h : a.1 = b.1) : octA a < octA b ↔ V a < V b := by
  rw [← octA_num ha ca, ← octA_num hb cb]
  exact lt_num _ _ 0 (by rw [octA_len, octA_len, h])
theorem cmp_cases (a b : Ad) : cmpA a b = -1 ∨ cmpA a b = 0 ∨ cmpA a b = 1 := by
  unfold cmpA cmpU
  repeat' split
  all_goals simp
theorem cmp_same {s : Bool} {a1 a2 b1 b2 : Nat} (ha : a2 < 18446744073709551616) (hb : b2 < 18446744073709551616) : cmpA (s, a1, a2) (s, b1, b2) = if V (s, a1, a2) < V (s, b1, b2) then -1 else if V (s, b1, b2) < V (s, a1, a2) then 1 else 0 := by
  have e : cmpA (s, a1, a2) (s, b1, b2) = if cmpU a1 b1 ≠ 0 then cmpU a1 b1 else cmpU a2 b2 := by
    cases s <;> simp [cmpA]
  rw [e]
  have e3 : ∀ x y : Nat, cmpU x y = if x < y then -1 else if y < x then 1 else 0 := fun _ _ => rfl
  rcases Nat.lt_trichotomy a1 b1 with h | h | h
  · have e1 : cmpU a1 b1 = -1 := by rw [e3, if_pos h]
    rw [e1, if_pos (by decide), if_pos (by unfold V; simp only; omega)]
  · subst h
    have e1 : cmpU a1 a1 = 0 := by rw [e3, if_neg (Nat.lt_irrefl _), if_neg (Nat.lt_irrefl _)]
    rw [e1, if_neg (by simp), e3]
    unfold V
    simp only [Nat.add_lt_add_iff_left]
  · have e1 : cmpU a1 b1 = 1 := by rw [e3, if_neg (by omega), if_pos h]
    rw [e1, if_pos (by decide), if_neg (by unfold V; simp only; omega), if_pos (by unfold V; simp only; omega)]

/-! ### Sums -/
theorem chk_six (hi lo : Nat) : chkA (true, hi, lo) = 0 := by simp [chkA]
theorem chk_v (six : Bool) (hi lo : Nat) : chkA (six, hi, lo) = 0 ↔ six = true ∨ (hi = 0 ∧ lo < 4294967296) := by
  unfold chkA
  cases six <;> simp <;> omega
/-- How many addresses a kind has. -/
def many (six : Bool) : Nat := if six then 340282366920938463463374607431768211456 else 4294967296
theorem add_yes {a : Ad} {n : Nat} (hf : fitA a) (hn : n < 18446744073709551616) (hc : chkA a = 0) (h : V a + n < many a.1) : (addA a n).2 = true ∧ (addA a n).1.1 = a.1 ∧ V (addA a n).1 = V a + n ∧ fitA (addA a n).1 ∧ chkA (addA a n).1 = 0 := by
  obtain ⟨six, hi, lo⟩ := a
  have h1 := hf.1
  have h2 := hf.2
  simp only at h1 h2
  unfold V many at h
  simp only at h
  have e : addA (six, hi, lo) n = (sumA (six, hi, lo) n, true) := by
    unfold addA
    rw [if_neg (by rw [hc]; decide), if_neg]
    unfold sumA
    simp only [not_or, Decidable.not_not]
    rw [chk_v] at hc ⊢
    cases six
    · simp only [Bool.false_eq_true, if_false, false_or] at h hc ⊢
      omega
    · simp only [if_true, true_or, and_true] at h ⊢
      omega
  rw [e]
  refine ⟨rfl, rfl, ?_, ⟨Nat.mod_lt _ (by decide), Nat.mod_lt _ (by decide)⟩, ?_⟩
  · unfold V sumA
    simp only
    cases six
    · simp only [Bool.false_eq_true, if_false] at h
      rw [chk_v] at hc
      simp only [Bool.false_eq_true, false_or] at hc
      omega
    · simp only [if_true] at h
      omega
  · unfold sumA
    rw [chk_v] at hc ⊢
    cases six
    · simp only [Bool.false_eq_true, if_false, false_or] at h hc ⊢
      omega
    · exact .inl rfl
theorem add_no {a : Ad} {n : Nat} (hf : fitA a) (hn : n < 18446744073709551616) (hc : chkA a = 0) (h : many a.1 ≤ V a + n) : addA a n = (noA, false) := by
  obtain ⟨six, hi, lo⟩ := a
  have h1 := hf.1
  have h2 := hf.2
  simp only at h1 h2
  unfold V many at h
  simp only at h
  unfold addA
  rw [if_neg (by rw [hc]; decide), if_pos]
  unfold sumA
  simp only [ne_eq]
  rw [chk_v]
  rw [chk_v] at hc
  cases six
  · simp only [Bool.false_eq_true, if_false, false_or] at h hc ⊢
    omega
  · simp only [if_true] at h
    left
    omega
theorem v_inj {a b : Ad} (ha : fitA a) (hb : fitA b) (h : a.1 = b.1) (hv : V a = V b) : a = b := by
  obtain ⟨s, a1, a2⟩ := a
  obtain ⟨t, b1, b2⟩ := b
  have h1 := ha.1; have h2 := ha.2; have h3 := hb.1; have h4 := hb.2
  simp only at h h1 h2 h3 h4
  unfold V at hv
  simp only at hv
  rw [h, show a1 = b1 by omega, show a2 = b2 by omega]
theorem add_noA (n : Nat) (hn : n < 4294967296) : (addA noA n) = ((false, 0, n), true) := by
  obtain ⟨h1, h2, h3, h4, h5⟩ := add_yes (a := noA) (n := n) ⟨by decide, by decide⟩ (by omega) (by decide) (by unfold V many noA; simp; omega)
  have : (addA noA n).1 = (false, 0, n) := v_inj h4 ⟨by show (0 : Nat) < _; decide, by show n < _; omega⟩ h2 (by rw [h3]; unfold V noA; simp)
  rw [← this, ← h1]
end Go.Proofs.YtpaocfjpnajonaaGreatDoor
