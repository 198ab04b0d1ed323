/-
  Numbers as octets, the highest first; what a reader and a writer of octets do: plain mathematics. No condition beyond those that each theorem names.
-/
import Derived.Test.YtabhapohkohbmaaKit
namespace Go.Proofs.Ytabhapohkohbmaa
open Go.RowKit
set_option linter.unusedVariables false

/-- The number that octets are. -/
def num (l : List UInt8) : Nat := l.foldl (fun v c => v * 256 + c.toNat) 0
theorem num_nil : num [] = 0 := rfl
theorem num_snoc (l : List UInt8) (c : UInt8) : num (l ++ [c]) = num l * 256 + c.toNat := by simp [num]
/-- A number as n octets. -/
def octs (v : Nat) : Nat → List UInt8
  | 0 => []
  | n + 1 => octs (v / 256) n ++ [UInt8.ofNat v]
theorem octs_succ (v n : Nat) : octs v (n + 1) = octs (v / 256) n ++ [UInt8.ofNat v] := rfl
theorem octs_length : ∀ (n v : Nat), (octs v n).length = n
  | 0, v => rfl
  | n + 1, v => by rw [octs_succ, List.length_append, octs_length n]; rfl
theorem ofNat_val (v : Nat) : (UInt8.ofNat v).toNat = v % 256 := rfl
theorem num_octs : ∀ (n v : Nat), v < 256 ^ n → num (octs v n) = v
  | 0, v, h => by simp at h; subst h; rfl
  | n + 1, v, h => by
    rw [octs_succ, num_snoc, num_octs n (v / 256) (by rw [Nat.pow_succ] at h; exact Nat.div_lt_of_lt_mul (by omega)), ofNat_val]
    omega
theorem num_lt_aux : ∀ (n : Nat) (l : List UInt8), l.length = n → num l < 256 ^ n
  | 0, l, h => by rw [List.eq_nil_of_length_eq_zero h]; decide
  | n + 1, l, h => by
    have hne : l ≠ [] := fun e => by rw [e] at h; cases h
    rw [← List.dropLast_concat_getLast hne, num_snoc, Nat.pow_succ]
    have := num_lt_aux n l.dropLast (by rw [List.length_dropLast]; omega)
    have := (l.getLast hne).toNat_lt
    omega
theorem num_lt (l : List UInt8) : num l < 256 ^ l.length := num_lt_aux _ l rfl
theorem pow_le4 {n : Nat} (h : n ≤ 4) : 256 ^ n ≤ 4294967296 := by
  have := Nat.pow_le_pow_right (n := 256) (by omega) h
  simpa using this
theorem num_lt32 {l : List UInt8} (h : l.length ≤ 4) : num l < 4294967296 := Nat.lt_of_lt_of_le (num_lt l) (pow_le4 h)
theorem octs_get : ∀ (n v i : Nat), i < n → (octs v n)[i]? = some (UInt8.ofNat (v / 256 ^ (n - 1 - i)))
  | 0, v, i, h => by omega
  | n + 1, v, i, h => by
    rw [octs_succ]
    by_cases hi : i < n
    · rw [List.getElem?_append_left (by rw [octs_length]; exact hi), octs_get n (v / 256) i hi]
      have : n + 1 - 1 - i = (n - 1 - i) + 1 := by omega
      rw [this, Nat.pow_succ, Nat.mul_comm, Nat.div_div_eq_div_mul]
    · have : i = n := by omega
      subst this
      rw [List.getElem?_append_right (by rw [octs_length]; omega), octs_length]
      simp

/-! ### A row that is filled from the front, and one from the end -/
def front (v n k : Nat) : List UInt8 := (octs v n).take k ++ List.replicate (n - k) 0
theorem front_length {v n k : Nat} (h : k ≤ n) : (front v n k).length = n := by simp [front, octs_length]; omega
theorem front_zero (v n : Nat) : front v n 0 = List.replicate n 0 := by simp [front]
theorem front_end (v n : Nat) : front v n n = octs v n := by simp [front, List.take_of_length_le, octs_length]
theorem front_step {v n k : Nat} (h : k < n) : (front v n k).set k (UInt8.ofNat (v / 256 ^ (n - 1 - k))) = front v n (k + 1) := by
  apply List.ext_getElem?
  intro j
  have hl : k < (front v n k).length := by rw [front_length (by omega)]; exact h
  rw [List.getElem?_set]
  have ht : ((octs v n).take k).length = k := by rw [List.length_take, octs_length]; omega
  have ht' : ((octs v n).take (k + 1)).length = k + 1 := by rw [List.length_take, octs_length]; omega
  by_cases hj : k = j
  · subst hj
    rw [if_pos rfl, if_pos hl]
    unfold front
    rw [List.getElem?_append_left (by omega), List.getElem?_take, if_pos (by omega), octs_get n v k h]
  · rw [if_neg hj]
    unfold front
    by_cases hjk : j < k
    · rw [List.getElem?_append_left (by omega), List.getElem?_append_left (by omega), List.getElem?_take, List.getElem?_take, if_pos hjk, if_pos (by omega)]
    · rw [List.getElem?_append_right (by omega), List.getElem?_append_right (by omega), ht, ht', List.getElem?_replicate, List.getElem?_replicate]
      by_cases hjn : j < n
      · rw [if_pos (by omega), if_pos (by omega)]
      · rw [if_neg (by omega), if_neg (by omega)]
def rear (v n i : Nat) : List UInt8 := List.replicate i 0 ++ (octs v n).drop i
theorem rear_length {v n i : Nat} (h : i ≤ n) : (rear v n i).length = n := by simp [rear, octs_length]; omega
theorem rear_end (v n : Nat) : rear v n n = List.replicate n 0 := by simp [rear, List.drop_eq_nil_of_le, octs_length]
theorem rear_zero (v n : Nat) : rear v n 0 = octs v n := by simp [rear]
theorem rear_step {v n i : Nat} (h : i < n) : (rear v n (i + 1)).set i (UInt8.ofNat (v / 256 ^ (n - 1 - i))) = rear v n i := by
  apply List.ext_getElem?
  intro j
  rw [List.getElem?_set]
  have hl : i < (rear v n (i + 1)).length := by rw [rear_length (by omega)]; exact h
  by_cases hj : i = j
  · subst hj
    rw [if_pos rfl, if_pos hl]
    unfold rear
    rw [List.getElem?_append_right (by simp), List.getElem?_drop, List.length_replicate]
    rw [show i + (i - i) = i by omega, octs_get n v i h]
  · rw [if_neg hj]
    unfold rear
    by_cases hji : j < i
    · rw [List.getElem?_append_left (by simp; omega), List.getElem?_append_left (by simp; omega), List.getElem?_replicate, List.getElem?_replicate, if_pos (by omega), if_pos hji]
    · rw [List.getElem?_append_right (by simp; omega), List.getElem?_append_right (by simp; omega), List.getElem?_drop, List.getElem?_drop, List.length_replicate, List.length_replicate]
      congr 1
      omega

/-! ### What a reader answers: the octets, the error, the place behind -/
def isW (n : Int) : Bool := decide (1 ≤ n ∧ n ≤ 4)
structure Rd where
  s : List UInt8
  e : Nat
  k : Nat
def takR (l : List UInt8) (k : Nat) (n : Int) : Rd :=
  if n < 0 then ⟨[], 2, k⟩ else if (l.length : Int) - k < n then ⟨[], 8, k⟩ else ⟨(l.drop k).take n.toNat, 0, k + n.toNat⟩
def numR (l : List UInt8) (k : Nat) (n : Int) : Rd :=
  if isW n = false then ⟨[], 2, k⟩ else takR l k n
def seekR (l : List UInt8) (k : Nat) (at_ : Int) : Nat × Nat := if at_ < 0 ∨ (l.length : Int) < at_ then (2, k) else (0, at_.toNat)
theorem takR_le (l : List UInt8) (k : Nat) (n : Int) (h : k ≤ l.length) : (takR l k n).k ≤ l.length := by
  unfold takR
  split
  · exact h
  · split
    · exact h
    · show k + n.toNat ≤ l.length
      omega
theorem numR_le (l : List UInt8) (k : Nat) (n : Int) (h : k ≤ l.length) : (numR l k n).k ≤ l.length := by
  unfold numR
  split
  · exact h
  · exact takR_le l k n h
theorem seekR_le (l : List UInt8) (k : Nat) (n : Int) (h : k ≤ l.length) : (seekR l k n).2 ≤ l.length := by
  unfold seekR
  split
  · exact h
  · show n.toNat ≤ l.length
    omega
theorem takR_len (l : List UInt8) (k : Nat) (n : Int) : (takR l k n).s.length ≤ n.toNat := by
  unfold takR
  split
  · simp
  · split
    · simp
    · simp; omega
theorem numR_len (l : List UInt8) (k : Nat) (n : Int) : (numR l k n).s.length ≤ 4 := by
  unfold numR
  by_cases h : isW n = false
  · rw [if_pos h]; simp
  · rw [if_neg h]
    have := takR_len l k n
    have h' : isW n = true := by simpa using h
    simp [isW] at h'
    omega
theorem numR_lt (l : List UInt8) (k : Nat) (n : Int) : num (numR l k n).s < 4294967296 := num_lt32 (numR_len l k n)

/-! ### What a writer answers: the error, its octets, its error from then on -/
def room (v : Nat) (n : Int) : Bool := isW n && decide (v < 256 ^ n.toNat)
structure Wr where
  e : Nat
  l : List UInt8
  f : Nat
def putW (M : Nat) (l : List UInt8) (f : Nat) (s : List UInt8) : Wr :=
  if f ≠ 0 then ⟨f, l, f⟩ else if M < l.length + s.length then ⟨3, l, 3⟩ else ⟨0, l ++ s, 0⟩
def numW (M : Nat) (l : List UInt8) (f v : Nat) (n : Int) : Wr :=
  if f ≠ 0 then ⟨f, l, f⟩ else if room v n = false then ⟨2, l, f⟩ else putW M l f (octs v n.toNat)
/-- Octets laid over others, from a place on. -/
def over (l : List UInt8) (k : Nat) (x : List UInt8) : List UInt8 := l.take k ++ (x ++ l.drop (k + x.length))
def patW (l : List UInt8) (f : Nat) (at_ : Int) (v : Nat) (n : Int) : Wr :=
  if f ≠ 0 then ⟨f, l, f⟩ else if room v n = false ∨ at_ < 0 ∨ (l.length : Int) - n < at_ then ⟨2, l, f⟩ else ⟨0, over l at_.toNat (octs v n.toNat), 0⟩
theorem over_length (l : List UInt8) (k : Nat) (x : List UInt8) (h : k + x.length ≤ l.length) : (over l k x).length = l.length := by simp [over]; omega
theorem putW_le {M : Nat} {l : List UInt8} (f : Nat) (s : List UInt8) (h : l.length ≤ M) : (putW M l f s).l.length ≤ M := by
  unfold putW
  split
  · exact h
  · split
    · exact h
    · show (l ++ s).length ≤ M
      rw [List.length_append]; omega
theorem numW_le {M : Nat} {l : List UInt8} (f v : Nat) (n : Int) (h : l.length ≤ M) : (numW M l f v n).l.length ≤ M := by
  unfold numW
  split
  · exact h
  · split
    · exact h
    · exact putW_le f _ h
theorem room_yes {v : Nat} {n : Int} (h : room v n = true) : 1 ≤ n ∧ n ≤ 4 ∧ v < 256 ^ n.toNat := by
  simp [room, isW] at h
  exact ⟨h.1.1, h.1.2, h.2⟩
theorem patW_len {l : List UInt8} (f : Nat) (at_ : Int) (v : Nat) (n : Int) : (patW l f at_ v n).l.length = l.length := by
  unfold patW
  split
  · rfl
  · split
    · rfl
    · rename_i h
      have h1 : room v n = true := by cases hr : room v n <;> simp_all
      obtain ⟨h2, h3, h4⟩ := room_yes h1
      show (over l at_.toNat (octs v n.toNat)).length = l.length
      refine over_length _ _ _ ?_
      rw [octs_length]
      omega
end Go.Proofs.Ytabhapohkohbmaa
