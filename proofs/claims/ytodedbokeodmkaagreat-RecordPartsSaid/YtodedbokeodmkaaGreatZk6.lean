/-
  What reading a name where it stands, pointers followed, answers, part by part: plain mathematics. No condition beyond those that each theorem names.
-/
import Derived.Test.YtodedbokeodmkaaGreatZk3
namespace Go.Proofs.YtodedbokeodmkaaGreat
set_option linter.unusedVariables false

/-- The part that octets begin with: how many octets it has, the error. -/
def partU : List UInt8 → Nat × Nat
  | [] => (0, 8)
  | c :: t => if 192 ≤ c.toNat then (if t.length < 1 then (0, 8) else (2, 0)) else if 63 < c.toNat then (0, 4) else if t.length < c.toNat then (0, 8) else (1 + c.toNat, 0)
theorem partU_cons (c : UInt8) (t : List UInt8) : partU (c :: t) = if 192 ≤ c.toNat then (if t.length < 1 then (0, 8) else (2, 0)) else if 63 < c.toNat then (0, 4) else if t.length < c.toNat then (0, 8) else (1 + c.toNat, 0) := rfl

/-- What a walk along a name has: the name, the place behind it, how many pointers were followed, the error; where the run began, where the next part begins, what the last step went over. -/
structure US where
  l : List UInt8
  e : Nat
  j : Nat
  f : Nat
  r : Nat
  p : Nat
  t : List UInt8
def failU (s : US) (e : Nat) : US := { s with l := [], e := 0, j := 0, f := e }
/-- A step over a part of n octets. -/
def overU (x : List UInt8) (s : US) (n : Nat) : US := { s with t := (x.drop s.p).take n, p := s.p + n, e := if s.j = 0 then s.p + n else s.e }
def toU (t : List UInt8) : Nat := 256 * ((t.headD 0).toNat - 192) + (t.getD 1 0).toNat
def followU (s : US) : US := if s.r ≤ toU s.t then failU s 4 else { s with r := toU s.t, p := toU s.t, j := s.j + 1 }
def keepU (s : US) : US := if 254 < s.l.length + s.t.length then failU s 3 else { s with l := s.l ++ s.t }
def isPtr (t : List UInt8) : Bool := decide (192 ≤ (t.headD 0).toNat)
/-- What comes of a walk, in so many steps at most. -/
def runU (x : List UInt8) : Nat → US → US
  | 0, s => s
  | k + 1, s => if s.f ≠ 0 then s else if (partU (x.drop s.p)).2 ≠ 0 then failU s (partU (x.drop s.p)).2
      else if (overU x s (partU (x.drop s.p)).1).t = [0] then overU x s (partU (x.drop s.p)).1
      else if isPtr (overU x s (partU (x.drop s.p)).1).t = true then runU x k (followU (overU x s (partU (x.drop s.p)).1))
      else runU x k (keepU (overU x s (partU (x.drop s.p)).1))
/-- Where a walk begins. -/
def begU (a r : Nat) : US := ⟨[], 0, 0, 0, r, a, []⟩
/-- More steps than a walk can have. -/
def muU (x : List UInt8) (s : US) : Nat := if s.f ≠ 0 then 0 else s.r * (x.length + 1) + (x.length - s.p) + 1
/-- What reading at a place answers, the first pointer leading ahead of a run. -/
def readU (x : List UInt8) (a : Int) (r : Int) : US :=
  if a < 0 ∨ (x.length : Int) < a then failU (begU 0 0) 2 else runU x (muU x (begU a.toNat r.toNat)) (begU a.toNat r.toNat)
/-- What Skip answers: the place behind, the error. -/
def skipF (x : List UInt8) : Nat → Nat → Nat × Nat
  | 0, _ => (0, 0)
  | k + 1, p => if (partU (x.drop p)).2 ≠ 0 then (0, (partU (x.drop p)).2) else if (x.drop p).take (partU (x.drop p)).1 = [0] then (p + (partU (x.drop p)).1, 0)
      else if isPtr ((x.drop p).take (partU (x.drop p)).1) = true then (p + (partU (x.drop p)).1, 0) else skipF x k (p + (partU (x.drop p)).1)
def skipU (x : List UInt8) (a : Int) : Nat × Nat := if a < 0 ∨ (x.length : Int) < a then (0, 2) else skipF x (x.length - a.toNat + 1) a.toNat

/-- A part without an error. -/
theorem partU_ok {r : List UInt8} (h : (partU r).2 = 0) : 1 ≤ (partU r).1 ∧ (partU r).1 ≤ r.length ∧ (partU r).1 ≤ 64 ∧ ∃ c t, r = c :: t ∧
    ((c.toNat ≤ 63 ∧ (partU r).1 = 1 + c.toNat) ∨ (192 ≤ c.toNat ∧ (partU r).1 = 2)) := by
  rcases r with _ | ⟨c, t⟩
  · cases h
  · rw [partU_cons] at h ⊢
    by_cases h1 : 192 ≤ c.toNat
    · simp only [if_pos h1] at h ⊢
      by_cases h2 : t.length < 1
      · simp only [if_pos h2] at h; cases h
      · simp only [if_neg h2] at h ⊢
        exact ⟨by omega, by rw [List.length_cons]; omega, by omega, c, t, rfl, .inr ⟨h1, by first | rfl | trivial⟩⟩
    · simp only [if_neg h1] at h ⊢
      by_cases h3 : 63 < c.toNat
      · simp only [if_pos h3] at h; cases h
      · simp only [if_neg h3] at h ⊢
        by_cases h4 : t.length < c.toNat
        · simp only [if_pos h4] at h; cases h
        · simp only [if_neg h4] at h ⊢
          exact ⟨by omega, by rw [List.length_cons]; omega, by omega, c, t, rfl, .inl ⟨by omega, by first | rfl | trivial⟩⟩
/-- What always holds of a walk along so many octets. -/
structure InvU (n : Nat) (s : US) : Prop where
  p : s.p ≤ n
  jr : s.j + s.r ≤ n
  l : s.l.length ≤ 254
  e : s.e ≤ n
  t : s.t.length ≤ 64
theorem begU_inv {n a r : Nat} (h : a ≤ n) (h' : r ≤ n) : InvU n (begU a r) := ⟨h, by simpa [begU] using h', by simp [begU], by simp [begU], by simp [begU]⟩
theorem failU_inv {n : Nat} {s : US} (h : InvU n s) (e : Nat) : InvU n (failU s e) := ⟨h.p, by have := h.jr; simp [failU]; omega, by simp [failU], by simp [failU], h.t⟩
theorem overU_t {x : List UInt8} {s : US} (h : (partU (x.drop s.p)).2 = 0) : (overU x s (partU (x.drop s.p)).1).t.length = (partU (x.drop s.p)).1 := by
  obtain ⟨h1, h2, _⟩ := partU_ok h
  show ((x.drop s.p).take _).length = _
  rw [List.length_take]
  omega
theorem overU_inv {x : List UInt8} {s : US} (hi : InvU x.length s) (h : (partU (x.drop s.p)).2 = 0) : InvU x.length (overU x s (partU (x.drop s.p)).1) := by
  have ht := overU_t h
  obtain ⟨h1, h2, h3, _⟩ := partU_ok h
  rw [List.length_drop] at h2
  refine ⟨?_, hi.jr, hi.l, ?_, by omega⟩
  · show s.p + _ ≤ _
    have := hi.p
    omega
  · show (if s.j = 0 then _ else _) ≤ _
    have := hi.e
    have := hi.p
    split <;> omega
theorem followU_inv {n : Nat} {s : US} (h : InvU n s) : InvU n (followU s) := by
  unfold followU
  split
  · exact failU_inv h 4
  · have := h.jr
    exact ⟨by simp only; omega, by simp only; omega, h.l, h.e, h.t⟩
theorem keepU_inv {n : Nat} {s : US} (h : InvU n s) : InvU n (keepU s) := by
  unfold keepU
  split
  · exact failU_inv h 3
  · exact ⟨h.p, h.jr, by simp only [List.length_append]; omega, h.e, h.t⟩
/-- A round has a step less. -/
theorem mu_follow {x : List UInt8} {s : US} {k : Nat} (hi : InvU x.length s) (h : (partU (x.drop s.p)).2 = 0) (hf : s.f = 0) (hk : muU x s ≤ k + 1) : muU x (followU (overU x s (partU (x.drop s.p)).1)) ≤ k := by
  obtain ⟨h1, h2, _⟩ := partU_ok h
  rw [List.length_drop] at h2
  have hp := hi.p
  unfold muU at hk
  rw [if_neg (by omega)] at hk
  unfold followU
  split
  · simp [muU, failU]
  · rename_i hlt
    simp only [muU]
    rw [if_neg (by simpa [overU] using hf)]
    simp only [overU] at hlt ⊢
    have : (toU ((x.drop s.p).take (partU (x.drop s.p)).1) + 1) * (x.length + 1) ≤ s.r * (x.length + 1) := Nat.mul_le_mul_right _ (by omega)
    rw [Nat.add_mul, Nat.one_mul] at this
    omega
theorem mu_keep {x : List UInt8} {s : US} {k : Nat} (hi : InvU x.length s) (h : (partU (x.drop s.p)).2 = 0) (hf : s.f = 0) (hk : muU x s ≤ k + 1) : muU x (keepU (overU x s (partU (x.drop s.p)).1)) ≤ k := by
  obtain ⟨h1, h2, _⟩ := partU_ok h
  rw [List.length_drop] at h2
  have hp := hi.p
  unfold muU at hk
  rw [if_neg (by omega)] at hk
  unfold keepU
  split
  · simp [muU, failU]
  · simp only [muU]
    rw [if_neg (by simpa [overU] using hf)]
    simp only [overU]
    omega
theorem runU_stop {x : List UInt8} {k : Nat} {s : US} (h : s.f ≠ 0) : runU x k s = s := by
  cases k with
  | zero => rfl
  | succ k => unfold runU; rw [if_pos h]
theorem runU_bad {x : List UInt8} {k : Nat} {s : US} (hf : s.f = 0) (h : (partU (x.drop s.p)).2 ≠ 0) : runU x (k + 1) s = failU s (partU (x.drop s.p)).2 := by
  unfold runU
  rw [if_neg (by omega), if_pos h]
theorem runU_end {x : List UInt8} {k : Nat} {s : US} (hf : s.f = 0) (h : (partU (x.drop s.p)).2 = 0) (ht : (overU x s (partU (x.drop s.p)).1).t = [0]) : runU x (k + 1) s = overU x s (partU (x.drop s.p)).1 := by
  unfold runU
  rw [if_neg (by omega), if_neg (by omega), if_pos ht]
theorem runU_ptr {x : List UInt8} {k : Nat} {s : US} (hf : s.f = 0) (h : (partU (x.drop s.p)).2 = 0) (ht : (overU x s (partU (x.drop s.p)).1).t ≠ [0]) (hp : isPtr (overU x s (partU (x.drop s.p)).1).t = true) : runU x (k + 1) s = runU x k (followU (overU x s (partU (x.drop s.p)).1)) := by
  conv => lhs; unfold runU
  rw [if_neg (by omega), if_neg (by omega), if_neg ht, if_pos hp]
theorem runU_lab {x : List UInt8} {k : Nat} {s : US} (hf : s.f = 0) (h : (partU (x.drop s.p)).2 = 0) (ht : (overU x s (partU (x.drop s.p)).1).t ≠ [0]) (hp : isPtr (overU x s (partU (x.drop s.p)).1).t = false) : runU x (k + 1) s = runU x k (keepU (overU x s (partU (x.drop s.p)).1)) := by
  conv => lhs; unfold runU
  rw [if_neg (by omega), if_neg (by omega), if_neg ht, if_neg (by simp [hp])]
end Go.Proofs.YtodedbokeodmkaaGreat
