/-
  Plain facts on labels' texts: what a text's octets tell, that what was told is read, that comparing folded octets is an order. No condition. Nothing of any program is named here. Plain facts on names: labels put one behind the other and cut again, texts of names read back, canonical order, who is under whom. No condition. Nothing of any program is named here. What reading a name where it stands, pointers followed, answers, part by part: plain mathematics. No condition beyond those that each theorem names. What a name that is read comes to: bounds, what is passed over, what is read without pointers: plain mathematics. No condition beyond those that each theorem names.
-/
import Derived.Lib.Bytealg
namespace Go.Proofs.YtadeflehdfmilaaGreat

/-! ### Octets and texts -/
def dg (c : UInt8) : Bool := decide (48 ≤ c.toNat ∧ c.toNat ≤ 57)
def vis (c : UInt8) : Bool := decide (33 ≤ c.toNat ∧ c.toNat ≤ 126)
def num3 (d e f : UInt8) : Nat := 100 * (d.toNat - 48) + 10 * (e.toNat - 48) + (f.toNat - 48)

/-- The octet that three digits at the head tell. -/
def dig3 : List UInt8 → Option UInt8
  | d :: e :: f :: _ => if dg d = true ∧ dg e = true ∧ dg f = true ∧ num3 d e f ≤ 255 then some (UInt8.ofNat (num3 d e f)) else none
  | _ => none

/-- What stands behind an escape. -/
def esct : List UInt8 → Option (UInt8 × Nat)
  | [] => none
  | d :: r => if dg d = true then (dig3 (d :: r)).map (fun c => (c, 4)) else some (d, 2)

/-- The octet that the head of a text tells, and how many octets tell it. -/
def oct : List UInt8 → Option (UInt8 × Nat)
  | [] => none
  | c :: r => if c.toNat = 92 then esct r else if vis c = true then some (c, 1) else none

/-- What Check answers. -/
def chk (l : List UInt8) : Nat := if l.length = 0 then 2 else if 63 < l.length then 3 else 0

def fin (out : List UInt8) (at_ : Nat) : List UInt8 × Nat × Nat := if out.length = 0 then ([], 0, 2) else (out, at_, 0)

/-- What Read answers, from a place on, 'out' read so far: at most so many octets more. -/
def rdF : Nat → List UInt8 → List UInt8 → Nat → List UInt8 × Nat × Nat
  | _, [], out, k => fin out k
  | 0, c :: r, out, k => if c.toNat = 46 then fin out k else match oct (c :: r) with
      | none => ([], 0, 7)
      | some _ => ([], 0, 3)
  | f + 1, c :: r, out, k => if c.toNat = 46 then fin out k else match oct (c :: r) with
      | none => ([], 0, 7)
      | some (o, n) => rdF f ((c :: r).drop n) (out ++ [o]) (k + n)

/-- What Read answers of a text from its place k on. -/
def rd (s : List UInt8) (k : Nat) : List UInt8 × Nat × Nat := rdF 63 (s.drop k) [] k

/-! ### How many octets tell one -/
/-! ### What was told is read -/
/-! ### Folding and the order -/
def fd (c : UInt8) : UInt8 := if 65 ≤ c.toNat ∧ c.toNat ≤ 90 then c + 32 else c
def fold (l : List UInt8) : List UInt8 := l.map fd
end Go.Proofs.YtadeflehdfmilaaGreat
namespace Go.Proofs.YtadeflehdfmilaaGreat

/-! ### Labels, one behind the other -/
def cutL : List UInt8 → Option (List UInt8 × List UInt8)
  | [] => none
  | c :: r => if 1 ≤ c.toNat ∧ c.toNat ≤ 63 ∧ c.toNat ≤ r.length then some (r.take c.toNat, r.drop c.toNat) else none
def labsF : Nat → List UInt8 → List (List UInt8)
  | 0, _ => []
  | f + 1, l => match cutL l with
    | none => []
    | some x => x.1 :: labsF f x.2
/-- The labels that octets begin with. -/
def labs (l : List UInt8) : List (List UInt8) := labsF l.length l
def enc1 (x : List UInt8) : List UInt8 := UInt8.ofNat x.length :: x
def enc (L : List (List UInt8)) : List UInt8 := L.flatMap enc1
def ok1 (x : List UInt8) : Prop := 1 ≤ x.length ∧ x.length ≤ 63
def okN (L : List (List UInt8)) : Prop := ∀ x ∈ L, ok1 x

theorem ok1_chk {x : List UInt8} : ok1 x ↔ chk x = 0 := by
  unfold ok1 chk
  constructor
  · intro h
    rw [if_neg (by omega), if_neg (by omega)]
  · intro h
    split at h
    · cases h
    · split at h
      · cases h
      · omega
theorem okN_nil : okN [] := fun x h => by cases h
theorem okN_cons {x : List UInt8} {L : List (List UInt8)} : okN (x :: L) ↔ ok1 x ∧ okN L :=
  ⟨fun h => ⟨h x (List.mem_cons_self ..), fun y hy => h y (List.mem_cons_of_mem _ hy)⟩, fun h y hy => by
    rcases List.mem_cons.1 hy with rfl | hy
    · exact h.1
    · exact h.2 y hy⟩
theorem enc1_length (x : List UInt8) : (enc1 x).length = x.length + 1 := rfl
theorem enc_cons (x : List UInt8) (L : List (List UInt8)) : enc (x :: L) = enc1 x ++ enc L := rfl
theorem enc_append (A C : List (List UInt8)) : enc (A ++ C) = enc A ++ enc C := by simp [enc]
theorem enc_one (x : List UInt8) : enc [x] = enc1 x := by simp [enc]
theorem cutL_cons (c : UInt8) (r : List UInt8) : cutL (c :: r) = if 1 ≤ c.toNat ∧ c.toNat ≤ 63 ∧ c.toNat ≤ r.length then some (r.take c.toNat, r.drop c.toNat) else none := rfl
theorem labsF_succ (f : Nat) (l : List UInt8) : labsF (f + 1) l = match cutL l with | none => [] | some x => x.1 :: labsF f x.2 := rfl
theorem cutL_some {l x r : List UInt8} (h : cutL l = some (x, r)) : l = enc1 x ++ r ∧ ok1 x := by
  rcases l with _ | ⟨c, t⟩
  · cases h
  · rw [cutL_cons] at h
    split at h
    · rename_i hc
      simp only [Option.some.injEq, Prod.mk.injEq] at h
      obtain ⟨rfl, rfl⟩ := h
      have hl : (t.take c.toNat).length = c.toNat := by rw [List.length_take]; omega
      refine ⟨?_, by unfold ok1; omega⟩
      unfold enc1
      rw [hl, List.cons_append, List.take_append_drop]
      simp
    · cases h
theorem cutL_len {l x r : List UInt8} (h : cutL l = some (x, r)) : r.length < l.length ∧ l.length = x.length + 1 + r.length := by
  obtain ⟨rfl, _⟩ := cutL_some h
  rw [List.length_append, enc1_length]
  omega
theorem labsF_more : ∀ (f g : Nat) (l : List UInt8), l.length ≤ f → l.length ≤ g → labsF f l = labsF g l
  | 0, 0, _, _, _ => rfl
  | 0, g + 1, l, h, _ => by
    obtain rfl : l = [] := List.eq_nil_of_length_eq_zero (by omega)
    rfl
  | f + 1, 0, l, _, h => by
    obtain rfl : l = [] := List.eq_nil_of_length_eq_zero (by omega)
    rfl
  | f + 1, g + 1, l, hf, hg => by
    rw [labsF_succ, labsF_succ]
    rcases h : cutL l with _ | ⟨x, r⟩
    · rfl
    · have := cutL_len h
      simp only
      rw [labsF_more f g r (by omega) (by omega)]
theorem labs_none {l : List UInt8} (h : cutL l = none) : labs l = [] := by
  unfold labs
  rcases hl : l.length with _ | n
  · rfl
  · rw [labsF_succ, h]
theorem labs_some {l x r : List UInt8} (h : cutL l = some (x, r)) : labs l = x :: labs r := by
  have hn := cutL_len h
  unfold labs
  rcases hl : l.length with _ | n
  · omega
  · rw [labsF_succ, h]
    simp only
    rw [labsF_more n r.length r (by omega) (Nat.le_refl _)]
theorem labs_pre (n : Nat) : ∀ (l : List UInt8), l.length ≤ n → okN (labs l) ∧ ∃ r, l = enc (labs l) ++ r ∧ cutL r = none := by
  induction n with
  | zero =>
    intro l hn
    obtain rfl : l = [] := List.eq_nil_of_length_eq_zero (by omega)
    exact ⟨okN_nil, [], rfl, rfl⟩
  | succ n ih =>
    intro l hn
    rcases h : cutL l with _ | ⟨x, r⟩
    · rw [labs_none h]
      exact ⟨okN_nil, l, by simp [enc], h⟩
    · obtain ⟨e, hx⟩ := cutL_some h
      have hl := cutL_len h
      obtain ⟨i1, r', i2, i3⟩ := ih r (by omega)
      rw [labs_some h]
      refine ⟨okN_cons.2 ⟨hx, i1⟩, r', ?_, i3⟩
      rw [enc_cons, List.append_assoc, ← i2]
      exact e
theorem labs_ok (l : List UInt8) : okN (labs l) := (labs_pre _ l (Nat.le_refl _)).1

/-- What Check answers. -/
def chkN (l : List UInt8) : Nat := if 254 < l.length then 3 else if (enc (labs l)).length = l.length then 0 else 4
theorem chkN_long {l : List UInt8} (h : 254 < l.length) : chkN l = 3 := if_pos h
theorem chkN_iff {l : List UInt8} : chkN l = 0 ↔ l.length ≤ 254 ∧ enc (labs l) = l := by
  unfold chkN
  constructor
  · intro h
    split at h
    · cases h
    · split at h
      · rename_i h1 h2
        obtain ⟨_, r, hr, _⟩ := labs_pre _ l (Nat.le_refl _)
        have : r = [] := by
          have e := congrArg List.length hr
          rw [List.length_append] at e
          exact List.eq_nil_of_length_eq_zero (by omega)
        subst this
        rw [List.append_nil] at hr
        exact ⟨by omega, hr.symm⟩
      · cases h
  · rintro ⟨h1, h2⟩
    rw [if_neg (by omega), h2, if_pos rfl]
theorem enc_two : ∀ {L : List (List UInt8)}, okN L → 2 * L.length ≤ (enc L).length
  | [], _ => by simp
  | x :: L, h => by
    have h' := okN_cons.1 h
    have := enc_two h'.2
    have := h'.1.1
    rw [enc_cons, List.length_append, enc1_length, List.length_cons]
    omega
/-- What Labels answers. -/
def nlabs (l : List UInt8) : List (List UInt8) := if chkN l = 0 then labs l else []
/-! ### A name of labels -/
def named (o : List UInt8) : List UInt8 × Nat := if 254 < o.length then ([], 3) else (o, 0)
/-- The first error of labels. -/
def badL : List (List UInt8) → Nat
  | [] => 0
  | x :: L => if chk x = 0 then badL L else chk x
def mkN (L : List (List UInt8)) : List UInt8 × Nat := if badL L = 0 then named (enc L) else ([], badL L)

/-! ### Texts -/
/-! ### Folding -/
/-! ### Canonical order -/
/-- A name's folded labels from the root's side on. -/
def rows (l : List UInt8) : List (List UInt8) := ((nlabs l).map fold).reverse
/-! ### Parents, joins, wildcards -/
end Go.Proofs.YtadeflehdfmilaaGreat
namespace Go.Proofs.YtadeflehdfmilaaGreat
set_option linter.unusedVariables false

/-- The part that octets begin with: how many octets it has, the error. -/
def partU : List UInt8 → Nat × Nat
  | [] => (0, 8)
  | c :: t => if 192 ≤ c.toNat then (if t.length < 1 then (0, 8) else (2, 0)) else if 63 < c.toNat then (0, 4) else if t.length < c.toNat then (0, 8) else (1 + c.toNat, 0)
theorem partU_cons (c : UInt8) (t : List UInt8) : partU (c :: t) = if 192 ≤ c.toNat then (if t.length < 1 then (0, 8) else (2, 0)) else if 63 < c.toNat then (0, 4) else if t.length < c.toNat then (0, 8) else (1 + c.toNat, 0) := rfl

/-- What a walk along a name has: the name, the place behind it, how many pointers were followed, the error; where the run began, where the next part begins, what the last step went over. -/
structure US where
  l : List UInt8
  e : Nat
  j : Nat
  f : Nat
  r : Nat
  p : Nat
  t : List UInt8
def failU (s : US) (e : Nat) : US := { s with l := [], e := 0, j := 0, f := e }
/-- A step over a part of n octets. -/
def overU (x : List UInt8) (s : US) (n : Nat) : US := { s with t := (x.drop s.p).take n, p := s.p + n, e := if s.j = 0 then s.p + n else s.e }
def toU (t : List UInt8) : Nat := 256 * ((t.headD 0).toNat - 192) + (t.getD 1 0).toNat
def followU (s : US) : US := if s.r ≤ toU s.t then failU s 4 else { s with r := toU s.t, p := toU s.t, j := s.j + 1 }
def keepU (s : US) : US := if 254 < s.l.length + s.t.length then failU s 3 else { s with l := s.l ++ s.t }
def isPtr (t : List UInt8) : Bool := decide (192 ≤ (t.headD 0).toNat)
/-- What comes of a walk, in so many steps at most. -/
def runU (x : List UInt8) : Nat → US → US
  | 0, s => s
  | k + 1, s => if s.f ≠ 0 then s else if (partU (x.drop s.p)).2 ≠ 0 then failU s (partU (x.drop s.p)).2
      else if (overU x s (partU (x.drop s.p)).1).t = [0] then overU x s (partU (x.drop s.p)).1
      else if isPtr (overU x s (partU (x.drop s.p)).1).t = true then runU x k (followU (overU x s (partU (x.drop s.p)).1))
      else runU x k (keepU (overU x s (partU (x.drop s.p)).1))
/-- Where a walk begins. -/
def begU (a r : Nat) : US := ⟨[], 0, 0, 0, r, a, []⟩
/-- More steps than a walk can have. -/
def muU (x : List UInt8) (s : US) : Nat := if s.f ≠ 0 then 0 else s.r * (x.length + 1) + (x.length - s.p) + 1
/-- What reading at a place answers, the first pointer leading ahead of a run. -/
def readU (x : List UInt8) (a : Int) (r : Int) : US :=
  if a < 0 ∨ (x.length : Int) < a then failU (begU 0 0) 2 else runU x (muU x (begU a.toNat r.toNat)) (begU a.toNat r.toNat)
/-- A part without an error. -/
theorem partU_ok {r : List UInt8} (h : (partU r).2 = 0) : 1 ≤ (partU r).1 ∧ (partU r).1 ≤ r.length ∧ (partU r).1 ≤ 64 ∧ ∃ c t, r = c :: t ∧
    ((c.toNat ≤ 63 ∧ (partU r).1 = 1 + c.toNat) ∨ (192 ≤ c.toNat ∧ (partU r).1 = 2)) := by
  rcases r with _ | ⟨c, t⟩
  · cases h
  · rw [partU_cons] at h ⊢
    by_cases h1 : 192 ≤ c.toNat
    · simp only [if_pos h1] at h ⊢
      by_cases h2 : t.length < 1
      · simp only [if_pos h2] at h; cases h
      · simp only [if_neg h2] at h ⊢
        exact ⟨by omega, by rw [List.length_cons]; omega, by omega, c, t, rfl, .inr ⟨h1, by first | rfl | trivial⟩⟩
    · simp only [if_neg h1] at h ⊢
      by_cases h3 : 63 < c.toNat
      · simp only [if_pos h3] at h; cases h
      · simp only [if_neg h3] at h ⊢
        by_cases h4 : t.length < c.toNat
        · simp only [if_pos h4] at h; cases h
        · simp only [if_neg h4] at h ⊢
          exact ⟨by omega, by rw [List.length_cons]; omega, by omega, c, t, rfl, .inl ⟨by omega, by first | rfl | trivial⟩⟩
/-- What always holds of a walk along so many octets. -/
structure InvU (n : Nat) (s : US) : Prop where
  p : s.p ≤ n
  jr : s.j + s.r ≤ n
  l : s.l.length ≤ 254
  e : s.e ≤ n
  t : s.t.length ≤ 64
theorem begU_inv {n a r : Nat} (h : a ≤ n) (h' : r ≤ n) : InvU n (begU a r) := ⟨h, by simpa [begU] using h', by simp [begU], by simp [begU], by simp [begU]⟩
theorem failU_inv {n : Nat} {s : US} (h : InvU n s) (e : Nat) : InvU n (failU s e) := ⟨h.p, by have := h.jr; simp [failU]; omega, by simp [failU], by simp [failU], h.t⟩
theorem overU_t {x : List UInt8} {s : US} (h : (partU (x.drop s.p)).2 = 0) : (overU x s (partU (x.drop s.p)).1).t.length = (partU (x.drop s.p)).1 := by
  obtain ⟨h1, h2, _⟩ := partU_ok h
  show ((x.drop s.p).take _).length = _
  rw [List.length_take]
  omega
theorem overU_inv {x : List UInt8} {s : US} (hi : InvU x.length s) (h : (partU (x.drop s.p)).2 = 0) : InvU x.length (overU x s (partU (x.drop s.p)).1) := by
  have ht := overU_t h
  obtain ⟨h1, h2, h3, _⟩ := partU_ok h
  rw [List.length_drop] at h2
  refine ⟨?_, hi.jr, hi.l, ?_, by omega⟩
  · show s.p + _ ≤ _
    have := hi.p
    omega
  · show (if s.j = 0 then _ else _) ≤ _
    have := hi.e
    have := hi.p
    split <;> omega
theorem followU_inv {n : Nat} {s : US} (h : InvU n s) : InvU n (followU s) := by
  unfold followU
  split
  · exact failU_inv h 4
  · have := h.jr
    exact ⟨by simp only; omega, by simp only; omega, h.l, h.e, h.t⟩
theorem keepU_inv {n : Nat} {s : US} (h : InvU n s) : InvU n (keepU s) := by
  unfold keepU
  split
  · exact failU_inv h 3
  · exact ⟨h.p, h.jr, by simp only [List.length_append]; omega, h.e, h.t⟩
/-- A round has a step less. -/
theorem mu_follow {x : List UInt8} {s : US} {k : Nat} (hi : InvU x.length s) (h : (partU (x.drop s.p)).2 = 0) (hf : s.f = 0) (hk : muU x s ≤ k + 1) : muU x (followU (overU x s (partU (x.drop s.p)).1)) ≤ k := by
  obtain ⟨h1, h2, _⟩ := partU_ok h
  rw [List.length_drop] at h2
  have hp := hi.p
  unfold muU at hk
  rw [if_neg (by omega)] at hk
  unfold followU
  split
  · simp [muU, failU]
  · rename_i hlt
    simp only [muU]
    rw [if_neg (by simpa [overU] using hf)]
    simp only [overU] at hlt ⊢
    have : (toU ((x.drop s.p).take (partU (x.drop s.p)).1) + 1) * (x.length + 1) ≤ s.r * (x.length + 1) := Nat.mul_le_mul_right _ (by omega)
    rw [Nat.add_mul, Nat.one_mul] at this
    omega
theorem mu_keep {x : List UInt8} {s : US} {k : Nat} (hi : InvU x.length s) (h : (partU (x.drop s.p)).2 = 0) (hf : s.f = 0) (hk : muU x s ≤ k + 1) : muU x (keepU (overU x s (partU (x.drop s.p)).1)) ≤ k := by
  obtain ⟨h1, h2, _⟩ := partU_ok h
  rw [List.length_drop] at h2
  have hp := hi.p
  unfold muU at hk
  rw [if_neg (by omega)] at hk
  unfold keepU
  split
  · simp [muU, failU]
  · simp only [muU]
    rw [if_neg (by simpa [overU] using hf)]
    simp only [overU]
    omega
theorem runU_stop {x : List UInt8} {k : Nat} {s : US} (h : s.f ≠ 0) : runU x k s = s := by
  cases k with
  | zero => rfl
  | succ k => unfold runU; rw [if_pos h]
theorem runU_bad {x : List UInt8} {k : Nat} {s : US} (hf : s.f = 0) (h : (partU (x.drop s.p)).2 ≠ 0) : runU x (k + 1) s = failU s (partU (x.drop s.p)).2 := by
  unfold runU
  rw [if_neg (by omega), if_pos h]
theorem runU_end {x : List UInt8} {k : Nat} {s : US} (hf : s.f = 0) (h : (partU (x.drop s.p)).2 = 0) (ht : (overU x s (partU (x.drop s.p)).1).t = [0]) : runU x (k + 1) s = overU x s (partU (x.drop s.p)).1 := by
  unfold runU
  rw [if_neg (by omega), if_neg (by omega), if_pos ht]
theorem runU_ptr {x : List UInt8} {k : Nat} {s : US} (hf : s.f = 0) (h : (partU (x.drop s.p)).2 = 0) (ht : (overU x s (partU (x.drop s.p)).1).t ≠ [0]) (hp : isPtr (overU x s (partU (x.drop s.p)).1).t = true) : runU x (k + 1) s = runU x k (followU (overU x s (partU (x.drop s.p)).1)) := by
  conv => lhs; unfold runU
  rw [if_neg (by omega), if_neg (by omega), if_neg ht, if_pos hp]
theorem runU_lab {x : List UInt8} {k : Nat} {s : US} (hf : s.f = 0) (h : (partU (x.drop s.p)).2 = 0) (ht : (overU x s (partU (x.drop s.p)).1).t ≠ [0]) (hp : isPtr (overU x s (partU (x.drop s.p)).1).t = false) : runU x (k + 1) s = runU x k (keepU (overU x s (partU (x.drop s.p)).1)) := by
  conv => lhs; unfold runU
  rw [if_neg (by omega), if_neg (by omega), if_neg ht, if_neg (by simp [hp])]
end Go.Proofs.YtadeflehdfmilaaGreat
namespace Go.Proofs.YtadeflehdfmilaaGreat
set_option linter.unusedVariables false

theorem run_inv (x : List UInt8) : ∀ (k : Nat) (s : US), InvU x.length s → InvU x.length (runU x k s)
  | 0, s, h => h
  | k + 1, s, h => by
    by_cases hf : s.f = 0
    · by_cases he : (partU (x.drop s.p)).2 = 0
      · have hi := overU_inv h he
        by_cases ht : (overU x s (partU (x.drop s.p)).1).t = [0]
        · rw [runU_end hf he ht]; exact hi
        · cases hp : isPtr (overU x s (partU (x.drop s.p)).1).t
          · rw [runU_lab hf he ht hp]; exact run_inv x k _ (keepU_inv hi)
          · rw [runU_ptr hf he ht hp]; exact run_inv x k _ (followU_inv hi)
      · rw [runU_bad hf he]; exact failU_inv h _
    · rw [runU_stop hf]; exact h
end Go.Proofs.YtadeflehdfmilaaGreat
