/-
  Plain facts on labels' texts: what a text's octets tell, that what was told is read, that comparing folded octets is an order. No condition. Nothing of any program is named here. Plain facts on names: labels put one behind the other and cut again, texts of names read back, canonical order, who is under whom. No condition. Nothing of any program is named here. What reading a name where it stands, pointers followed, answers, part by part: plain mathematics. No condition beyond those that each theorem names. What a name that is read comes to: bounds, what is passed over, what is read without pointers: plain mathematics. No condition beyond those that each theorem names.
-/
import Derived.Lib.Bytealg
namespace Go.Proofs.YtadeflehdfmilaaGreat

/-! ### Octets and texts -/
def dg (c : UInt8) : Bool := decide (48 ≤ c.toNat ∧ c.toNat ≤ 57)
def vis (c : UInt8) : Bool := decide (33 ≤ c.toNat ∧ c.toNat ≤ 126)
def num3 (d e f : UInt8) : Nat := 100 * (d.toNat - 48) + 10 * (e.toNat - 48) + (f.toNat - 48)

/-- The octet that three digits at the head tell. -/
def dig3 : List UInt8 → Option UInt8
  | d :: e :: f :: _ => if dg d = true ∧ dg e = true ∧ dg f = true ∧ num3 d e f ≤ 255 then some (UInt8.ofNat (num3 d e f)) else none
  | _ => none

/-- What stands behind an escape. -/
def esct : List UInt8 → Option (UInt8 × Nat)
  | [] => none
  | d :: r => if dg d = true then (dig3 (d :: r)).map (fun c => (c, 4)) else some (d, 2)

/-- The octet that the head of a text tells, and how many octets tell it. -/
def oct : List UInt8 → Option (UInt8 × Nat)
  | [] => none
  | c :: r => if c.toNat = 92 then esct r else if vis c = true then some (c, 1) else none

/-- What Check answers. -/
def chk (l : List UInt8) : Nat := if l.length = 0 then 2 else if 63 < l.length then 3 else 0

def fin (out : List UInt8) (at_ : Nat) : List UInt8 × Nat × Nat := if out.length = 0 then ([], 0, 2) else (out, at_, 0)

/-- What Read answers, from a place on, 'out' read so far: at most so many octets more. -/
def rdF : Nat → List UInt8 → List UInt8 → Nat → List UInt8 × Nat × Nat
  | _, [], out, k => fin out k
  | 0, c :: r, out, k => if c.toNat = 46 then fin out k else match oct (c :: r) with
      | none => ([], 0, 7)
      | some _ => ([], 0, 3)
  | f + 1, c :: r, out, k => if c.toNat = 46 then fin out k else match oct (c :: r) with
      | none => ([], 0, 7)
      | some (o, n) => rdF f ((c :: r).drop n) (out ++ [o]) (k + n)

/-- What Read answers of a text from its place k on. -/
def rd (s : List UInt8) (k : Nat) : List UInt8 × Nat × Nat := rdF 63 (s.drop k) [] k

/-! ### How many octets tell one -/
/-! ### What was told is read -/
/-! ### Folding and the order -/
def fd (c : UInt8) : UInt8 := if 65 ≤ c.toNat ∧ c.toNat ≤ 90 then c + 32 else c
def fold (l : List UInt8) : List UInt8 := l.map fd
end Go.Proofs.YtadeflehdfmilaaGreat
namespace Go.Proofs.YtadeflehdfmilaaGreat

/-! ### Labels, one behind the other -/
def cutL : List UInt8 → Option (List UInt8 × List UInt8)
  | [] => none
  | c :: r => if 1 ≤ c.toNat ∧ c.toNat ≤ 63 ∧ c.toNat ≤ r.length then some (r.take c.toNat, r.drop c.toNat) else none
def labsF : Nat → List UInt8 → List (List UInt8)
  | 0, _ => []
  | f + 1, l => match cutL l with
    | none => []
    | some x => x.1 :: labsF f x.2
/-- The labels that octets begin with. -/
def labs (l : List UInt8) : List (List UInt8) := labsF l.length l
def enc1 (x : List UInt8) : List UInt8 := UInt8.ofNat x.length :: x
def enc (L : List (List UInt8)) : List UInt8 := L.flatMap enc1
def ok1 (x : List UInt8) : Prop := 1 ≤ x.length ∧ x.length ≤ 63
def okN (L : List (List UInt8)) : Prop := ∀ x ∈ L, ok1 x

theorem ok1_chk {x : List UInt8} : ok1 x ↔ chk x = 0 := by
  unfold ok1 chk
  constructor
  · intro h
    rw [if_neg (by omega), if_neg (by omega)]
  · intro h
    split at h
    · cases h
    · split at h
      · cases h
      · omega
theorem okN_nil : okN [] := fun x h => by cases h
theorem okN_cons {x : List UInt8} {L : List (List UInt8)} : okN (x :: L) ↔ ok1 x ∧ okN L :=
  ⟨fun h => ⟨h x (List.mem_cons_self ..), fun y hy => h y (List.mem_cons_of_mem _ hy)⟩, fun h y hy => by
    rcases List.mem_cons.1 hy with rfl | hy
    · exact h.1
    · exact h.2 y hy⟩
theorem enc1_length (x : List UInt8) : (enc1 x).length = x.length + 1 := rfl
theorem enc_nil : enc [] = [] := rfl
theorem enc_cons (x : List UInt8) (L : List (List UInt8)) : enc (x :: L) = enc1 x ++ enc L := rfl
theorem enc_append (A C : List (List UInt8)) : enc (A ++ C) = enc A ++ enc C := by simp [enc]
theorem enc_one (x : List UInt8) : enc [x] = enc1 x := by simp [enc]
theorem cutL_cons (c : UInt8) (r : List UInt8) : cutL (c :: r) = if 1 ≤ c.toNat ∧ c.toNat ≤ 63 ∧ c.toNat ≤ r.length then some (r.take c.toNat, r.drop c.toNat) else none := rfl
theorem labsF_succ (f : Nat) (l : List UInt8) : labsF (f + 1) l = match cutL l with | none => [] | some x => x.1 :: labsF f x.2 := rfl
theorem cutL_some {l x r : List UInt8} (h : cutL l = some (x, r)) : l = enc1 x ++ r ∧ ok1 x := by
  rcases l with _ | ⟨c, t⟩
  · cases h
  · rw [cutL_cons] at h
    split at h
    · rename_i hc
      simp only [Option.some.injEq, Prod.mk.injEq] at h
      obtain ⟨rfl, rfl⟩ := h
      have hl : (t.take c.toNat).length = c.toNat := by rw [List.length_take]; omega
      refine ⟨?_, by unfold ok1; omega⟩
      unfold enc1
      rw [hl, List.cons_append, List.take_append_drop]
      simp
    · cases h
theorem cutL_len {l x r : List UInt8} (h : cutL l = some (x, r)) : r.length < l.length ∧ l.length = x.length + 1 + r.length := by
  obtain ⟨rfl, _⟩ := cutL_some h
  rw [List.length_append, enc1_length]
  omega
theorem cutL_enc {x : List UInt8} (hx : ok1 x) (r : List UInt8) : cutL (enc1 x ++ r) = some (x, r) := by
  unfold ok1 at hx
  have hn : (UInt8.ofNat x.length).toNat = x.length := UInt8.toNat_ofNat_of_lt' (by show _ < 256; omega)
  unfold enc1
  rw [List.cons_append, cutL_cons, hn, if_pos ⟨hx.1, hx.2, by rw [List.length_append]; omega⟩, List.take_left' rfl, List.drop_left' rfl]

theorem labsF_more : ∀ (f g : Nat) (l : List UInt8), l.length ≤ f → l.length ≤ g → labsF f l = labsF g l
  | 0, 0, _, _, _ => rfl
  | 0, g + 1, l, h, _ => by
    obtain rfl : l = [] := List.eq_nil_of_length_eq_zero (by omega)
    rfl
  | f + 1, 0, l, _, h => by
    obtain rfl : l = [] := List.eq_nil_of_length_eq_zero (by omega)
    rfl
  | f + 1, g + 1, l, hf, hg => by
    rw [labsF_succ, labsF_succ]
    rcases h : cutL l with _ | ⟨x, r⟩
    · rfl
    · have := cutL_len h
      simp only
      rw [labsF_more f g r (by omega) (by omega)]
theorem labs_none {l : List UInt8} (h : cutL l = none) : labs l = [] := by
  unfold labs
  rcases hl : l.length with _ | n
  · rfl
  · rw [labsF_succ, h]
theorem labs_some {l x r : List UInt8} (h : cutL l = some (x, r)) : labs l = x :: labs r := by
  have hn := cutL_len h
  unfold labs
  rcases hl : l.length with _ | n
  · omega
  · rw [labsF_succ, h]
    simp only
    rw [labsF_more n r.length r (by omega) (Nat.le_refl _)]
theorem labs_nil : labs [] = [] := rfl
theorem labs_enc : ∀ (L : List (List UInt8)) (r : List UInt8), okN L → labs (enc L ++ r) = L ++ labs r
  | [], r, _ => by simp [enc]
  | x :: L, r, h => by
    have h' := okN_cons.1 h
    rw [enc_cons, List.append_assoc, labs_some (cutL_enc h'.1 _), labs_enc L r h'.2]
    rfl
theorem labs_enc0 {L : List (List UInt8)} (h : okN L) : labs (enc L) = L := by
  have := labs_enc L [] h
  simpa [labs_nil] using this
theorem labs_pre (n : Nat) : ∀ (l : List UInt8), l.length ≤ n → okN (labs l) ∧ ∃ r, l = enc (labs l) ++ r ∧ cutL r = none := by
  induction n with
  | zero =>
    intro l hn
    obtain rfl : l = [] := List.eq_nil_of_length_eq_zero (by omega)
    exact ⟨okN_nil, [], rfl, rfl⟩
  | succ n ih =>
    intro l hn
    rcases h : cutL l with _ | ⟨x, r⟩
    · rw [labs_none h]
      exact ⟨okN_nil, l, by simp [enc], h⟩
    · obtain ⟨e, hx⟩ := cutL_some h
      have hl := cutL_len h
      obtain ⟨i1, r', i2, i3⟩ := ih r (by omega)
      rw [labs_some h]
      refine ⟨okN_cons.2 ⟨hx, i1⟩, r', ?_, i3⟩
      rw [enc_cons, List.append_assoc, ← i2]
      exact e
theorem labs_ok (l : List UInt8) : okN (labs l) := (labs_pre _ l (Nat.le_refl _)).1

/-- What Check answers. -/
def chkN (l : List UInt8) : Nat := if 254 < l.length then 3 else if (enc (labs l)).length = l.length then 0 else 4
theorem chkN_long {l : List UInt8} (h : 254 < l.length) : chkN l = 3 := if_pos h
theorem chkN_iff {l : List UInt8} : chkN l = 0 ↔ l.length ≤ 254 ∧ enc (labs l) = l := by
  unfold chkN
  constructor
  · intro h
    split at h
    · cases h
    · split at h
      · rename_i h1 h2
        obtain ⟨_, r, hr, _⟩ := labs_pre _ l (Nat.le_refl _)
        have : r = [] := by
          have e := congrArg List.length hr
          rw [List.length_append] at e
          exact List.eq_nil_of_length_eq_zero (by omega)
        subst this
        rw [List.append_nil] at hr
        exact ⟨by omega, hr.symm⟩
      · cases h
  · rintro ⟨h1, h2⟩
    rw [if_neg (by omega), h2, if_pos rfl]
theorem chkN_enc {L : List (List UInt8)} (h : okN L) (hl : (enc L).length ≤ 254) : chkN (enc L) = 0 := chkN_iff.2 ⟨hl, by rw [labs_enc0 h]⟩
theorem enc_two : ∀ {L : List (List UInt8)}, okN L → 2 * L.length ≤ (enc L).length
  | [], _ => by simp
  | x :: L, h => by
    have h' := okN_cons.1 h
    have := enc_two h'.2
    have := h'.1.1
    rw [enc_cons, List.length_append, enc1_length, List.length_cons]
    omega
/-- What Labels answers. -/
def nlabs (l : List UInt8) : List (List UInt8) := if chkN l = 0 then labs l else []
/-! ### A name of labels -/
def named (o : List UInt8) : List UInt8 × Nat := if 254 < o.length then ([], 3) else (o, 0)
/-- The first error of labels. -/
def badL : List (List UInt8) → Nat
  | [] => 0
  | x :: L => if chk x = 0 then badL L else chk x
def mkN (L : List (List UInt8)) : List UInt8 × Nat := if badL L = 0 then named (enc L) else ([], badL L)

/-! ### Texts -/
/-! ### Folding -/
/-! ### Canonical order -/
/-- A name's folded labels from the root's side on. -/
def rows (l : List UInt8) : List (List UInt8) := ((nlabs l).map fold).reverse
/-! ### Parents, joins, wildcards -/
end Go.Proofs.YtadeflehdfmilaaGreat
namespace Go.Proofs.YtadeflehdfmilaaGreat
set_option linter.unusedVariables false

/-- The part that octets begin with: how many octets it has, the error. -/
def partU : List UInt8 → Nat × Nat
  | [] => (0, 8)
  | c :: t => if 192 ≤ c.toNat then (if t.length < 1 then (0, 8) else (2, 0)) else if 63 < c.toNat then (0, 4) else if t.length < c.toNat then (0, 8) else (1 + c.toNat, 0)
theorem partU_cons (c : UInt8) (t : List UInt8) : partU (c :: t) = if 192 ≤ c.toNat then (if t.length < 1 then (0, 8) else (2, 0)) else if 63 < c.toNat then (0, 4) else if t.length < c.toNat then (0, 8) else (1 + c.toNat, 0) := rfl

/-- What a walk along a name has: the name, the place behind it, how many pointers were followed, the error; where the run began, where the next part begins, what the last step went over. -/
structure US where
  l : List UInt8
  e : Nat
  j : Nat
  f : Nat
  r : Nat
  p : Nat
  t : List UInt8
def failU (s : US) (e : Nat) : US := { s with l := [], e := 0, j := 0, f := e }
/-- A step over a part of n octets. -/
def overU (x : List UInt8) (s : US) (n : Nat) : US := { s with t := (x.drop s.p).take n, p := s.p + n, e := if s.j = 0 then s.p + n else s.e }
def toU (t : List UInt8) : Nat := 256 * ((t.headD 0).toNat - 192) + (t.getD 1 0).toNat
def followU (s : US) : US := if s.r ≤ toU s.t then failU s 4 else { s with r := toU s.t, p := toU s.t, j := s.j + 1 }
def keepU (s : US) : US := if 254 < s.l.length + s.t.length then failU s 3 else { s with l := s.l ++ s.t }
def isPtr (t : List UInt8) : Bool := decide (192 ≤ (t.headD 0).toNat)
/-- What comes of a walk, in so many steps at most. -/
def runU (x : List UInt8) : Nat → US → US
  | 0, s => s
  | k + 1, s => if s.f ≠ 0 then s else if (partU (x.drop s.p)).2 ≠ 0 then failU s (partU (x.drop s.p)).2
      else if (overU x s (partU (x.drop s.p)).1).t = [0] then overU x s (partU (x.drop s.p)).1
      else if isPtr (overU x s (partU (x.drop s.p)).1).t = true then runU x k (followU (overU x s (partU (x.drop s.p)).1))
      else runU x k (keepU (overU x s (partU (x.drop s.p)).1))
/-- Where a walk begins. -/
def begU (a r : Nat) : US := ⟨[], 0, 0, 0, r, a, []⟩
/-- More steps than a walk can have. -/
def muU (x : List UInt8) (s : US) : Nat := if s.f ≠ 0 then 0 else s.r * (x.length + 1) + (x.length - s.p) + 1
/-- What reading at a place answers, the first pointer leading ahead of a run. -/
def readU (x : List UInt8) (a : Int) (r : Int) : US :=
  if a < 0 ∨ (x.length : Int) < a then failU (begU 0 0) 2 else runU x (muU x (begU a.toNat r.toNat)) (begU a.toNat r.toNat)
/-- What Skip answers: the place behind, the error. -/
def skipF (x : List UInt8) : Nat → Nat → Nat × Nat
  | 0, _ => (0, 0)
  | k + 1, p => if (partU (x.drop p)).2 ≠ 0 then (0, (partU (x.drop p)).2) else if (x.drop p).take (partU (x.drop p)).1 = [0] then (p + (partU (x.drop p)).1, 0)
      else if isPtr ((x.drop p).take (partU (x.drop p)).1) = true then (p + (partU (x.drop p)).1, 0) else skipF x k (p + (partU (x.drop p)).1)
def skipU (x : List UInt8) (a : Int) : Nat × Nat := if a < 0 ∨ (x.length : Int) < a then (0, 2) else skipF x (x.length - a.toNat + 1) a.toNat

/-- A part without an error. -/
theorem partU_ok {r : List UInt8} (h : (partU r).2 = 0) : 1 ≤ (partU r).1 ∧ (partU r).1 ≤ r.length ∧ (partU r).1 ≤ 64 ∧ ∃ c t, r = c :: t ∧
    ((c.toNat ≤ 63 ∧ (partU r).1 = 1 + c.toNat) ∨ (192 ≤ c.toNat ∧ (partU r).1 = 2)) := by
  rcases r with _ | ⟨c, t⟩
  · cases h
  · rw [partU_cons] at h ⊢
    by_cases h1 : 192 ≤ c.toNat
    · simp only [if_pos h1] at h ⊢
      by_cases h2 : t.length < 1
      · simp only [if_pos h2] at h; cases h
      · simp only [if_neg h2] at h ⊢
        exact ⟨by omega, by rw [List.length_cons]; omega, by omega, c, t, rfl, .inr ⟨h1, by first | rfl | trivial⟩⟩
    · simp only [if_neg h1] at h ⊢
      by_cases h3 : 63 < c.toNat
      · simp only [if_pos h3] at h; cases h
      · simp only [if_neg h3] at h ⊢
        by_cases h4 : t.length < c.toNat
        · simp only [if_pos h4] at h; cases h
        · simp only [if_neg h4] at h ⊢
          exact ⟨by omega, by rw [List.length_cons]; omega, by omega, c, t, rfl, .inl ⟨by omega, by first | rfl | trivial⟩⟩
/-- What always holds of a walk along so many octets. -/
structure InvU (n : Nat) (s : US) : Prop where
  p : s.p ≤ n
  jr : s.j + s.r ≤ n
  l : s.l.length ≤ 254
  e : s.e ≤ n
  t : s.t.length ≤ 64
theorem begU_inv {n a r : Nat} (h : a ≤ n) (h' : r ≤ n) : InvU n (begU a r) := ⟨h, by simpa [begU] using h', by simp [begU], by simp [begU], by simp [begU]⟩
theorem failU_inv {n : Nat} {s : US} (h : InvU n s) (e : Nat) : InvU n (failU s e) := ⟨h.p, by have := h.jr; simp [failU]; omega, by simp [failU], by simp [failU], h.t⟩
theorem overU_t {x : List UInt8} {s : US} (h : (partU (x.drop s.p)).2 = 0) : (overU x s (partU (x.drop s.p)).1).t.length = (partU (x.drop s.p)).1 := by
  obtain ⟨h1, h2, _⟩ := partU_ok h
  show ((x.drop s.p).take _).length = _
  rw [List.length_take]
  omega
theorem overU_inv {x : List UInt8} {s : US} (hi : InvU x.length s) (h : (partU (x.drop s.p)).2 = 0) : InvU x.length (overU x s (partU (x.drop s.p)).1) := by
  have ht := overU_t h
  obtain ⟨h1, h2, h3, _⟩ := partU_ok h
  rw [List.length_drop] at h2
  refine ⟨?_, hi.jr, hi.l, ?_, by omega⟩
  · show s.p + _ ≤ _
    have := hi.p
    omega
  · show (if s.j = 0 then _ else _) ≤ _
    have := hi.e
    have := hi.p
    split <;> omega
theorem followU_inv {n : Nat} {s : US} (h : InvU n s) : InvU n (followU s) := by
  unfold followU
  split
  · exact failU_inv h 4
  · have := h.jr
    exact ⟨by simp only; omega, by simp only; omega, h.l, h.e, h.t⟩
theorem keepU_inv {n : Nat} {s : US} (h : InvU n s) : InvU n (keepU s) := by
  unfold keepU
  split
  · exact failU_inv h 3
  · exact ⟨h.p, h.jr, by simp only [List.length_append]; omega, h.e, h.t⟩
/-- A round has a step less. -/
theorem mu_follow {x : List UInt8} {s : US} {k : Nat} (hi : InvU x.length s) (h : (partU (x.drop s.p)).2 = 0) (hf : s.f = 0) (hk : muU x s ≤ k + 1) : muU x (followU (overU x s (partU (x.drop s.p)).1)) ≤ k := by
  obtain ⟨h1, h2, _⟩ := partU_ok h
  rw [List.length_drop] at h2
  have hp := hi.p
  unfold muU at hk
  rw [if_neg (by omega)] at hk
  unfold followU
  split
  · simp [muU, failU]
  · rename_i hlt
    simp only [muU]
    rw [if_neg (by simpa [overU] using hf)]
    simp only [overU] at hlt ⊢
    have : (toU ((x.drop s.p).take (partU (x.drop s.p)).1) + 1) * (x.length + 1) ≤ s.r * (x.length + 1) := Nat.mul_le_mul_right _ (by omega)
    rw [Nat.add_mul, Nat.one_mul] at this
    omega
theorem mu_keep {x : List UInt8} {s : US} {k : Nat} (hi : InvU x.length s) (h : (partU (x.drop s.p)).2 = 0) (hf : s.f = 0) (hk : muU x s ≤ k + 1) : muU x (keepU (overU x s (partU (x.drop s.p)).1)) ≤ k := by
  obtain ⟨h1, h2, _⟩ := partU_ok h
  rw [List.length_drop] at h2
  have hp := hi.p
  unfold muU at hk
  rw [if_neg (by omega)] at hk
  unfold keepU
  split
  · simp [muU, failU]
  · simp only [muU]
    rw [if_neg (by simpa [overU] using hf)]
    simp only [overU]
    omega
theorem runU_stop {x : List UInt8} {k : Nat} {s : US} (h : s.f ≠ 0) : runU x k s = s := by
  cases k with
  | zero => rfl
  | succ k => unfold runU; rw [if_pos h]
theorem runU_bad {x : List UInt8} {k : Nat} {s : US} (hf : s.f = 0) (h : (partU (x.drop s.p)).2 ≠ 0) : runU x (k + 1) s = failU s (partU (x.drop s.p)).2 := by
  unfold runU
  rw [if_neg (by omega), if_pos h]
theorem runU_end {x : List UInt8} {k : Nat} {s : US} (hf : s.f = 0) (h : (partU (x.drop s.p)).2 = 0) (ht : (overU x s (partU (x.drop s.p)).1).t = [0]) : runU x (k + 1) s = overU x s (partU (x.drop s.p)).1 := by
  unfold runU
  rw [if_neg (by omega), if_neg (by omega), if_pos ht]
theorem runU_ptr {x : List UInt8} {k : Nat} {s : US} (hf : s.f = 0) (h : (partU (x.drop s.p)).2 = 0) (ht : (overU x s (partU (x.drop s.p)).1).t ≠ [0]) (hp : isPtr (overU x s (partU (x.drop s.p)).1).t = true) : runU x (k + 1) s = runU x k (followU (overU x s (partU (x.drop s.p)).1)) := by
  conv => lhs; unfold runU
  rw [if_neg (by omega), if_neg (by omega), if_neg ht, if_pos hp]
theorem runU_lab {x : List UInt8} {k : Nat} {s : US} (hf : s.f = 0) (h : (partU (x.drop s.p)).2 = 0) (ht : (overU x s (partU (x.drop s.p)).1).t ≠ [0]) (hp : isPtr (overU x s (partU (x.drop s.p)).1).t = false) : runU x (k + 1) s = runU x k (keepU (overU x s (partU (x.drop s.p)).1)) := by
  conv => lhs; unfold runU
  rw [if_neg (by omega), if_neg (by omega), if_neg ht, if_neg (by simp [hp])]
end Go.Proofs.YtadeflehdfmilaaGreat
namespace Go.Proofs.YtadeflehdfmilaaGreat
set_option linter.unusedVariables false

/-- A part that is neither the end nor a pointer is a label with its length. -/
theorem lab_part {x : List UInt8} {p : Nat} (h : (partU (x.drop p)).2 = 0) (ht : (x.drop p).take (partU (x.drop p)).1 ≠ [0]) (hp : isPtr ((x.drop p).take (partU (x.drop p)).1) = false) :
    ∃ y, ok1 y ∧ (x.drop p).take (partU (x.drop p)).1 = enc1 y := by
  obtain ⟨h1, h2, h3, c, t, hct, hor⟩ := partU_ok h
  have h2' : (partU (x.drop p)).1 ≤ t.length + 1 := by rw [← List.length_cons (a := c), ← hct]; exact h2
  clear h2
  rcases hor with ⟨hc, hn⟩ | ⟨hc, hn⟩
  · rw [hn] at ht hp h2' ⊢
    rw [hct] at ht hp ⊢
    rw [Nat.add_comm, List.take_succ_cons] at ht hp ⊢
    have hl : (t.take c.toNat).length = c.toNat := by rw [List.length_take]; omega
    have hc0 : c.toNat ≠ 0 := fun e => by
      have : c = 0 := UInt8.toNat_inj.1 e
      subst this
      simp at ht
    refine ⟨t.take c.toNat, ⟨by omega, by omega⟩, ?_⟩
    unfold enc1
    rw [hl]
    simp
  · rw [hn, hct] at hp
    simp [isPtr] at hp
    omega
theorem run_inv (x : List UInt8) : ∀ (k : Nat) (s : US), InvU x.length s → InvU x.length (runU x k s)
  | 0, s, h => h
  | k + 1, s, h => by
    by_cases hf : s.f = 0
    · by_cases he : (partU (x.drop s.p)).2 = 0
      · have hi := overU_inv h he
        by_cases ht : (overU x s (partU (x.drop s.p)).1).t = [0]
        · rw [runU_end hf he ht]; exact hi
        · cases hp : isPtr (overU x s (partU (x.drop s.p)).1).t
          · rw [runU_lab hf he ht hp]; exact run_inv x k _ (keepU_inv hi)
          · rw [runU_ptr hf he ht hp]; exact run_inv x k _ (followU_inv hi)
      · rw [runU_bad hf he]; exact failU_inv h _
    · rw [runU_stop hf]; exact h
/-- What is read, of what stood. -/
structure RunOk (x : List UInt8) (s u : US) : Prop where
  l : ∃ L, okN L ∧ u.l = s.l ++ enc L
  j : s.j ≤ u.j
  jr : u.j + u.r ≤ s.j + s.r
  e : s.j ≠ 0 → u.e = s.e
  sk : s.j = 0 → s.p < u.e ∧ ∀ m, x.length - s.p < m → skipF x m s.p = (u.e, 0)
  pl : s.j = 0 → ∀ m, muU x { s with r := 0 } ≤ m → (u.j = 0 → runU x m { s with r := 0 } = { u with r := 0 }) ∧ (u.j ≠ 0 → (runU x m { s with r := 0 }).f ≠ 0)
theorem run_ok (x : List UInt8) : ∀ (k : Nat) (s : US), s.f = 0 → InvU x.length s → muU x s ≤ k → (runU x k s).f = 0 → RunOk x s (runU x k s)
  | 0, s, hf, hi, hm, hu => by
    rw [show muU x s = _ from if_neg (by omega)] at hm
    omega
  | k + 1, s, hf, hi, hm, hu => by
    by_cases he : (partU (x.drop s.p)).2 = 0
    · obtain ⟨s2, hs2⟩ : ∃ s2, overU x s (partU (x.drop s.p)).1 = s2 := ⟨_, rfl⟩
      have hi2 : InvU x.length s2 := by rw [← hs2]; exact overU_inv hi he
      obtain ⟨h1, h2, _⟩ := partU_ok he
      rw [List.length_drop] at h2
      have hsp := hi.p
      have ef : s2.f = 0 := by rw [← hs2]; exact hf
      have el : s2.l = s.l := by rw [← hs2]; rfl
      have ej : s2.j = s.j := by rw [← hs2]; rfl
      have er : s2.r = s.r := by rw [← hs2]; rfl
      have ep : s2.p = s.p + (partU (x.drop s.p)).1 := by rw [← hs2]; rfl
      have et : s2.t = (x.drop s.p).take (partU (x.drop s.p)).1 := by rw [← hs2]; rfl
      have ee : s2.e = if s.j = 0 then s.p + (partU (x.drop s.p)).1 else s.e := by rw [← hs2]; rfl
      have hs2' : overU x { s with r := 0 } (partU (x.drop s.p)).1 = { s2 with r := 0 } := by rw [← hs2]; rfl
      have hmz : ∀ m, muU x { s with r := 0 } ≤ m → ∃ m', m = m' + 1 := fun m hm' => by
        rw [show muU x { s with r := 0 } = _ from if_neg (fun h => h hf)] at hm'
        exact ⟨m - 1, by omega⟩
      have hmk := mu_keep hi he hf hm
      have hmf := mu_follow hi he hf hm
      rw [hs2] at hmk hmf
      by_cases ht : s2.t = [0]
      · rw [runU_end hf he (by rw [hs2]; exact ht), hs2] at hu ⊢
        refine ⟨⟨[], okN_nil, by rw [el, enc_nil, List.append_nil]⟩, by omega, by omega, fun h => by rw [ee, if_neg h], fun h => ⟨by rw [ee, if_pos h]; omega, fun m hm' => ?_⟩, fun h m hm' => ⟨fun _ => ?_, fun h' => absurd (ej.trans h) h'⟩⟩
        · obtain ⟨m, rfl⟩ : ∃ m', m = m' + 1 := ⟨m - 1, by omega⟩
          unfold skipF
          rw [if_neg (by omega), if_pos (by rw [← et]; exact ht), ee, if_pos h]
        · obtain ⟨m, rfl⟩ := hmz m hm'
          rw [runU_end (s := { s with r := 0 }) hf he (by rw [hs2']; exact ht), hs2']
      · cases hp : isPtr s2.t
        · rw [runU_lab hf he (by rw [hs2]; exact ht) (by rw [hs2]; exact hp), hs2] at hu ⊢
          obtain ⟨y, hy1, hy2⟩ := lab_part he (by rw [← et]; exact ht) (by rw [← et]; exact hp)
          rw [← et] at hy2
          by_cases hlong : 254 < s2.l.length + s2.t.length
          · rw [show keepU s2 = failU s2 3 from if_pos hlong, runU_stop (show (failU s2 3).f ≠ 0 by simp [failU])] at hu
            simp [failU] at hu
          · have ek : keepU s2 = { s2 with l := s2.l ++ s2.t } := if_neg hlong
            rw [ek] at hu hmk ⊢
            have hi3 : InvU x.length { s2 with l := s2.l ++ s2.t } := by rw [← ek]; exact keepU_inv hi2
            obtain ⟨⟨L, hL, hl⟩, a2, a3, a4, a5, a6⟩ := run_ok x k { s2 with l := s2.l ++ s2.t } ef hi3 hmk hu
            simp only at hl a2 a3 a4 a5 a6
            refine ⟨⟨y :: L, okN_cons.2 ⟨hy1, hL⟩, by rw [hl, el, hy2, enc_cons, List.append_assoc]⟩, by omega, by omega, fun h => (a4 (by omega)).trans (by rw [ee, if_neg h]), fun h => ?_, fun h m hm' => ?_⟩
            · obtain ⟨b1, b2⟩ := a5 (by omega)
              refine ⟨by omega, fun m hm' => ?_⟩
              obtain ⟨m, rfl⟩ : ∃ m', m = m' + 1 := ⟨m - 1, by omega⟩
              conv => lhs; unfold skipF
              rw [if_neg (by omega), if_neg (by rw [← et]; exact ht), if_neg (by rw [← et, hp]; simp), ← ep]
              exact b2 m (by omega)
            · obtain ⟨m, rfl⟩ := hmz m hm'
              have ht' : (overU x { s with r := 0 } (partU (x.drop s.p)).1).t ≠ [0] := by rw [hs2']; exact ht
              have hp' : isPtr (overU x { s with r := 0 } (partU (x.drop s.p)).1).t = false := by rw [hs2']; exact hp
              have hi' : InvU x.length { s with r := 0 } := ⟨hi.p, by have := hi.jr; simp only; omega, hi.l, hi.e, hi.t⟩
              have hmk' := mu_keep hi' he hf hm'
              rw [show runU x (m + 1) { s with r := 0 } = runU x m (keepU { s2 with r := 0 }) from (runU_lab (s := { s with r := 0 }) hf he ht' hp').trans (by rw [hs2'])]
              rw [show keepU (overU x { s with r := 0 } (partU (x.drop s.p)).1) = keepU { s2 with r := 0 } by rw [← hs2']] at hmk'
              have ek' : keepU { s2 with r := 0 } = { s2 with l := s2.l ++ s2.t, r := 0 } := if_neg hlong
              rw [ek'] at hmk' ⊢
              exact a6 (by omega) m hmk'
        · rw [runU_ptr hf he (by rw [hs2]; exact ht) (by rw [hs2]; exact hp), hs2] at hu ⊢
          by_cases hto : s2.r ≤ toU s2.t
          · rw [show followU s2 = failU s2 4 from if_pos hto, runU_stop (show (failU s2 4).f ≠ 0 by simp [failU])] at hu
            simp [failU] at hu
          · have ek : followU s2 = { s2 with r := toU s2.t, p := toU s2.t, j := s2.j + 1 } := if_neg hto
            have hi3 : InvU x.length (followU s2) := followU_inv hi2
            rw [ek] at hu hmf hi3 ⊢
            obtain ⟨⟨L, hL, hl⟩, a2, a3, a4, _, _⟩ := run_ok x k { s2 with r := toU s2.t, p := toU s2.t, j := s2.j + 1 } ef hi3 hmf hu
            simp only at hl a2 a3 a4
            refine ⟨⟨L, hL, by rw [hl, el]⟩, by omega, by omega, fun h => (a4 (by omega)).trans (by rw [ee, if_neg h]), fun h => ?_, fun h m hm' => ⟨fun h' => by omega, fun _ => ?_⟩⟩
            · refine ⟨by rw [a4 (by omega), ee, if_pos h]; omega, fun m hm' => ?_⟩
              obtain ⟨m, rfl⟩ : ∃ m', m = m' + 1 := ⟨m - 1, by omega⟩
              conv => lhs; unfold skipF
              rw [if_neg (by omega), if_neg (by rw [← et]; exact ht), if_pos (by rw [← et]; exact hp), a4 (by omega), ee, if_pos h]
            · obtain ⟨m, rfl⟩ := hmz m hm'
              rw [show runU x (m + 1) { s with r := 0 } = runU x m (followU { s2 with r := 0 }) from (runU_ptr (s := { s with r := 0 }) hf he (by rw [hs2']; exact ht) (by rw [hs2']; exact hp)).trans (by rw [hs2'])]
              rw [show followU { s2 with r := 0 } = failU { s2 with r := 0 } 4 from if_pos (Nat.zero_le _), runU_stop (show (failU { s2 with r := 0 } 4).f ≠ 0 by simp [failU])]
              simp [failU]
    · rw [runU_bad hf he] at hu
      exact absurd hu he
/-- What is read of a name, and what follows. -/
structure ReadOk (x : List UInt8) (a : Nat) (u p : US) : Prop where
  le : a ≤ x.length
  chk : chkN u.l = 0
  skip : skipU x a = (u.e, 0)
  lt : a < u.e
  e : u.e ≤ x.length
  j : u.j ≤ a
  p : (u.j = 0 ∧ p.f = 0 ∧ p.l = u.l ∧ p.e = u.e) ∨ (u.j ≠ 0 ∧ p.f ≠ 0)
theorem readU_yes {x : List UInt8} {a : Int} (h : (readU x a a).f = 0) : ∃ n : Nat, a = n ∧ ReadOk x n (readU x a a) (readU x a 0) := by
  by_cases ha : a < 0 ∨ (x.length : Int) < a
  · rw [show readU x a a = _ from if_pos ha] at h
    simp [failU] at h
  · obtain ⟨n, rfl⟩ := Int.eq_ofNat_of_zero_le (show 0 ≤ a by omega)
    refine ⟨n, rfl, ?_⟩
    have hn : n ≤ x.length := by omega
    have e1 : readU x (n : Int) (n : Int) = runU x (muU x (begU n n)) (begU n n) := if_neg ha
    have e2 : readU x (n : Int) 0 = runU x (muU x (begU n 0)) (begU n 0) := if_neg ha
    have e3 : skipU x (n : Int) = skipF x (x.length - n + 1) n := if_neg ha
    rw [e1] at h
    rw [e1, e2]
    have hi := run_inv x (muU x (begU n n)) _ (begU_inv hn hn)
    obtain ⟨⟨L, hL, hl⟩, h2, h3, _, h5, h6⟩ := run_ok x (muU x (begU n n)) (begU n n) rfl (begU_inv hn hn) (Nat.le_refl _) h
    obtain ⟨b1, b2⟩ := h5 rfl
    obtain ⟨c1, c2⟩ := h6 rfl _ (Nat.le_refl _)
    have hl' : (runU x (muU x (begU n n)) (begU n n)).l = enc L := hl
    have hjr : (runU x (muU x (begU n n)) (begU n n)).j ≤ n := by
      have : (begU n n).j + (begU n n).r = n := Nat.zero_add n
      omega
    refine ⟨hn, ?_, ?_, b1, hi.e, hjr, ?_⟩
    · rw [hl']
      exact chkN_enc hL (by rw [← hl']; exact hi.l)
    · rw [e3]
      exact b2 _ (by show x.length - n < _; omega)
    · by_cases hj : (runU x (muU x (begU n n)) (begU n n)).j = 0
      · have := c1 hj
        have e : runU x (muU x (begU n 0)) (begU n 0) = _ := this
        rw [e]
        exact .inl ⟨hj, h, rfl, rfl⟩
      · exact .inr ⟨hj, c2 hj⟩
end Go.Proofs.YtadeflehdfmilaaGreat
