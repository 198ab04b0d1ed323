/-
  Plain facts on labels' texts: what a text's octets tell, that what was told is read, that comparing folded octets is an order. No condition. Nothing of any program is named here.
-/
import Derived.Lib.Bytealg
namespace Go.Proofs.Ytmjhofgcfolelaa

/-! ### Octets and texts -/
def dg (c : UInt8) : Bool := decide (48 ≤ c.toNat ∧ c.toNat ≤ 57)
def vis (c : UInt8) : Bool := decide (33 ≤ c.toNat ∧ c.toNat ≤ 126)
def num3 (d e f : UInt8) : Nat := 100 * (d.toNat - 48) + 10 * (e.toNat - 48) + (f.toNat - 48)

/-- The octet that three digits at the head tell. -/
def dig3 : List UInt8 → Option UInt8
  | d :: e :: f :: _ => if dg d = true ∧ dg e = true ∧ dg f = true ∧ num3 d e f ≤ 255 then some (UInt8.ofNat (num3 d e f)) else none
  | _ => none

/-- What stands behind an escape. -/
def esct : List UInt8 → Option (UInt8 × Nat)
  | [] => none
  | d :: r => if dg d = true then (dig3 (d :: r)).map (fun c => (c, 4)) else some (d, 2)

/-- The octet that the head of a text tells, and how many octets tell it. -/
def oct : List UInt8 → Option (UInt8 × Nat)
  | [] => none
  | c :: r => if c.toNat = 92 then esct r else if vis c = true then some (c, 1) else none

theorem esct_cons (d : UInt8) (r : List UInt8) : esct (d :: r) = if dg d = true then (dig3 (d :: r)).map (fun c => (c, 4)) else some (d, 2) := rfl
theorem oct_cons (c : UInt8) (r : List UInt8) : oct (c :: r) = if c.toNat = 92 then esct r else if vis c = true then some (c, 1) else none := rfl

/-- The text of an octet by its number. -/
def esc3 (c : UInt8) : List UInt8 := [92, 48 + c / 100, 48 + c / 10 % 10, 48 + c % 10]
/-- The text of an octet. -/
def esc1 (c : UInt8) : List UInt8 := if vis c = true then (if c.toNat = 46 ∨ c.toNat = 92 then [92, c] else [c]) else esc3 c

def tx (l : List UInt8) : List UInt8 := l.flatMap esc1
def tx3 (l : List UInt8) : List UInt8 := l.flatMap esc3

/-- What Check answers. -/
def chk (l : List UInt8) : Nat := if l.length = 0 then 2 else if 63 < l.length then 3 else 0

def fin (out : List UInt8) (at_ : Nat) : List UInt8 × Nat × Nat := if out.length = 0 then ([], 0, 2) else (out, at_, 0)

/-- What Read answers, from a place on, 'out' read so far: at most so many octets more. -/
def rdF : Nat → List UInt8 → List UInt8 → Nat → List UInt8 × Nat × Nat
  | _, [], out, k => fin out k
  | 0, c :: r, out, k => if c.toNat = 46 then fin out k else match oct (c :: r) with
      | none => ([], 0, 7)
      | some _ => ([], 0, 3)
  | f + 1, c :: r, out, k => if c.toNat = 46 then fin out k else match oct (c :: r) with
      | none => ([], 0, 7)
      | some (o, n) => rdF f ((c :: r).drop n) (out ++ [o]) (k + n)

/-- What Read answers of a text from its place k on. -/
def rd (s : List UInt8) (k : Nat) : List UInt8 × Nat × Nat := rdF 63 (s.drop k) [] k

theorem rdF_nil (f : Nat) (out : List UInt8) (k : Nat) : rdF f [] out k = fin out k := by cases f <;> rfl
theorem rdF_dot (f : Nat) (c : UInt8) (r out : List UInt8) (k : Nat) (h : c.toNat = 46) : rdF f (c :: r) out k = fin out k := by
  cases f <;> simp [rdF, h]
theorem rdF_bad (f : Nat) (c : UInt8) (r out : List UInt8) (k : Nat) (h : c.toNat ≠ 46) (ho : oct (c :: r) = none) : rdF f (c :: r) out k = ([], 0, 7) := by
  cases f <;> simp [rdF, h, ho]
theorem rdF_long (c : UInt8) (r out : List UInt8) (k : Nat) (x : UInt8 × Nat) (h : c.toNat ≠ 46) (ho : oct (c :: r) = some x) : rdF 0 (c :: r) out k = ([], 0, 3) := by
  simp [rdF, h, ho]
theorem rdF_step (f : Nat) (c : UInt8) (r out : List UInt8) (k : Nat) (o : UInt8) (n : Nat) (h : c.toNat ≠ 46) (ho : oct (c :: r) = some (o, n)) :
    rdF (f + 1) (c :: r) out k = rdF f ((c :: r).drop n) (out ++ [o]) (k + n) := by
  simp [rdF, h, ho]

/-! ### How many octets tell one -/
theorem dig3_len {l : List UInt8} {c : UInt8} (h : dig3 l = some c) : 3 ≤ l.length := by
  rcases l with _ | ⟨d, _ | ⟨e, _ | ⟨f, r⟩⟩⟩
  · simp [dig3] at h
  · simp [dig3] at h
  · simp [dig3] at h
  · simp
theorem esct_len {l : List UInt8} {c : UInt8} {n : Nat} (h : esct l = some (c, n)) : 1 ≤ n ∧ n ≤ l.length + 1 := by
  rcases l with _ | ⟨d, r⟩
  · simp [esct] at h
  · rw [esct_cons] at h
    split at h
    · rcases hd : dig3 (d :: r) with _ | x
      · simp [hd] at h
      · have := dig3_len hd
        simp [hd] at h
        omega
    · simp at h
      simp; omega
theorem oct_len {l : List UInt8} {c : UInt8} {n : Nat} (h : oct l = some (c, n)) : 1 ≤ n ∧ n ≤ l.length := by
  rcases l with _ | ⟨d, r⟩
  · simp [oct] at h
  · rw [oct_cons] at h
    split at h
    · have := esct_len h
      simp; omega
    · split at h
      · simp at h
        simp; omega
      · simp at h

/-! ### What was told is read -/
theorem dig3_more {l r : List UInt8} {c : UInt8} (h : dig3 l = some c) : dig3 (l ++ r) = some c := by
  rcases l with _ | ⟨d, _ | ⟨e, _ | ⟨f, t⟩⟩⟩
  · simp [dig3] at h
  · simp [dig3] at h
  · simp [dig3] at h
  · simpa [dig3] using h
theorem esct_more {l r : List UInt8} {x : UInt8 × Nat} (h : esct l = some x) : esct (l ++ r) = some x := by
  rcases l with _ | ⟨d, t⟩
  · simp [esct] at h
  · rw [List.cons_append]
    rw [esct_cons] at h ⊢
    split at h
    · rename_i hd
      rw [if_pos hd]
      rcases h3 : dig3 (d :: t) with _ | c
      · simp [h3] at h
      · have := dig3_more (r := r) h3
        rw [List.cons_append] at this
        rw [this, ← h, h3]
    · rename_i hd
      rw [if_neg hd]
      exact h
theorem oct_more {l r : List UInt8} {x : UInt8 × Nat} (h : oct l = some x) : oct (l ++ r) = some x := by
  rcases l with _ | ⟨d, t⟩
  · simp [oct] at h
  · rw [List.cons_append]
    rw [oct_cons] at h ⊢
    split at h
    · rename_i hd
      rw [if_pos hd]
      exact esct_more h
    · rename_i hd
      rw [if_neg hd]
      exact h

/-- A way to write octets that is read back. -/
def Good (f : UInt8 → List UInt8) : Prop := ∀ c, (∃ h t, f c = h :: t ∧ h.toNat ≠ 46) ∧ oct (f c) = some (c, (f c).length)

theorem forall_u8 {p : UInt8 → Prop} (h : ∀ n, n < 256 → p (UInt8.ofNat n)) (c : UInt8) : p c := by
  have := h c.toNat c.toNat_lt
  simpa using this

def headOk (l : List UInt8) : Bool := match l with
  | [] => false
  | h :: _ => h.toNat != 46
theorem headOk_out {l : List UInt8} (h : headOk l = true) : ∃ x t, l = x :: t ∧ x.toNat ≠ 46 := by
  rcases l with _ | ⟨x, t⟩
  · simp [headOk] at h
  · exact ⟨x, t, rfl, by simpa [headOk] using h⟩

theorem good3_all : ∀ n, n < 256 → headOk (esc3 (UInt8.ofNat n)) = true ∧ oct (esc3 (UInt8.ofNat n)) = some (UInt8.ofNat n, (esc3 (UInt8.ofNat n)).length) := by decide +kernel
theorem good1_all : ∀ n, n < 256 → headOk (esc1 (UInt8.ofNat n)) = true ∧ oct (esc1 (UInt8.ofNat n)) = some (UInt8.ofNat n, (esc1 (UInt8.ofNat n)).length) := by decide +kernel
theorem good3 : Good esc3 := fun c => forall_u8 (p := fun c => (∃ h t, esc3 c = h :: t ∧ h.toNat ≠ 46) ∧ oct (esc3 c) = some (c, (esc3 c).length)) (fun n hn => ⟨headOk_out (good3_all n hn).1, (good3_all n hn).2⟩) c
theorem good1 : Good esc1 := fun c => forall_u8 (p := fun c => (∃ h t, esc1 c = h :: t ∧ h.toNat ≠ 46) ∧ oct (esc1 c) = some (c, (esc1 c).length)) (fun n hn => ⟨headOk_out (good1_all n hn).1, (good1_all n hn).2⟩) c

/-- Behind a text there is nothing, or a dot. -/
def Stop (r : List UInt8) : Prop := r = [] ∨ ∃ c t, r = c :: t ∧ c.toNat = 46

theorem rdF_stop (f : Nat) (r out : List UInt8) (k : Nat) (h : Stop r) : rdF f r out k = fin out k := by
  rcases h with rfl | ⟨c, t, rfl, hc⟩
  · exact rdF_nil _ _ _
  · exact rdF_dot _ _ _ _ _ hc

theorem rdF_good {g : UInt8 → List UInt8} (hg : Good g) (r : List UInt8) (hr : Stop r) : ∀ (l : List UInt8) (f : Nat) (out : List UInt8) (k : Nat), l.length ≤ f →
    rdF f (l.flatMap g ++ r) out k = fin (out ++ l) (k + (l.flatMap g).length)
  | [], f, out, k, _ => by simpa using rdF_stop f r out k hr
  | c :: l, 0, _, _, h => by simp at h
  | c :: l, f + 1, out, k, h => by
    obtain ⟨⟨x, t, hx, hx46⟩, ho⟩ := hg c
    have ho' : oct (g c ++ (l.flatMap g ++ r)) = some (c, (g c).length) := oct_more ho
    have ih := rdF_good hg r hr l f (out ++ [c]) (k + (g c).length) (by simpa using h)
    rw [List.flatMap_cons, List.append_assoc]
    rw [hx, List.cons_append] at ho' ⊢
    rw [rdF_step f x _ out k c _ hx46 ho', ← List.cons_append, ← hx, List.drop_left, ih]
    simp [Nat.add_assoc]

theorem rd_good {g : UInt8 → List UInt8} (hg : Good g) (a r l : List UInt8) (hr : Stop r) (h0 : 0 < l.length) (hl : l.length ≤ 63) :
    rd (a ++ (l.flatMap g ++ r)) a.length = (l, a.length + (l.flatMap g).length, 0) := by
  unfold rd
  rw [List.drop_left, rdF_good hg r hr l 63 [] a.length hl, List.nil_append]
  unfold fin
  rw [if_neg (by omega)]

theorem rd_text (l r : List UInt8) (hr : Stop r) (h0 : 0 < l.length) (hl : l.length ≤ 63) : rd (tx l ++ r) 0 = (l, (tx l).length, 0) := by
  have := rd_good good1 [] r l hr h0 hl
  simpa [tx] using this
theorem rd_text0 (l : List UInt8) (h0 : 0 < l.length) (hl : l.length ≤ 63) : rd (tx l) 0 = (l, (tx l).length, 0) := by
  have := rd_text l [] (.inl rfl) h0 hl
  simpa using this
theorem rd_text_at (a l r : List UInt8) (hr : Stop r) (h0 : 0 < l.length) (hl : l.length ≤ 63) : rd (a ++ (tx l ++ r)) a.length = (l, a.length + (tx l).length, 0) := rd_good good1 a r l hr h0 hl
theorem rd_text3 (l : List UInt8) (h0 : 0 < l.length) (hl : l.length ≤ 63) : rd (tx3 l) 0 = (l, (tx3 l).length, 0) := by
  have := rd_good good3 [] [] l (.inl rfl) h0 hl
  simpa [tx3] using this

theorem tx_inj {a b : List UInt8} (ha : 0 < a.length) (ha' : a.length ≤ 63) (hb : 0 < b.length) (hb' : b.length ≤ 63) : tx a = tx b ↔ a = b := by
  constructor
  · intro h
    have h1 := rd_text0 a ha ha'
    have h2 := rd_text0 b hb hb'
    rw [h, h2] at h1
    exact (congrArg Prod.fst h1).symm
  · rintro rfl
    rfl

theorem vis_all : ∀ n, n < 256 → (esc1 (UInt8.ofNat n)).all vis = true := by decide +kernel
theorem vis_esc1 (c : UInt8) : ∀ x ∈ esc1 c, vis x = true := by
  have := forall_u8 (p := fun c => (esc1 c).all vis = true) vis_all c
  exact List.all_eq_true.1 this
theorem vis_tx (l : List UInt8) : ∀ x ∈ tx l, vis x = true := by
  intro x hx
  obtain ⟨c, _, hc⟩ := List.mem_flatMap.1 hx
  exact vis_esc1 c x hc

theorem esc1_len_all : ∀ n, n < 256 → (esc1 (UInt8.ofNat n)).length ≤ 4 := by decide +kernel
theorem esc1_len (c : UInt8) : (esc1 c).length ≤ 4 := forall_u8 (p := fun c => (esc1 c).length ≤ 4) esc1_len_all c
theorem tx_len : ∀ l : List UInt8, (tx l).length ≤ 4 * l.length
  | [] => by simp [tx]
  | c :: l => by
    have h1 := tx_len l
    have h2 := esc1_len c
    unfold tx at h1 ⊢
    rw [List.flatMap_cons, List.length_append, List.length_cons]
    omega
theorem tx_snoc (l : List UInt8) (c : UInt8) : tx (l ++ [c]) = tx l ++ esc1 c := by simp [tx]
theorem tx3_snoc (l : List UInt8) (c : UInt8) : tx3 (l ++ [c]) = tx3 l ++ esc3 c := by simp [tx3]
theorem tx3_len (l : List UInt8) : (tx3 l).length = 4 * l.length := by
  induction l with
  | nil => rfl
  | cons c l ih =>
    unfold tx3 at ih ⊢
    rw [List.flatMap_cons, List.length_append, ih, List.length_cons]
    simp [esc3]; omega

/-! ### Folding and the order -/
def fd (c : UInt8) : UInt8 := if 65 ≤ c.toNat ∧ c.toNat ≤ 90 then c + 32 else c
def fold (l : List UInt8) : List UInt8 := l.map fd
def cmp (a b : List UInt8) : Int := Lib.compareBytes (fold a) (fold b)

theorem fd_all : ∀ n, n < 256 → fd (fd (UInt8.ofNat n)) = fd (UInt8.ofNat n) := by decide +kernel
theorem fd_fd (c : UInt8) : fd (fd c) = fd c := forall_u8 (p := fun c => fd (fd c) = fd c) fd_all c
theorem fold_fold (l : List UInt8) : fold (fold l) = fold l := by simp [fold, fd_fd]
theorem fold_length (l : List UInt8) : (fold l).length = l.length := by simp [fold]

theorem cb_range : ∀ a b : List UInt8, Lib.compareBytes a b = -1 ∨ Lib.compareBytes a b = 0 ∨ Lib.compareBytes a b = 1
  | [], [] => by simp [Lib.compareBytes]
  | [], _ :: _ => by simp [Lib.compareBytes]
  | _ :: _, [] => by simp [Lib.compareBytes]
  | x :: a, y :: b => by
    unfold Lib.compareBytes
    split
    · simp
    · split
      · simp
      · exact cb_range a b
theorem cb_zero : ∀ a b : List UInt8, Lib.compareBytes a b = 0 ↔ a = b
  | [], [] => by simp [Lib.compareBytes]
  | [], _ :: _ => by simp [Lib.compareBytes]
  | _ :: _, [] => by simp [Lib.compareBytes]
  | x :: a, y :: b => by
    unfold Lib.compareBytes
    have ih := cb_zero a b
    simp only [UInt8.lt_iff_toNat_lt]
    split
    · rename_i h
      simp
      intro e
      subst e
      omega
    · split
      · rename_i h
        simp
        intro e
        subst e
        omega
      · have : x = y := UInt8.toNat_inj.1 (by omega)
        simp [ih, this]
theorem cb_swap : ∀ a b : List UInt8, Lib.compareBytes a b = - Lib.compareBytes b a
  | [], [] => by simp [Lib.compareBytes]
  | [], _ :: _ => by simp [Lib.compareBytes]
  | _ :: _, [] => by simp [Lib.compareBytes]
  | x :: a, y :: b => by
    unfold Lib.compareBytes
    have ih := cb_swap a b
    simp only [UInt8.lt_iff_toNat_lt]
    by_cases h1 : x.toNat < y.toNat
    · simp [h1]
      omega
    · by_cases h2 : y.toNat < x.toNat
      · simp [h1, h2]
      · simp [h1, h2, ih]
/-- Not behind, and not behind: not behind. -/
theorem cb_trans : ∀ a b c : List UInt8, Lib.compareBytes a b ≤ 0 → Lib.compareBytes b c ≤ 0 → Lib.compareBytes a c ≤ 0
  | [], _, [] => by simp [Lib.compareBytes]
  | [], _, _ :: _ => by simp [Lib.compareBytes]
  | _ :: _, [], _ => by simp [Lib.compareBytes]
  | _ :: _, _ :: _, [] => by simp [Lib.compareBytes]
  | x :: a, y :: b, z :: c => by
    unfold Lib.compareBytes
    have ih := cb_trans a b c
    simp only [UInt8.lt_iff_toNat_lt]
    by_cases h1 : x.toNat < y.toNat
    · by_cases h2 : y.toNat < z.toNat
      · have h3 : x.toNat < z.toNat := by omega
        simp [h1, h2, h3]
      · by_cases h4 : z.toNat < y.toNat
        · simp [h1, h2, h4]
        · have h3 : x.toNat < z.toNat := by omega
          simp [h1, h2, h3, h4]
    · by_cases h1' : y.toNat < x.toNat
      · simp [h1, h1']
      · by_cases h2 : y.toNat < z.toNat
        · have h3 : x.toNat < z.toNat := by omega
          simp [h1, h1', h2, h3]
        · by_cases h4 : z.toNat < y.toNat
          · simp [h1, h1', h2, h4]
          · have h3 : ¬ x.toNat < z.toNat := by omega
            have h5 : ¬ z.toNat < x.toNat := by omega
            simp only [h1, h1', h2, h3, h4, h5, if_false]
            exact ih
theorem cmp_order (a b c : List UInt8) : (cmp a b = -1 ∨ cmp a b = 0 ∨ cmp a b = 1) ∧ cmp a b = - cmp b a ∧ (cmp a b ≤ 0 → cmp b c ≤ 0 → cmp a c ≤ 0) ∧ (cmp a b < 0 → cmp b c ≤ 0 → cmp a c ≠ 0) ∧ cmp (fold a) b = cmp a b := by
  refine ⟨cb_range _ _, cb_swap _ _, cb_trans _ _ _, ?_, by unfold cmp; rw [fold_fold]⟩
  intro h1 h2 h3
  have e : fold a = fold c := (cb_zero _ _).1 h3
  unfold cmp at h1 h2
  have h4 := cb_swap (fold a) (fold b)
  rw [← e] at h2
  omega
end Go.Proofs.Ytmjhofgcfolelaa
