/-
  Plain facts on labels' texts: what a text's octets tell, that what was told is read, that comparing folded octets is an order. No condition. Nothing of any program is named here. Plain facts on names: labels put one behind the other and cut again, texts of names read back, canonical order, who is under whom. No condition. Nothing of any program is named here.
-/
import Derived.Lib.Bytealg
namespace Go.Proofs.YthlabpbplikjbaaDoor

/-! ### Octets and texts -/
def vis (c : UInt8) : Bool := decide (33 ≤ c.toNat ∧ c.toNat ≤ 126)
/-- The text of an octet by its number. -/
def esc3 (c : UInt8) : List UInt8 := [92, 48 + c / 100, 48 + c / 10 % 10, 48 + c % 10]
/-- The text of an octet. -/
def esc1 (c : UInt8) : List UInt8 := if vis c = true then (if c.toNat = 46 ∨ c.toNat = 92 then [92, c] else [c]) else esc3 c

def tx (l : List UInt8) : List UInt8 := l.flatMap esc1
/-- What Check answers. -/
def chk (l : List UInt8) : Nat := if l.length = 0 then 2 else if 63 < l.length then 3 else 0

/-! ### How many octets tell one -/
/-! ### What was told is read -/
theorem forall_u8 {p : UInt8 → Prop} (h : ∀ n, n < 256 → p (UInt8.ofNat n)) (c : UInt8) : p c := by
  have := h c.toNat c.toNat_lt
  simpa using this

/-- Behind a text there is nothing, or a dot. -/
def Stop (r : List UInt8) : Prop := r = [] ∨ ∃ c t, r = c :: t ∧ c.toNat = 46

/-! ### Folding and the order -/
def fd (c : UInt8) : UInt8 := if 65 ≤ c.toNat ∧ c.toNat ≤ 90 then c + 32 else c
def fold (l : List UInt8) : List UInt8 := l.map fd
theorem fd_all : ∀ n, n < 256 → fd (fd (UInt8.ofNat n)) = fd (UInt8.ofNat n) := by decide +kernel
theorem fd_fd (c : UInt8) : fd (fd c) = fd c := forall_u8 (p := fun c => fd (fd c) = fd c) fd_all c
theorem fold_fold (l : List UInt8) : fold (fold l) = fold l := by simp [fold, fd_fd]
theorem fold_length (l : List UInt8) : (fold l).length = l.length := by simp [fold]

end Go.Proofs.YthlabpbplikjbaaDoor
namespace Go.Proofs.YthlabpbplikjbaaDoor

/-! ### Labels, one behind the other -/
def cutL : List UInt8 → Option (List UInt8 × List UInt8)
  | [] => none
  | c :: r => if 1 ≤ c.toNat ∧ c.toNat ≤ 63 ∧ c.toNat ≤ r.length then some (r.take c.toNat, r.drop c.toNat) else none
def labsF : Nat → List UInt8 → List (List UInt8)
  | 0, _ => []
  | f + 1, l => match cutL l with
    | none => []
    | some x => x.1 :: labsF f x.2
/-- The labels that octets begin with. -/
def labs (l : List UInt8) : List (List UInt8) := labsF l.length l
def enc1 (x : List UInt8) : List UInt8 := UInt8.ofNat x.length :: x
def enc (L : List (List UInt8)) : List UInt8 := L.flatMap enc1
def ok1 (x : List UInt8) : Prop := 1 ≤ x.length ∧ x.length ≤ 63
def okN (L : List (List UInt8)) : Prop := ∀ x ∈ L, ok1 x

theorem ok1_chk {x : List UInt8} : ok1 x ↔ chk x = 0 := by
  unfold ok1 chk
  constructor
  · intro h
    rw [if_neg (by omega), if_neg (by omega)]
  · intro h
    split at h
    · cases h
    · split at h
      · cases h
      · omega
theorem okN_nil : okN [] := fun x h => by cases h
theorem okN_cons {x : List UInt8} {L : List (List UInt8)} : okN (x :: L) ↔ ok1 x ∧ okN L :=
  ⟨fun h => ⟨h x (List.mem_cons_self ..), fun y hy => h y (List.mem_cons_of_mem _ hy)⟩, fun h y hy => by
    rcases List.mem_cons.1 hy with rfl | hy
    · exact h.1
    · exact h.2 y hy⟩
theorem okN_append {A C : List (List UInt8)} : okN (A ++ C) ↔ okN A ∧ okN C :=
  ⟨fun h => ⟨fun x hx => h x (List.mem_append_left _ hx), fun x hx => h x (List.mem_append_right _ hx)⟩, fun h x hx => (List.mem_append.1 hx).elim (h.1 x) (h.2 x)⟩
theorem enc1_length (x : List UInt8) : (enc1 x).length = x.length + 1 := rfl
theorem enc_cons (x : List UInt8) (L : List (List UInt8)) : enc (x :: L) = enc1 x ++ enc L := rfl
theorem enc_append (A C : List (List UInt8)) : enc (A ++ C) = enc A ++ enc C := by simp [enc]
theorem enc_one (x : List UInt8) : enc [x] = enc1 x := by simp [enc]
theorem enc_snoc (A : List (List UInt8)) (x : List UInt8) : enc (A ++ [x]) = enc A ++ enc1 x := by rw [enc_append, enc_one]

theorem cutL_cons (c : UInt8) (r : List UInt8) : cutL (c :: r) = if 1 ≤ c.toNat ∧ c.toNat ≤ 63 ∧ c.toNat ≤ r.length then some (r.take c.toNat, r.drop c.toNat) else none := rfl
theorem labsF_succ (f : Nat) (l : List UInt8) : labsF (f + 1) l = match cutL l with | none => [] | some x => x.1 :: labsF f x.2 := rfl
theorem cutL_some {l x r : List UInt8} (h : cutL l = some (x, r)) : l = enc1 x ++ r ∧ ok1 x := by
  rcases l with _ | ⟨c, t⟩
  · cases h
  · rw [cutL_cons] at h
    split at h
    · rename_i hc
      simp only [Option.some.injEq, Prod.mk.injEq] at h
      obtain ⟨rfl, rfl⟩ := h
      have hl : (t.take c.toNat).length = c.toNat := by rw [List.length_take]; omega
      refine ⟨?_, by unfold ok1; omega⟩
      unfold enc1
      rw [hl, List.cons_append, List.take_append_drop]
      simp
    · cases h
theorem cutL_len {l x r : List UInt8} (h : cutL l = some (x, r)) : r.length < l.length ∧ l.length = x.length + 1 + r.length := by
  obtain ⟨rfl, _⟩ := cutL_some h
  rw [List.length_append, enc1_length]
  omega
theorem cutL_enc {x : List UInt8} (hx : ok1 x) (r : List UInt8) : cutL (enc1 x ++ r) = some (x, r) := by
  unfold ok1 at hx
  have hn : (UInt8.ofNat x.length).toNat = x.length := UInt8.toNat_ofNat_of_lt' (by show _ < 256; omega)
  unfold enc1
  rw [List.cons_append, cutL_cons, hn, if_pos ⟨hx.1, hx.2, by rw [List.length_append]; omega⟩, List.take_left' rfl, List.drop_left' rfl]

theorem labsF_more : ∀ (f g : Nat) (l : List UInt8), l.length ≤ f → l.length ≤ g → labsF f l = labsF g l
  | 0, 0, _, _, _ => rfl
  | 0, g + 1, l, h, _ => by
    obtain rfl : l = [] := List.eq_nil_of_length_eq_zero (by omega)
    rfl
  | f + 1, 0, l, _, h => by
    obtain rfl : l = [] := List.eq_nil_of_length_eq_zero (by omega)
    rfl
  | f + 1, g + 1, l, hf, hg => by
    rw [labsF_succ, labsF_succ]
    rcases h : cutL l with _ | ⟨x, r⟩
    · rfl
    · have := cutL_len h
      simp only
      rw [labsF_more f g r (by omega) (by omega)]
theorem labs_none {l : List UInt8} (h : cutL l = none) : labs l = [] := by
  unfold labs
  rcases hl : l.length with _ | n
  · rfl
  · rw [labsF_succ, h]
theorem labs_some {l x r : List UInt8} (h : cutL l = some (x, r)) : labs l = x :: labs r := by
  have hn := cutL_len h
  unfold labs
  rcases hl : l.length with _ | n
  · omega
  · rw [labsF_succ, h]
    simp only
    rw [labsF_more n r.length r (by omega) (Nat.le_refl _)]
theorem labs_nil : labs [] = [] := rfl
theorem labs_enc : ∀ (L : List (List UInt8)) (r : List UInt8), okN L → labs (enc L ++ r) = L ++ labs r
  | [], r, _ => by simp [enc]
  | x :: L, r, h => by
    have h' := okN_cons.1 h
    rw [enc_cons, List.append_assoc, labs_some (cutL_enc h'.1 _), labs_enc L r h'.2]
    rfl
theorem labs_enc0 {L : List (List UInt8)} (h : okN L) : labs (enc L) = L := by
  have := labs_enc L [] h
  simpa [labs_nil] using this
theorem labs_pre (n : Nat) : ∀ (l : List UInt8), l.length ≤ n → okN (labs l) ∧ ∃ r, l = enc (labs l) ++ r ∧ cutL r = none := by
  induction n with
  | zero =>
    intro l hn
    obtain rfl : l = [] := List.eq_nil_of_length_eq_zero (by omega)
    exact ⟨okN_nil, [], rfl, rfl⟩
  | succ n ih =>
    intro l hn
    rcases h : cutL l with _ | ⟨x, r⟩
    · rw [labs_none h]
      exact ⟨okN_nil, l, by simp [enc], h⟩
    · obtain ⟨e, hx⟩ := cutL_some h
      have hl := cutL_len h
      obtain ⟨i1, r', i2, i3⟩ := ih r (by omega)
      rw [labs_some h]
      refine ⟨okN_cons.2 ⟨hx, i1⟩, r', ?_, i3⟩
      rw [enc_cons, List.append_assoc, ← i2]
      exact e
theorem labs_ok (l : List UInt8) : okN (labs l) := (labs_pre _ l (Nat.le_refl _)).1

/-- What Check answers. -/
def chkN (l : List UInt8) : Nat := if 254 < l.length then 3 else if (enc (labs l)).length = l.length then 0 else 4
theorem chkN_long {l : List UInt8} (h : 254 < l.length) : chkN l = 3 := if_pos h
theorem chkN_iff {l : List UInt8} : chkN l = 0 ↔ l.length ≤ 254 ∧ enc (labs l) = l := by
  unfold chkN
  constructor
  · intro h
    split at h
    · cases h
    · split at h
      · rename_i h1 h2
        obtain ⟨_, r, hr, _⟩ := labs_pre _ l (Nat.le_refl _)
        have : r = [] := by
          have e := congrArg List.length hr
          rw [List.length_append] at e
          exact List.eq_nil_of_length_eq_zero (by omega)
        subst this
        rw [List.append_nil] at hr
        exact ⟨by omega, hr.symm⟩
      · cases h
  · rintro ⟨h1, h2⟩
    rw [if_neg (by omega), h2, if_pos rfl]
theorem chkN_enc {L : List (List UInt8)} (h : okN L) (hl : (enc L).length ≤ 254) : chkN (enc L) = 0 := chkN_iff.2 ⟨hl, by rw [labs_enc0 h]⟩
/-- What may be is its labels. -/
theorem chkN_out {l : List UInt8} (h : chkN l = 0) : ∃ L, okN L ∧ l = enc L ∧ labs l = L ∧ (enc L).length ≤ 254 := by
  obtain ⟨h1, h2⟩ := chkN_iff.1 h
  exact ⟨labs l, labs_ok l, h2.symm, rfl, by rw [h2]; exact h1⟩
theorem enc_two : ∀ {L : List (List UInt8)}, okN L → 2 * L.length ≤ (enc L).length
  | [], _ => by simp
  | x :: L, h => by
    have h' := okN_cons.1 h
    have := enc_two h'.2
    have := h'.1.1
    rw [enc_cons, List.length_append, enc1_length, List.length_cons]
    omega
/-- What Labels answers. -/
def nlabs (l : List UInt8) : List (List UInt8) := if chkN l = 0 then labs l else []
/-! ### A name of labels -/
def named (o : List UInt8) : List UInt8 × Nat := if 254 < o.length then ([], 3) else (o, 0)
/-- The first error of labels. -/
def badL : List (List UInt8) → Nat
  | [] => 0
  | x :: L => if chk x = 0 then badL L else chk x
def mkN (L : List (List UInt8)) : List UInt8 × Nat := if badL L = 0 then named (enc L) else ([], badL L)

/-! ### Texts -/
/-! ### Folding -/
theorem fd_low : ∀ n, n < 65 → fd (UInt8.ofNat n) = UInt8.ofNat n := by decide +kernel
theorem fold_append (a b : List UInt8) : fold (a ++ b) = fold a ++ fold b := by simp [fold]
theorem fold_enc1 {x : List UInt8} (h : ok1 x) : fold (enc1 x) = enc1 (fold x) := by
  unfold enc1
  rw [fold_length]
  unfold fold
  rw [List.map_cons, fd_low _ (by have := h.2; omega)]
theorem fold_enc : ∀ {L : List (List UInt8)}, okN L → fold (enc L) = enc (L.map fold)
  | [], _ => rfl
  | x :: L, h => by
    obtain ⟨hx, hL⟩ := okN_cons.1 h
    rw [enc_cons, fold_append, fold_enc1 hx, fold_enc hL, List.map_cons, enc_cons]
theorem ok1_fold {x : List UInt8} (h : ok1 x) : ok1 (fold x) := by unfold ok1 at h ⊢; rw [fold_length]; exact h
theorem okN_fold {L : List (List UInt8)} (h : okN L) : okN (L.map fold) := fun y hy => by
  obtain ⟨x, hx, rfl⟩ := List.mem_map.1 hy
  exact ok1_fold (h x hx)
theorem enc_fold_len : ∀ (L : List (List UInt8)), (enc (L.map fold)).length = (enc L).length
  | [] => rfl
  | x :: L => by
    rw [List.map_cons, enc_cons, enc_cons, List.length_append, List.length_append, enc1_length, enc1_length, fold_length, enc_fold_len L]
/-- What Fold answers. -/
def foldN (l : List UInt8) : List UInt8 := if chkN l = 0 then fold l else []
theorem foldN_facts {l : List UInt8} (h : chkN l = 0) : foldN l = enc ((labs l).map fold) ∧ chkN (fold l) = 0 ∧ labs (fold l) = (labs l).map fold := by
  obtain ⟨L, h1, h2, h3, h4⟩ := chkN_out h
  have e : fold l = enc (L.map fold) := by rw [h2, fold_enc h1]
  refine ⟨?_, ?_, ?_⟩
  · unfold foldN
    rw [if_pos h, h3, e]
  · rw [e]
    exact chkN_enc (okN_fold h1) (by rw [enc_fold_len]; exact h4)
  · rw [e, labs_enc0 (okN_fold h1), h3]

/-! ### Canonical order -/
/-- A name's folded labels from the root's side on. -/
def rows (l : List UInt8) : List (List UInt8) := ((nlabs l).map fold).reverse
/-! ### Parents, joins, wildcards -/
end Go.Proofs.YthlabpbplikjbaaDoor
