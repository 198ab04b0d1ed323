/-
  Plain facts on names: labels put one behind the other and cut again, texts of names read back, canonical order, who is under whom. No condition. Nothing of any program is named here.
-/
import Derived.Test.YtmjhofgcfolelaaLabMath
namespace Go.Proofs.Ytmjhofgcfolelaa

/-! ### Labels, one behind the other -/
def cutL : List UInt8 → Option (List UInt8 × List UInt8)
  | [] => none
  | c :: r => if 1 ≤ c.toNat ∧ c.toNat ≤ 63 ∧ c.toNat ≤ r.length then some (r.take c.toNat, r.drop c.toNat) else none
def labsF : Nat → List UInt8 → List (List UInt8)
  | 0, _ => []
  | f + 1, l => match cutL l with
    | none => []
    | some x => x.1 :: labsF f x.2
/-- The labels that octets begin with. -/
def labs (l : List UInt8) : List (List UInt8) := labsF l.length l
def enc1 (x : List UInt8) : List UInt8 := UInt8.ofNat x.length :: x
def enc (L : List (List UInt8)) : List UInt8 := L.flatMap enc1
def ok1 (x : List UInt8) : Prop := 1 ≤ x.length ∧ x.length ≤ 63
def okN (L : List (List UInt8)) : Prop := ∀ x ∈ L, ok1 x

theorem ok1_chk {x : List UInt8} : ok1 x ↔ chk x = 0 := by
  unfold ok1 chk
  constructor
  · intro h
    rw [if_neg (by omega), if_neg (by omega)]
  · intro h
    split at h
    · cases h
    · split at h
      · cases h
      · omega
theorem okN_nil : okN [] := fun x h => by cases h
theorem okN_cons {x : List UInt8} {L : List (List UInt8)} : okN (x :: L) ↔ ok1 x ∧ okN L :=
  ⟨fun h => ⟨h x (List.mem_cons_self ..), fun y hy => h y (List.mem_cons_of_mem _ hy)⟩, fun h y hy => by
    rcases List.mem_cons.1 hy with rfl | hy
    · exact h.1
    · exact h.2 y hy⟩
theorem okN_append {A C : List (List UInt8)} : okN (A ++ C) ↔ okN A ∧ okN C :=
  ⟨fun h => ⟨fun x hx => h x (List.mem_append_left _ hx), fun x hx => h x (List.mem_append_right _ hx)⟩, fun h x hx => (List.mem_append.1 hx).elim (h.1 x) (h.2 x)⟩
theorem enc1_length (x : List UInt8) : (enc1 x).length = x.length + 1 := rfl
theorem enc_nil : enc [] = [] := rfl
theorem enc_cons (x : List UInt8) (L : List (List UInt8)) : enc (x :: L) = enc1 x ++ enc L := rfl
theorem enc_append (A C : List (List UInt8)) : enc (A ++ C) = enc A ++ enc C := by simp [enc]
theorem enc_one (x : List UInt8) : enc [x] = enc1 x := by simp [enc]
theorem enc_snoc (A : List (List UInt8)) (x : List UInt8) : enc (A ++ [x]) = enc A ++ enc1 x := by rw [enc_append, enc_one]

theorem cutL_cons (c : UInt8) (r : List UInt8) : cutL (c :: r) = if 1 ≤ c.toNat ∧ c.toNat ≤ 63 ∧ c.toNat ≤ r.length then some (r.take c.toNat, r.drop c.toNat) else none := rfl
theorem labsF_succ (f : Nat) (l : List UInt8) : labsF (f + 1) l = match cutL l with | none => [] | some x => x.1 :: labsF f x.2 := rfl
theorem cutL_some {l x r : List UInt8} (h : cutL l = some (x, r)) : l = enc1 x ++ r ∧ ok1 x := by
  rcases l with _ | ⟨c, t⟩
  · cases h
  · rw [cutL_cons] at h
    split at h
    · rename_i hc
      simp only [Option.some.injEq, Prod.mk.injEq] at h
      obtain ⟨rfl, rfl⟩ := h
      have hl : (t.take c.toNat).length = c.toNat := by rw [List.length_take]; omega
      refine ⟨?_, by unfold ok1; omega⟩
      unfold enc1
      rw [hl, List.cons_append, List.take_append_drop]
      simp
    · cases h
theorem cutL_len {l x r : List UInt8} (h : cutL l = some (x, r)) : r.length < l.length ∧ l.length = x.length + 1 + r.length := by
  obtain ⟨rfl, _⟩ := cutL_some h
  rw [List.length_append, enc1_length]
  omega
theorem cutL_enc {x : List UInt8} (hx : ok1 x) (r : List UInt8) : cutL (enc1 x ++ r) = some (x, r) := by
  unfold ok1 at hx
  have hn : (UInt8.ofNat x.length).toNat = x.length := UInt8.toNat_ofNat_of_lt' (by show _ < 256; omega)
  unfold enc1
  rw [List.cons_append, cutL_cons, hn, if_pos ⟨hx.1, hx.2, by rw [List.length_append]; omega⟩, List.take_left' rfl, List.drop_left' rfl]

theorem labsF_more : ∀ (f g : Nat) (l : List UInt8), l.length ≤ f → l.length ≤ g → labsF f l = labsF g l
  | 0, 0, _, _, _ => rfl
  | 0, g + 1, l, h, _ => by
    obtain rfl : l = [] := List.eq_nil_of_length_eq_zero (by omega)
    rfl
  | f + 1, 0, l, _, h => by
    obtain rfl : l = [] := List.eq_nil_of_length_eq_zero (by omega)
    rfl
  | f + 1, g + 1, l, hf, hg => by
    rw [labsF_succ, labsF_succ]
    rcases h : cutL l with _ | ⟨x, r⟩
    · rfl
    · have := cutL_len h
      simp only
      rw [labsF_more f g r (by omega) (by omega)]
theorem labs_none {l : List UInt8} (h : cutL l = none) : labs l = [] := by
  unfold labs
  rcases hl : l.length with _ | n
  · rfl
  · rw [labsF_succ, h]
theorem labs_some {l x r : List UInt8} (h : cutL l = some (x, r)) : labs l = x :: labs r := by
  have hn := cutL_len h
  unfold labs
  rcases hl : l.length with _ | n
  · omega
  · rw [labsF_succ, h]
    simp only
    rw [labsF_more n r.length r (by omega) (Nat.le_refl _)]
theorem labs_nil : labs [] = [] := rfl
theorem labs_enc : ∀ (L : List (List UInt8)) (r : List UInt8), okN L → labs (enc L ++ r) = L ++ labs r
  | [], r, _ => by simp [enc]
  | x :: L, r, h => by
    have h' := okN_cons.1 h
    rw [enc_cons, List.append_assoc, labs_some (cutL_enc h'.1 _), labs_enc L r h'.2]
    rfl
theorem labs_enc0 {L : List (List UInt8)} (h : okN L) : labs (enc L) = L := by
  have := labs_enc L [] h
  simpa [labs_nil] using this
theorem labs_pre (n : Nat) : ∀ (l : List UInt8), l.length ≤ n → okN (labs l) ∧ ∃ r, l = enc (labs l) ++ r ∧ cutL r = none := by
  induction n with
  | zero =>
    intro l hn
    obtain rfl : l = [] := List.eq_nil_of_length_eq_zero (by omega)
    exact ⟨okN_nil, [], rfl, rfl⟩
  | succ n ih =>
    intro l hn
    rcases h : cutL l with _ | ⟨x, r⟩
    · rw [labs_none h]
      exact ⟨okN_nil, l, by simp [enc], h⟩
    · obtain ⟨e, hx⟩ := cutL_some h
      have hl := cutL_len h
      obtain ⟨i1, r', i2, i3⟩ := ih r (by omega)
      rw [labs_some h]
      refine ⟨okN_cons.2 ⟨hx, i1⟩, r', ?_, i3⟩
      rw [enc_cons, List.append_assoc, ← i2]
      exact e
theorem labs_ok (l : List UInt8) : okN (labs l) := (labs_pre _ l (Nat.le_refl _)).1

/-- What Check answers. -/
def chkN (l : List UInt8) : Nat := if 254 < l.length then 3 else if (enc (labs l)).length = l.length then 0 else 4
theorem chkN_long {l : List UInt8} (h : 254 < l.length) : chkN l = 3 := if_pos h
theorem chkN_iff {l : List UInt8} : chkN l = 0 ↔ l.length ≤ 254 ∧ enc (labs l) = l := by
  unfold chkN
  constructor
  · intro h
    split at h
    · cases h
    · split at h
      · rename_i h1 h2
        obtain ⟨_, r, hr, _⟩ := labs_pre _ l (Nat.le_refl _)
        have : r = [] := by
          have e := congrArg List.length hr
          rw [List.length_append] at e
          exact List.eq_nil_of_length_eq_zero (by omega)
        subst this
        rw [List.append_nil] at hr
        exact ⟨by omega, hr.symm⟩
      · cases h
  · rintro ⟨h1, h2⟩
    rw [if_neg (by omega), h2, if_pos rfl]
theorem chkN_enc {L : List (List UInt8)} (h : okN L) (hl : (enc L).length ≤ 254) : chkN (enc L) = 0 := chkN_iff.2 ⟨hl, by rw [labs_enc0 h]⟩
/-- What may be is its labels. -/
theorem chkN_out {l : List UInt8} (h : chkN l = 0) : ∃ L, okN L ∧ l = enc L ∧ labs l = L ∧ (enc L).length ≤ 254 := by
  obtain ⟨h1, h2⟩ := chkN_iff.1 h
  exact ⟨labs l, labs_ok l, h2.symm, rfl, by rw [h2]; exact h1⟩
theorem chkN_nil : chkN [] = 0 := by decide
theorem chkN_cases (l : List UInt8) : chkN l = 0 ∨ chkN l = 3 ∨ chkN l = 4 := by
  unfold chkN
  split
  · simp
  · split <;> simp
theorem enc_two : ∀ {L : List (List UInt8)}, okN L → 2 * L.length ≤ (enc L).length
  | [], _ => by simp
  | x :: L, h => by
    have h' := okN_cons.1 h
    have := enc_two h'.2
    have := h'.1.1
    rw [enc_cons, List.length_append, enc1_length, List.length_cons]
    omega
theorem enc_inj {A C : List (List UInt8)} (hA : okN A) (hC : okN C) (h : enc A = enc C) : A = C := by
  rw [← labs_enc0 hA, h, labs_enc0 hC]

/-- What Labels answers. -/
def nlabs (l : List UInt8) : List (List UInt8) := if chkN l = 0 then labs l else []
theorem nlabs_yes {l : List UInt8} (h : chkN l = 0) : nlabs l = labs l := if_pos h
theorem nlabs_no {l : List UInt8} (h : chkN l ≠ 0) : nlabs l = [] := if_neg h
theorem nlabs_ok (l : List UInt8) : okN (nlabs l) := by
  unfold nlabs
  split
  · exact labs_ok l
  · exact okN_nil
theorem nlabs_len (l : List UInt8) : (nlabs l).length ≤ 127 := by
  unfold nlabs
  split
  · rename_i h
    obtain ⟨L, h1, h2, h3, h4⟩ := chkN_out h
    rw [h3]
    have := enc_two h1
    omega
  · simp

/-! ### A name of labels -/
def named (o : List UInt8) : List UInt8 × Nat := if 254 < o.length then ([], 3) else (o, 0)
/-- The first error of labels. -/
def badL : List (List UInt8) → Nat
  | [] => 0
  | x :: L => if chk x = 0 then badL L else chk x
theorem badL_ok : ∀ {L : List (List UInt8)}, badL L = 0 ↔ okN L
  | [] => ⟨fun _ => okN_nil, fun _ => rfl⟩
  | x :: L => by
    unfold badL
    rw [okN_cons, ok1_chk]
    split
    · rename_i h
      rw [badL_ok]
      simp [h]
    · rename_i h
      simp [h]
def mkN (L : List (List UInt8)) : List UInt8 × Nat := if badL L = 0 then named (enc L) else ([], badL L)

/-! ### Texts -/
def tN (L : List (List UInt8)) : List UInt8 := L.flatMap fun x => tx x ++ [46]
/-- What Text answers. -/
def txN (l : List UInt8) : List UInt8 := if chkN l = 0 then (if l.length = 0 then [46] else tN (labs l)) else []
theorem tN_cons (x : List UInt8) (L : List (List UInt8)) : tN (x :: L) = tx x ++ 46 :: tN L := by simp [tN]
theorem tN_snoc (L : List (List UInt8)) (x : List UInt8) : tN (L ++ [x]) = tN L ++ (tx x ++ [46]) := by simp [tN]
theorem tN_len : ∀ (L : List (List UInt8)), (tN L).length ≤ 4 * (enc L).length
  | [] => by simp [tN]
  | x :: L => by
    have h1 := tN_len L
    have h2 := tx_len x
    rw [tN_cons, enc_cons, List.length_append, List.length_cons, List.length_append, enc1_length]
    omega

/-- The labels that a text tells from its place k on, 'L' told so far, and the first error. -/
def rdLs : Nat → List UInt8 → Nat → List (List UInt8) → List (List UInt8) × Nat
  | 0, _, _, L => (L, 0)
  | f + 1, s, k, L => if s.length ≤ k then (L, 0) else if (rd s k).2.2 = 0 then rdLs f s ((rd s k).2.1 + 1) (L ++ [(rd s k).1]) else ([], (rd s k).2.2)
theorem rdLs_end {f : Nat} {s : List UInt8} {k : Nat} {L : List (List UInt8)} (h : s.length ≤ k) : rdLs f s k L = (L, 0) := by
  cases f with
  | zero => rfl
  | succ f => unfold rdLs; rw [if_pos h]
theorem rdLs_step {f : Nat} {s : List UInt8} {k : Nat} {L : List (List UInt8)} {x : List UInt8} {n : Nat} (h : k < s.length) (hr : rd s k = (x, n, 0)) : rdLs (f + 1) s k L = rdLs f s (n + 1) (L ++ [x]) := by
  show (if s.length ≤ k then _ else _) = _
  rw [if_neg (by omega), hr]
  rfl
theorem rdLs_bad {f : Nat} {s : List UInt8} {k : Nat} {L : List (List UInt8)} {x : List UInt8} {n e : Nat} (h : k < s.length) (hr : rd s k = (x, n, e)) (he : e ≠ 0) : rdLs (f + 1) s k L = ([], e) := by
  show (if s.length ≤ k then _ else _) = _
  rw [if_neg (by omega), hr]
  exact if_neg he
/-- What Read answers. -/
def rdN (s : List UInt8) : List UInt8 × Nat :=
  if s = [] then ([], 2) else if s = [46] then ([], 0) else if (rdLs s.length s 0 []).2 = 0 then named (enc (rdLs s.length s 0 []).1) else ([], (rdLs s.length s 0 []).2)

theorem rdF_out : ∀ (f : Nat) (l out : List UInt8) (k : Nat) {x : List UInt8} {n : Nat}, rdF f l out k = (x, n, 0) → k ≤ n ∧ n ≤ k + l.length ∧ x.length ≤ out.length + f ∧ out.length ≤ x.length ∧ 1 ≤ x.length ∧ (k = n → x = out)
  | f, [], out, k, x, n, h => by
    rw [rdF_nil] at h
    unfold fin at h
    split at h
    · cases h
    · simp only [Prod.mk.injEq, and_true] at h
      obtain ⟨rfl, rfl⟩ := h
      simp
      omega
  | 0, c :: r, out, k, x, n, h => by
    by_cases h46 : c.toNat = 46
    · rw [rdF_dot _ _ _ _ _ h46] at h
      unfold fin at h
      split at h
      · cases h
      · simp only [Prod.mk.injEq, and_true] at h
        obtain ⟨rfl, rfl⟩ := h
        simp
        omega
    · rcases ho : oct (c :: r) with _ | y
      · rw [rdF_bad _ _ _ _ _ h46 ho] at h
        cases h
      · rw [rdF_long _ _ _ _ y h46 ho] at h
        cases h
  | f + 1, c :: r, out, k, x, n, h => by
    by_cases h46 : c.toNat = 46
    · rw [rdF_dot _ _ _ _ _ h46] at h
      unfold fin at h
      split at h
      · cases h
      · simp only [Prod.mk.injEq, and_true] at h
        obtain ⟨rfl, rfl⟩ := h
        simp
        omega
    · rcases ho : oct (c :: r) with _ | ⟨o, m⟩
      · rw [rdF_bad _ _ _ _ _ h46 ho] at h
        cases h
      · rw [rdF_step _ _ _ _ _ o m h46 ho] at h
        have hm := oct_len ho
        have ih := rdF_out f _ _ _ h
        rw [List.length_drop, List.length_append, List.length_singleton] at ih
        refine ⟨by omega, by omega, by omega, by omega, by omega, ?_⟩
        intro e
        omega
theorem rd_out {s : List UInt8} {k : Nat} {x : List UInt8} {n : Nat} (hk : k ≤ s.length) (h : rd s k = (x, n, 0)) : k < n ∧ n ≤ s.length ∧ ok1 x := by
  have := rdF_out 63 _ _ _ h
  rw [List.length_drop, List.length_nil] at this
  obtain ⟨h1, h2, h3, h4, h5, h6⟩ := this
  refine ⟨?_, by omega, by omega, by omega⟩
  rcases Nat.lt_or_ge k n with hlt | hge
  · exact hlt
  · have := h6 (by omega)
    subst this
    simp at h5
theorem rdLs_ok : ∀ (f : Nat) (s : List UInt8) (k : Nat) (L : List (List UInt8)), okN L → okN (rdLs f s k L).1
  | 0, _, _, _, h => h
  | f + 1, s, k, L, h => by
    rcases Nat.lt_or_ge k s.length with hlt | hge
    · rcases hr : rd s k with ⟨x, n, e⟩
      by_cases he : e = 0
      · subst he
        rw [rdLs_step hlt hr]
        exact rdLs_ok f s _ _ (okN_append.2 ⟨h, okN_cons.2 ⟨(rd_out (by omega) hr).2.2, okN_nil⟩⟩)
      · rw [rdLs_bad hlt hr he]
        exact okN_nil
    · rw [rdLs_end hge]
      exact h

/-- A text of labels is read back. -/
theorem rdLs_tN : ∀ (L M : List (List UInt8)) (a : List UInt8) (f : Nat), okN L → L.length ≤ f → rdLs f (a ++ tN L) a.length M = (M ++ L, 0)
  | [], M, a, f, _, _ => by
    rw [rdLs_end (by simp [tN])]
    simp
  | x :: L, M, a, 0, _, hf => by simp at hf
  | x :: L, M, a, f + 1, h, hf => by
    obtain ⟨hx, hL⟩ := okN_cons.1 h
    have e : a ++ tN (x :: L) = a ++ (tx x ++ 46 :: tN L) := by rw [tN_cons]
    have hr := rd_text_at a x (46 :: tN L) (.inr ⟨46, _, rfl, rfl⟩) hx.1 hx.2
    rw [e, rdLs_step (by rw [List.length_append, List.length_append, List.length_cons]; omega) hr]
    have ih := rdLs_tN L (M ++ [x]) (a ++ (tx x ++ [46])) f hL (by simpa using hf)
    have e2 : a ++ (tx x ++ [46]) ++ tN L = a ++ (tx x ++ 46 :: tN L) := by simp
    have e3 : (a ++ (tx x ++ [46])).length = a.length + (tx x).length + 1 := by simp; omega
    rw [e2, e3] at ih
    rw [ih]
    simp
/-- Without the dot at the end. -/
theorem rdLs_tN' : ∀ (L M : List (List UInt8)) (x a : List UInt8) (f : Nat), okN (x :: L) → L.length + 1 ≤ f → rdLs f (a ++ (tN (x :: L)).dropLast) a.length M = (M ++ x :: L, 0)
  | L, M, x, a, 0, _, hf => by omega
  | [], M, x, a, f + 1, h, hf => by
    obtain ⟨hx, _⟩ := okN_cons.1 h
    have e : (tN [x]).dropLast = tx x := by rw [tN_cons]; simp [tN]
    have hr := rd_text_at a x [] (.inl rfl) hx.1 hx.2
    rw [List.append_nil] at hr
    have hpos : 0 < (tx x).length := by
      have h1 := rd_out (by simp) hr
      omega
    rw [e, rdLs_step (by rw [List.length_append]; omega) hr, rdLs_end (by rw [List.length_append]; omega)]
  | y :: L, M, x, a, f + 1, h, hf => by
    obtain ⟨hx, hL⟩ := okN_cons.1 h
    have hne : tN (y :: L) ≠ [] := by rw [tN_cons]; simp
    have e : a ++ (tN (x :: y :: L)).dropLast = a ++ (tx x ++ 46 :: (tN (y :: L)).dropLast) := by
      rw [tN_cons x, List.dropLast_append_of_ne_nil (by simp), List.dropLast_cons_of_ne_nil hne]
    have hr := rd_text_at a x (46 :: (tN (y :: L)).dropLast) (.inr ⟨46, _, rfl, rfl⟩) hx.1 hx.2
    rw [e, rdLs_step (by rw [List.length_append, List.length_append, List.length_cons]; omega) hr]
    have ih := rdLs_tN' L (M ++ [x]) y (a ++ (tx x ++ [46])) f hL (by simp at hf; omega)
    have e2 : a ++ (tx x ++ [46]) ++ (tN (y :: L)).dropLast = a ++ (tx x ++ 46 :: (tN (y :: L)).dropLast) := by simp
    have e3 : (a ++ (tx x ++ [46])).length = a.length + (tx x).length + 1 := by simp; omega
    rw [e2, e3] at ih
    rw [ih]
    simp

/-! ### Folding -/
theorem fd_low : ∀ n, n < 65 → fd (UInt8.ofNat n) = UInt8.ofNat n := by decide +kernel
theorem fold_append (a b : List UInt8) : fold (a ++ b) = fold a ++ fold b := by simp [fold]
theorem fold_enc1 {x : List UInt8} (h : ok1 x) : fold (enc1 x) = enc1 (fold x) := by
  unfold enc1
  rw [fold_length]
  unfold fold
  rw [List.map_cons, fd_low _ (by have := h.2; omega)]
theorem fold_enc : ∀ {L : List (List UInt8)}, okN L → fold (enc L) = enc (L.map fold)
  | [], _ => rfl
  | x :: L, h => by
    obtain ⟨hx, hL⟩ := okN_cons.1 h
    rw [enc_cons, fold_append, fold_enc1 hx, fold_enc hL, List.map_cons, enc_cons]
theorem ok1_fold {x : List UInt8} (h : ok1 x) : ok1 (fold x) := by unfold ok1 at h ⊢; rw [fold_length]; exact h
theorem okN_fold {L : List (List UInt8)} (h : okN L) : okN (L.map fold) := fun y hy => by
  obtain ⟨x, hx, rfl⟩ := List.mem_map.1 hy
  exact ok1_fold (h x hx)
theorem enc_fold_len : ∀ (L : List (List UInt8)), (enc (L.map fold)).length = (enc L).length
  | [] => rfl
  | x :: L => by
    rw [List.map_cons, enc_cons, enc_cons, List.length_append, List.length_append, enc1_length, enc1_length, fold_length, enc_fold_len L]
/-- What Fold answers. -/
def foldN (l : List UInt8) : List UInt8 := if chkN l = 0 then fold l else []
theorem foldN_facts {l : List UInt8} (h : chkN l = 0) : foldN l = enc ((labs l).map fold) ∧ chkN (fold l) = 0 ∧ labs (fold l) = (labs l).map fold := by
  obtain ⟨L, h1, h2, h3, h4⟩ := chkN_out h
  have e : fold l = enc (L.map fold) := by rw [h2, fold_enc h1]
  refine ⟨?_, ?_, ?_⟩
  · unfold foldN
    rw [if_pos h, h3, e]
  · rw [e]
    exact chkN_enc (okN_fold h1) (by rw [enc_fold_len]; exact h4)
  · rw [e, labs_enc0 (okN_fold h1), h3]

/-! ### Canonical order -/
/-- Rows of labels, the first that is unlike counts. -/
def cmpR : List (List UInt8) → List (List UInt8) → Int
  | [], [] => 0
  | [], _ :: _ => -1
  | _ :: _, [] => 1
  | x :: X, y :: Y => if Lib.compareBytes x y = 0 then cmpR X Y else Lib.compareBytes x y
/-- A name's folded labels from the root's side on. -/
def rows (l : List UInt8) : List (List UInt8) := ((nlabs l).map fold).reverse
def cmpN (a b : List UInt8) : Int := cmpR (rows a) (rows b)
/-- What the walk of rows as they are meets. -/
def cmpW : List (List UInt8) → List (List UInt8) → Int
  | [], [] => 0
  | [], _ :: _ => -1
  | _ :: _, [] => 1
  | x :: X, y :: Y => if cmp x y = 0 then cmpW X Y else cmp x y
theorem cmpW_R : ∀ (X Y : List (List UInt8)), cmpW X Y = cmpR (X.map fold) (Y.map fold)
  | [], [] => rfl
  | [], _ :: _ => rfl
  | _ :: _, [] => rfl
  | x :: X, y :: Y => by
    unfold cmpW
    rw [cmpW_R X Y]
    rfl
theorem cmpR_range : ∀ X Y : List (List UInt8), cmpR X Y = -1 ∨ cmpR X Y = 0 ∨ cmpR X Y = 1
  | [], [] => by simp [cmpR]
  | [], _ :: _ => by simp [cmpR]
  | _ :: _, [] => by simp [cmpR]
  | x :: X, y :: Y => by
    unfold cmpR
    split
    · exact cmpR_range X Y
    · exact cb_range x y
theorem cmpR_zero : ∀ X Y : List (List UInt8), cmpR X Y = 0 ↔ X = Y
  | [], [] => by simp [cmpR]
  | [], _ :: _ => by simp [cmpR]
  | _ :: _, [] => by simp [cmpR]
  | x :: X, y :: Y => by
    unfold cmpR
    split
    · rename_i h
      rw [cmpR_zero X Y, (cb_zero x y).1 h]
      simp
    · rename_i h
      constructor
      · intro e
        exact absurd e h
      · intro e
        injection e with e _
        exact absurd ((cb_zero x y).2 e) h
theorem cmpR_swap : ∀ X Y : List (List UInt8), cmpR X Y = - cmpR Y X
  | [], [] => by simp [cmpR]
  | [], _ :: _ => by simp [cmpR]
  | _ :: _, [] => by simp [cmpR]
  | x :: X, y :: Y => by
    unfold cmpR
    have h := cb_swap x y
    by_cases h0 : Lib.compareBytes x y = 0
    · rw [if_pos h0, if_pos (by omega), cmpR_swap X Y]
    · rw [if_neg h0, if_neg (by omega), h]
theorem cmpR_trans : ∀ X Y Z : List (List UInt8), cmpR X Y ≤ 0 → cmpR Y Z ≤ 0 → cmpR X Z ≤ 0
  | [], _, [] => by simp [cmpR]
  | [], _, _ :: _ => by simp [cmpR]
  | _ :: _, [], _ => by simp [cmpR]
  | _ :: _, _ :: _, [] => by simp [cmpR]
  | x :: X, y :: Y, z :: Z => by
    unfold cmpR
    intro h1 h2
    have h3 := cb_trans x y z
    by_cases e1 : Lib.compareBytes x y = 0
    · have := (cb_zero x y).1 e1
      subst this
      rw [if_pos e1] at h1
      by_cases e2 : Lib.compareBytes x z = 0
      · rw [if_pos e2] at h2 ⊢
        exact cmpR_trans X Y Z h1 h2
      · rw [if_neg e2] at h2 ⊢
        exact h2
    · rw [if_neg e1] at h1
      by_cases e2 : Lib.compareBytes y z = 0
      · have := (cb_zero y z).1 e2
        subst this
        rw [if_neg e1]
        exact h1
      · rw [if_neg e2] at h2
        have h4 := h3 h1 h2
        by_cases e3 : Lib.compareBytes x z = 0
        · have := (cb_zero x z).1 e3
          subst this
          have h5 := cb_swap x y
          omega
        · rw [if_neg e3]
          exact h4
theorem cmpR_pre : ∀ X Y : List (List UInt8), X <+: Y → cmpR X Y = if X.length = Y.length then 0 else -1
  | [], [], _ => rfl
  | [], y :: Y, _ => by simp [cmpR]
  | x :: X, [], h => by simp at h
  | x :: X, y :: Y, h => by
    obtain ⟨rfl, h'⟩ := List.cons_prefix_cons.1 h
    unfold cmpR
    rw [if_pos ((cb_zero x x).2 rfl), cmpR_pre X Y h']
    simp

/-- What EqualFunc of rows as they are meets. -/
def eqW : List (List UInt8) → List (List UInt8) → Bool
  | [], [] => true
  | x :: X, y :: Y => (cmp x y == 0) && eqW X Y
  | _, _ => false
theorem eqW_iff : ∀ X Y : List (List UInt8), eqW X Y = true ↔ X.map fold = Y.map fold
  | [], [] => by simp [eqW]
  | [], _ :: _ => by simp [eqW]
  | _ :: _, [] => by simp [eqW]
  | x :: X, y :: Y => by
    unfold eqW
    rw [Bool.and_eq_true, eqW_iff X Y, beq_iff_eq]
    unfold cmp
    rw [cb_zero]
    simp
/-- What Under answers. -/
def undN (n o : List UInt8) : Bool := (chkN n == 0) && (chkN o == 0) && (rows o).isPrefixOf (rows n)
theorem undN_iff {n o : List UInt8} : undN n o = true ↔ chkN n = 0 ∧ chkN o = 0 ∧ rows o <+: rows n := by
  unfold undN
  rw [Bool.and_eq_true, Bool.and_eq_true, beq_iff_eq, beq_iff_eq, List.isPrefixOf_iff_prefix, and_assoc]
theorem rows_length (l : List UInt8) : (rows l).length = (nlabs l).length := by simp [rows]
theorem take_pre {X Y : List (List UInt8)} : (Y.length ≤ X.length ∧ X.take Y.length = Y) ↔ Y <+: X := by
  constructor
  · rintro ⟨_, h⟩
    rw [← h]
    exact List.take_prefix _ _
  · intro h
    exact ⟨h.length_le, (List.prefix_iff_eq_take.1 h).symm⟩
/-- The walk of Under: as many of the last labels as the other has, each the same. -/
theorem undN_walk {n o : List UInt8} (hn : chkN n = 0) (ho : chkN o = 0) :
    undN n o = (decide ((nlabs o).length ≤ (nlabs n).length) && eqW ((nlabs n).reverse.take (nlabs o).length) (nlabs o).reverse) := by
  rw [Bool.eq_iff_iff, undN_iff, Bool.and_eq_true, decide_eq_true_iff, eqW_iff, ← take_pre, rows_length, rows_length]
  have e1 : (rows n).take (nlabs o).length = ((nlabs n).reverse.take (nlabs o).length).map fold := by unfold rows; rw [← List.map_reverse, List.map_take]
  have e2 : rows o = (nlabs o).reverse.map fold := by unfold rows; rw [List.map_reverse]
  rw [e1, e2]
  simp [hn, ho]
/-- What Same answers. -/
def samN (a b : List UInt8) : Bool := (chkN a == 0) && (chkN b == 0) && (cmpN a b == 0)
theorem rows_inj {a b : List UInt8} (ha : chkN a = 0) (hb : chkN b = 0) : rows a = rows b ↔ fold a = fold b := by
  have fa := foldN_facts ha
  have fb := foldN_facts hb
  unfold foldN at fa fb
  rw [if_pos ha] at fa
  rw [if_pos hb] at fb
  unfold rows
  rw [nlabs_yes ha, nlabs_yes hb, List.reverse_inj]
  constructor
  · intro h
    rw [fa.1, fb.1, h]
  · intro h
    rw [← fa.2.2, ← fb.2.2, h]

/-! ### Parents, joins, wildcards -/
/-- What Parent answers. -/
def parN (l : List UInt8) : List UInt8 × Bool := if chkN l = 0 then (match cutL l with | some x => (x.2, true) | none => ([], false)) else ([], false)
def joinN (a b : List UInt8) : List UInt8 × Nat := if chkN a ≠ 0 then ([], chkN a) else if chkN b ≠ 0 then ([], chkN b) else named (a ++ b)
def wildN (l : List UInt8) : Bool := (chkN l == 0) && (l.take 2 == [1, 42])
def matN (v n : List UInt8) : Bool := wildN v && (undN n (parN v).1 && decide ((nlabs (parN v).1).length < (nlabs n).length))
theorem cutL_nil {l : List UInt8} (h : chkN l = 0) : cutL l = none ↔ l = [] := by
  obtain ⟨L, h1, h2, h3, h4⟩ := chkN_out h
  constructor
  · intro e
    have := labs_none e
    rw [this] at h3
    rw [h2, ← h3]
    rfl
  · rintro rfl
    rfl
theorem chkN_tail {l x r : List UInt8} (h : chkN l = 0) (hc : cutL l = some (x, r)) : chkN r = 0 ∧ nlabs l = x :: nlabs r := by
  obtain ⟨h1, h2⟩ := chkN_iff.1 h
  have e := (cutL_some hc).1
  have hl := cutL_len hc
  have hr : chkN r = 0 := by
    refine chkN_iff.2 ⟨by omega, ?_⟩
    rw [labs_some hc, enc_cons] at h2
    exact List.append_cancel_left (h2.trans e)
  exact ⟨hr, by rw [nlabs_yes h, nlabs_yes hr, labs_some hc]⟩
theorem parN_some {l x r : List UInt8} (h : chkN l = 0) (hc : cutL l = some (x, r)) : parN l = (r, true) := by
  unfold parN
  rw [if_pos h, hc]
theorem joinN_ok {a b : List UInt8} (ha : chkN a = 0) (hb : chkN b = 0) (hl : a.length + b.length ≤ 254) : joinN a b = (a ++ b, 0) ∧ chkN (a ++ b) = 0 ∧ nlabs (a ++ b) = nlabs a ++ nlabs b := by
  have h1 : joinN a b = (a ++ b, 0) := by
    unfold joinN named
    rw [if_neg (by omega), if_neg (by omega), if_neg (by rw [List.length_append]; omega)]
  obtain ⟨A, a1, a2, a3, a4⟩ := chkN_out ha
  obtain ⟨C, c1, c2, c3, c4⟩ := chkN_out hb
  have e : a ++ b = enc (A ++ C) := by rw [a2, c2, enc_append]
  have hok := okN_append.2 ⟨a1, c1⟩
  have hc : chkN (a ++ b) = 0 := by
    rw [e]
    exact chkN_enc hok (by rw [← e, List.length_append]; exact hl)
  refine ⟨h1, hc, ?_⟩
  rw [nlabs_yes hc, nlabs_yes ha, nlabs_yes hb, e, labs_enc0 hok, a3, c3]
theorem joinN_long {a b : List UInt8} (ha : chkN a = 0) (hb : chkN b = 0) (hl : 254 < a.length + b.length) : joinN a b = ([], 3) := by
  unfold joinN named
  rw [if_neg (by omega), if_neg (by omega), if_pos (by rw [List.length_append]; omega)]
theorem rows_append {a b : List UInt8} (ha : chkN a = 0) (hb : chkN b = 0) (hl : a.length + b.length ≤ 254) : rows (a ++ b) = rows b ++ rows a := by
  unfold rows
  rw [(joinN_ok ha hb hl).2.2]
  simp
theorem wild_cut {l x r : List UInt8} (hc : cutL l = some (x, r)) : (l.take 2 == [1, 42]) = (x == [42]) := by
  obtain ⟨rfl, hx⟩ := cutL_some hc
  have hn : (UInt8.ofNat x.length).toNat = x.length := UInt8.toNat_ofNat_of_lt' (by have := hx.2; show _ < 256; omega)
  rw [Bool.eq_iff_iff, beq_iff_eq, beq_iff_eq]
  unfold enc1
  constructor
  · intro h
    rcases x with _ | ⟨y, t⟩
    · have := hx.1
      simp at this
    · simp only [List.cons_append, List.take_succ_cons, List.take_zero, List.cons.injEq, and_true] at h
      have h1 := congrArg UInt8.toNat h.1
      rw [hn] at h1
      have h2 : t = [] := by simpa using h1
      rw [h2, h.2]
  · rintro rfl
    rfl
end Go.Proofs.Ytmjhofgcfolelaa
