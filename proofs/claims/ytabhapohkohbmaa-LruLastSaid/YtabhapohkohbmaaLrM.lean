/-
  A ring of nodes: who is ahead of whom, who is behind whom. Nothing of any program is named here.
-/
namespace Go.Proofs.Ytabhapohkohbmaa
set_option linter.unusedVariables false
set_option linter.unusedSimpArgs false

/-- A node: where it lies, its key, its value. -/
structure LNd (V : Type) where
  g : Nat
  k : ByteArray
  v : V

def upd (f : Nat → Nat) (i x : Nat) : Nat → Nat := fun j => if j = i then x else f j
theorem upd_same (f : Nat → Nat) (i x : Nat) : upd f i x i = x := by simp [upd]
theorem upd_other {f : Nat → Nat} {i x j : Nat} (h : j ≠ i) : upd f i x j = f j := by simp [upd, h]

/-- From x over the row to y: B is who comes behind, A who is ahead. -/
def Ch (A B : Nat → Nat) : Nat → List Nat → Nat → Prop
  | x, [], y => B x = y ∧ A y = x
  | x, z :: r, y => B x = z ∧ A z = x ∧ Ch A B z r y

theorem ch_congr {A B A' B' : Nat → Nat} : ∀ {l : List Nat} {x y : Nat}, (∀ i ∈ x :: l, B' i = B i) → (∀ i ∈ l ++ [y], A' i = A i) → Ch A B x l y → Ch A' B' x l y
  | [], x, y, hb, ha, h => ⟨(hb x (by simp)).trans h.1, (ha y (by simp)).trans h.2⟩
  | z :: r, x, y, hb, ha, h => ⟨(hb x (by simp)).trans h.1, (ha z (by simp)).trans h.2.1, ch_congr (fun i hi => hb i (List.mem_cons_of_mem _ hi)) (fun i hi => ha i (by simp only [List.cons_append, List.mem_cons]; exact Or.inr hi)) h.2.2⟩
theorem ch_split {A B : Nat → Nat} {n : Nat} {q : List Nat} {y : Nat} : ∀ {p : List Nat} {x : Nat}, Ch A B x (p ++ n :: q) y ↔ Ch A B x p n ∧ Ch A B n q y
  | [], x => by simp [Ch, and_assoc]
  | z :: p, x => by
    simp only [List.cons_append, Ch]
    rw [ch_split (p := p) (x := z)]
    simp [and_assoc]
theorem ch_ahead {A B : Nat → Nat} : ∀ {p : List Nat} {x y : Nat}, Ch A B x p y → A y ∈ x :: p
  | [], x, y, h => by simp [h.2]
  | z :: p, x, y, h => List.mem_cons_of_mem _ (ch_ahead h.2.2)
theorem ch_behind {A B : Nat → Nat} : ∀ {q : List Nat} {x y : Nat}, Ch A B x q y → B x ∈ q ++ [y]
  | [], x, y, h => by simp [h.1]
  | z :: p, x, y, h => by simp [h.1]
theorem ch_leave {A B : Nat → Nat} {n : Nat} {q : List Nat} : ∀ {p : List Nat} {x y : Nat}, Ch A B x (p ++ n :: q) y → (x :: (p ++ n :: q)).Nodup → (p ++ n :: q ++ [y]).Nodup →
    Ch (upd A (B n) (A n)) (upd B (A n) (B n)) x (p ++ q) y
  | [], x, y, h, hx, hy => by
    obtain ⟨h1, h2, h3⟩ := h
    simp only [List.nil_append] at hx hy ⊢
    cases q with
    | nil =>
      obtain ⟨h4, h5⟩ := h3
      refine ⟨?_, ?_⟩
      · rw [h2, upd_same, h4]
      · rw [h4, upd_same, h2]
    | cons z q =>
      obtain ⟨h4, h5, h6⟩ := h3
      simp only [List.nodup_cons, List.mem_cons, not_or, List.cons_append, List.mem_append] at hx hy
      refine ⟨by rw [h2, upd_same, h4], by rw [h4, upd_same, h2], ch_congr (fun i hi => upd_other ?_) (fun i hi => upd_other ?_) h6⟩
      · rw [h2]
        rintro rfl
        simp only [List.mem_cons] at hi
        rcases hi with rfl | hi
        · exact hx.1.2.1 rfl
        · exact hx.1.2.2 hi
      · rw [h4]
        rintro rfl
        simp only [List.mem_append, List.mem_singleton] at hi
        rcases hi with hi | rfl
        · exact hy.2.1.1 hi
        · exact hy.2.1.2.1 rfl
  | z :: p, x, y, h, hx, hy => by
    simp only [List.cons_append] at h hx hy ⊢
    obtain ⟨h1, h2, h3⟩ := h
    have hx' := hx
    rw [List.nodup_cons] at hx
    have hy' := hy
    rw [List.nodup_cons] at hy
    have ih := ch_leave h3 hx.2 hy.2
    obtain ⟨c1, c2⟩ := ch_split.1 h3
    have ha := ch_ahead c1
    have hb := ch_behind c2
    refine ⟨?_, ?_, ih⟩
    · rw [upd_other]
      · exact h1
      · rintro rfl
        refine hx.1 ?_
        simp only [List.mem_cons, List.mem_append] at ha ⊢
        rcases ha with ha | ha
        · exact Or.inl ha
        · exact Or.inr (Or.inl ha)
    · rw [upd_other]
      · exact h2
      · rintro rfl
        refine hy.1 ?_
        simp only [List.mem_cons, List.mem_append] at hb ⊢
        rcases hb with hb | hb
        · exact Or.inl (Or.inr (Or.inr hb))
        · exact Or.inr hb
/-- The ring begins at b. -/
structure Rng (A B : Nat → Nat) (b : Nat) (l : List Nat) : Prop where
  ch : Ch A B b l b
  nd : (b :: l).Nodup
theorem nodup_end {b : Nat} {l : List Nat} (h : (b :: l).Nodup) : (l ++ [b]).Nodup := by
  rw [List.nodup_cons] at h
  rw [List.nodup_append]
  refine ⟨h.2, by simp, ?_⟩
  intro a ha c hc e
  simp only [List.mem_singleton] at hc
  subst hc e
  exact h.1 ha
theorem Rng.leave {A B : Nat → Nat} {b n : Nat} {p q : List Nat} (h : Rng A B b (p ++ n :: q)) : Rng (upd A (B n) (A n)) (upd B (A n) (B n)) b (p ++ q) :=
  ⟨ch_leave h.ch h.nd (nodup_end h.nd), h.nd.sublist ((List.Sublist.append_left (List.sublist_cons_self n q) p).cons_cons b)⟩
theorem Rng.enter {A B : Nat → Nat} {b n : Nat} {l : List Nat} (h : Rng A B b l) (hn : n ∉ b :: l) : Rng (upd (upd A n b) (B b) n) (upd (upd B n (B b)) b n) b (n :: l) := by
  have hb := ch_behind h.ch
  have hnb : n ≠ b := fun e => hn (by simp [e])
  have hnB : n ≠ B b := fun e => by
    rw [← e] at hb
    simp only [List.mem_append, List.mem_singleton] at hb
    exact hb.elim (fun h => hn (List.mem_cons_of_mem _ h)) hnb
  refine ⟨⟨upd_same _ _ _, by rw [upd_other hnB, upd_same], ?_⟩, ?_⟩
  · have h0 := h.nd
    have h1 := nodup_end h0
    have h2 := h.ch
    cases l with
    | nil =>
      obtain ⟨h3, h4⟩ := h2
      refine ⟨by rw [upd_other hnb, upd_same, h3], by rw [h3, upd_same]⟩
    | cons z r =>
      obtain ⟨h3, h4, h5⟩ := h2
      simp only [List.nodup_cons, List.mem_cons, not_or, List.cons_append, List.mem_append] at h0 h1 hn
      refine ⟨by rw [upd_other hnb, upd_same, h3], by rw [h3, upd_same], ch_congr (fun i hi => ?_) (fun i hi => ?_) h5⟩
      · rw [upd_other, upd_other]
        · rintro rfl
          simp only [List.mem_cons] at hi
          exact hi.elim hn.2.1 hn.2.2
        · rintro rfl
          simp only [List.mem_cons] at hi
          exact hi.elim h0.1.1 h0.1.2
      · rw [upd_other, upd_other]
        · rintro rfl
          simp only [List.mem_append, List.mem_singleton] at hi
          exact hi.elim hn.2.2 hn.1
        · rw [h3]
          rintro rfl
          simp only [List.mem_append, List.mem_singleton] at hi
          rcases hi with hi | rfl
          · exact h1.1.1 hi
          · exact h1.1.2.1 rfl
  · rw [List.nodup_cons, List.nodup_cons]
    have h0 := h.nd
    rw [List.nodup_cons] at h0
    simp only [List.mem_cons, not_or] at hn ⊢
    exact ⟨⟨fun e => hn.1 e.symm, h0.1⟩, hn.2, h0.2⟩
end Go.Proofs.Ytabhapohkohbmaa
