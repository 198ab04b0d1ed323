/-
  A region that draws its order, by what each of its operations leaves behind: whatever order comes, what each needs stands when it comes, and what stands is kept. No condition.
-/
import Derived.Deep.QuietTactic
namespace Go.Proofs.YtpmlldgjbmingaaGreatDoor
set_option linter.unusedVariables false

theorem filter_less {α : Type} {p q : α → Bool} {i : α} : ∀ (l : List α), l.Nodup → i ∈ l → p i = true → q i = false → (∀ j, j ≠ i → p j = q j) → (l.filter q).length + 1 = (l.filter p).length
  | [], _, h, _, _, _ => by cases h
  | x :: r, hd, hi, hp, hq, hs => by
    obtain ⟨hx, hr⟩ := List.nodup_cons.1 hd
    by_cases hxi : x = i
    · subst hxi
      have e : r.filter q = r.filter p := by
        apply List.filter_congr
        intro j hj
        exact (hs j (fun e => hx (e ▸ hj))).symm
      rw [List.filter_cons_of_neg (by simp [hq]), List.filter_cons_of_pos hp, e, List.length_cons]
    · have ih := filter_less r hr ((List.mem_cons.1 hi).resolve_left (fun e => hxi e.symm)) hp hq hs
      cases hpx : p x
      · rw [List.filter_cons_of_neg (by rw [← hs x hxi, hpx]; decide), List.filter_cons_of_neg (by rw [hpx]; decide), ih]
      · rw [List.filter_cons_of_pos (by rw [← hs x hxi, hpx]), List.filter_cons_of_pos hpx, List.length_cons, List.length_cons, ih]

/-- Each operation waits for none but for some that stand ahead of it. -/
def backB : Nat → List Oper → Bool
  | _, [] => true
  | k, o :: r => o.after.all (fun e => Nat.blt e.on k) && backB (k + 1) r
theorem backB_spec : ∀ (l : List Oper) (k : Nat), backB k l = true → ∀ i o, l[i]? = some o → ∀ e ∈ o.after, e.on < k + i
  | [], _, _, i, o, h => by simp at h
  | x :: r, k, hb, i, o, h => by
    simp only [backB, Bool.and_eq_true] at hb
    rcases i with _ | i
    · simp only [List.getElem?_cons_zero, Option.some.injEq] at h
      subst h
      intro e he
      have := Array.all_eq_true_iff_forall_mem.1 hb.1 e he
      simpa [Nat.blt_eq] using this
    · rw [List.getElem?_cons_succ] at h
      intro e he
      have := backB_spec r (k + 1) hb.2 i o h e he
      omega

section
variable {P : Program} {Q : Exit → Act → World → Prop}
def openN (l : List Oper) (listed : Array Bool) : List Nat := (List.range l.length).filter fun i => !listed.getD i true
theorem wpAny_inv {l : List Oper} (hb : backB 0 l = true) (B : Nat → Act → World → Prop) (T : Nat → Act → World → Prop)
    (step : ∀ (f i : Nat) (o : Oper) (a : Act) (w : World) (D : Nat → Prop), l[i]? = some o → f < l.length → ¬ D i → (∀ e ∈ o.after, Region.binds .any e = true → D e.on) → (∀ j o', l[j]? = some o' → D j → ∀ e ∈ o'.after, Region.binds .any e = true → D e.on) → B (f + 1) a w → (∀ j, D j → T j a w) →
      wpOp P l.toArray Q i (fun a' w' => B f a' w' ∧ T i a' w' ∧ ∀ j, D j → T j a' w') a w)
    (fin : ∀ a w, B 0 a w → (∀ j, j < l.length → T j a w) → Q .normal a w) :
    ∀ (f : Nat) (listed : Array Bool) (a : Act) (w : World), listed.size = l.length → (openN l listed).length = f → f ≤ l.length → B f a w → (∀ j, listed.getD j false = true → T j a w) → (∀ j o', l[j]? = some o' → listed.getD j false = true → ∀ e ∈ o'.after, Region.binds .any e = true → listed.getD e.on false = true) → wpAny P .any l.toArray Q f listed a w := by
  have hready : ∀ (listed : Array Bool), listed.size = l.length → Region.ready .any l.toArray listed = [] → openN l listed = [] := by
    intro listed hs hr
    refine Classical.byContradiction fun hne => ?_
    have hex : ∃ i, i ∈ openN l listed := by
      cases h : openN l listed with
      | nil => exact absurd h hne
      | cons x r => exact ⟨x, by simp⟩
    obtain ⟨i, hi, hmin⟩ : ∃ i, i ∈ openN l listed ∧ ∀ j, j < i → j ∉ openN l listed := by
      obtain ⟨i, hi⟩ := hex
      induction i using Nat.strongRecOn with
      | ind i ih =>
        by_cases h : ∃ j, j < i ∧ j ∈ openN l listed
        · obtain ⟨j, hj, hm⟩ := h
          exact ih j hj hm
        · exact ⟨i, hi, fun j hj hm => h ⟨j, hj, hm⟩⟩
    simp only [openN, List.mem_filter, List.mem_range] at hi hmin
    have ho : l[i]? = some l[i] := List.getElem?_eq_getElem hi.1
    have : i ∈ Region.ready .any l.toArray listed := by
      simp only [Region.ready, List.mem_filter, List.mem_range, List.size_toArray]
      refine ⟨hi.1, ?_⟩
      rw [Bool.and_eq_true]
      refine ⟨hi.2, ?_⟩
      rw [List.getElem?_toArray, ho]
      simp only [Option.map_some, Option.getD_some]
      rw [Array.all_eq_true_iff_forall_mem]
      intro e he
      have hlt := backB_spec l 0 hb i _ ho e he
      rw [Bool.or_eq_true]
      right
      have h2 := hmin e.on (by omega)
      have h3 : e.on < listed.size := by omega
      have h4 : ¬ (e.on < l.length ∧ (!listed.getD e.on true) = true) := h2
      simp only [Array.getD_eq_getD_getElem?, Array.getElem?_eq_getElem h3, Option.getD_some] at h4 ⊢
      cases h5 : listed[e.on]
      · exact absurd ⟨by omega, by rw [h5]; rfl⟩ h4
      · rfl
    rw [hr] at this
    cases this
  intro f
  induction f with
  | zero =>
    intro listed a w hs hc hle hB hT hcl
    have hnil : openN l listed = [] := List.eq_nil_of_length_eq_zero hc
    have hall : ∀ j, j < l.length → listed.getD j false = true := by
      intro j hj
      have : j ∉ openN l listed := by rw [hnil]; simp
      simp only [openN, List.mem_filter, List.mem_range, not_and] at this
      have h2 := this hj
      have h3 : j < listed.size := by omega
      simp only [Array.getD_eq_getD_getElem?, Array.getElem?_eq_getElem h3, Option.getD_some] at h2 ⊢
      cases h5 : listed[j]
      · rw [h5] at h2; exact absurd rfl h2
      · rfl
    refine ⟨?_, fin a w hB fun j hj => hT j (hall j hj)⟩
    cases hr : Region.ready .any l.toArray listed with
    | nil => rfl
    | cons i r =>
      have : i ∈ Region.ready .any l.toArray listed := by rw [hr]; simp
      obtain ⟨h1, o, ho, _⟩ := mem_ready.1 this
      rw [List.getElem?_toArray] at ho
      have hi : i < l.length := (List.getElem?_eq_some_iff.1 ho).1
      have h2 := hall i hi
      have h3 : i < listed.size := by omega
      simp only [Array.getD_eq_getD_getElem?, Array.getElem?_eq_getElem h3, Option.getD_some] at h1 h2
      rw [h1] at h2
      cases h2
  | succ f ih =>
    intro listed a w hs hc hle hB hT hcl
    refine ⟨fun hr => ?_, fun i hi => ?_⟩
    · rw [hready listed hs hr] at hc
      cases hc
    · obtain ⟨h1, o, ho, hall⟩ := mem_ready.1 hi
      rw [List.getElem?_toArray] at ho
      have hil : i < l.length := (List.getElem?_eq_some_iff.1 ho).1
      have his : i < listed.size := by omega
      have hf1 : listed.getD i false = false := by
        simp only [Array.getD_eq_getD_getElem?, Array.getElem?_eq_getElem his, Option.getD_some] at h1 ⊢
        exact h1
      have hst := step f i o a w (fun j => listed.getD j false = true) ho (by omega) (by rw [hf1]; decide) (fun e he hbd => hall e he hbd) hcl hB hT
      refine wpOp_mono (fun a' w' h => ?_) hst
      obtain ⟨hB', hTi, hTj⟩ := h
      refine ih _ a' w' (by simpa using hs) ?_ (by omega) hB' (fun j hj => ?_) (fun j o' hj' hj e he hbd => ?_)
      · have := filter_less (p := fun i => !listed.getD i true) (q := fun j => !(listed.setIfInBounds i true).getD j true) (i := i) (List.range l.length) List.nodup_range (List.mem_range.2 hil) (by simp only [h1]; rfl)
          (by simp [Array.getD_eq_getD_getElem?, his]) (fun j hj => by simp only [Array.getD_eq_getD_getElem?, Array.getElem?_setIfInBounds_ne (Ne.symm hj)])
        unfold openN at hc ⊢
        omega
      · by_cases hji : j = i
        · subst hji; exact hTi
        · refine hTj j ?_
          simp only [Array.getD_eq_getD_getElem?, Array.getElem?_setIfInBounds_ne (Ne.symm hji)] at hj ⊢
          exact hj
      · have hkeep : ∀ x, listed.getD x false = true → (listed.setIfInBounds i true).getD x false = true := fun x hx => by
          by_cases hxi : x = i
          · subst hxi
            simp [Array.getD_eq_getD_getElem?, his]
          · simp only [Array.getD_eq_getD_getElem?, Array.getElem?_setIfInBounds_ne (Ne.symm hxi)] at hx ⊢
            exact hx
        by_cases hji : j = i
        · subst hji
          rw [hj'] at ho
          cases ho
          exact hkeep _ (hall e he hbd)
        · refine hkeep _ (hcl j o' hj' ?_ e he hbd)
          simp only [Array.getD_eq_getD_getElem?, Array.getElem?_setIfInBounds_ne (Ne.symm hji)] at hj ⊢
          exact hj
/-- A region that draws its order: B holds at the beginning, and behind each operation; T i behind operation i, and is kept. -/
theorem wp_region_inv {id : Nat} {a : Act} {w : World} {l : List Oper} (hm : P.follows .mixedOrders = true) (hb : backB 0 l = true) (B : Nat → Act → World → Prop) (T : Nat → Act → World → Prop) (h0 : B l.length a w.drew)
    (step : ∀ (f i : Nat) (o : Oper) (a : Act) (w : World) (D : Nat → Prop), l[i]? = some o → f < l.length → ¬ D i → (∀ e ∈ o.after, Region.binds .any e = true → D e.on) → (∀ j o', l[j]? = some o' → D j → ∀ e ∈ o'.after, Region.binds .any e = true → D e.on) → B (f + 1) a w → (∀ j, D j → T j a w) →
      wpOp P l.toArray Q i (fun a' w' => B f a' w' ∧ T i a' w' ∧ ∀ j, D j → T j a' w') a w)
    (fin : ∀ a w, B 0 a w → (∀ j, j < l.length → T j a w) → Q .normal a w) : (Code.region id l.toArray true).wp P Q a w := by
  refine wp_region_any hm ?_
  have hz : ∀ j, (Array.replicate l.length false).getD j false = false := fun j => by
    rw [Array.getD_eq_getD_getElem?, Array.getElem?_replicate]
    split <;> rfl
  refine wpAny_inv hb B T step fin _ _ a _ (by simp) ?_ (Nat.le_refl _) (by simpa using h0) (fun j hj => ?_) (fun j o' _ hj => by rw [List.size_toArray, hz] at hj; cases hj)
  · unfold openN
    rw [List.filter_eq_self.2, List.length_range, List.size_toArray]
    intro i hi
    have := List.mem_range.1 hi
    simp [this]
  · rw [List.size_toArray, hz] at hj
    cases hj
end
end Go.Proofs.YtpmlldgjbmingaaGreatDoor
