/-
  The rest of a region that draws its order, by what each of its operations leaves behind; operations with a guard that says yes. No condition.
-/
import Derived.Test.YtpmlldgjbmingaaGreatDoorZk16
import Derived.Test.YtpmlldgjbmingaaGreatDoorZk39
namespace Go.Proofs.YtpmlldgjbmingaaGreatDoor
open Go.RowKit
set_option linter.unusedVariables false

section
variable {P : Program} {Q : Exit → Act → World → Prop}
theorem rg_wanted {ops : Array Oper} {o : Oper} {a : Act} {j d : Nat} {b : Bool} (hg : o.guard = some (j, b)) (hd : (ops[j]?).bind (·.dst) = some d) (hs : a.tmps[d]? = some (.bool b)) : Region.wanted o (yielded ops a.tmps) = true := by
  simp [Region.wanted, hg, yielded, hd, hs]
theorem rg_opg {ops : Array Oper} {o : Oper} {i j d : Nat} {b : Bool} {a : Act} {w : World} {K : Act → World → Prop} (hi : ops[i]? = some o) (hg : o.guard = some (j, b)) (hd : (ops[j]?).bind (·.dst) = some d) (hs : a.tmps[d]? = some (.bool b)) (h : Oper.wp P o a w K Q) : wpOp P ops Q i K a w := by
  unfold wpOp
  have hw : Region.wanted o (yielded ops a.tmps) = true := rg_wanted hg hd hs
  simp only [hi, hw, if_true]
  exact .inl h
theorem slot_some {a : Act} {s : Nat} {v : Value} (h : slot a s = v) (hs : s < a.tmps.size) : a.tmps[s]? = some v := by
  unfold slot at h
  rw [Array.getD_eq_getD_getElem?, Array.getElem?_eq_getElem hs] at h
  rw [Array.getElem?_eq_getElem hs]
  exact congrArg some h
theorem wpAny_invk {l : List Oper} (k : Nat) (hb : backB 0 l = true) (B : Nat → Act → World → Prop) (T : Nat → Act → World → Prop)
    (step : ∀ (f i : Nat) (o : Oper) (a : Act) (w : World) (D : Nat → Prop), l[i]? = some o → f < l.length → ¬ D i → (∀ j, j < k → D j) → (∀ e ∈ o.after, Region.binds .any e = true → D e.on) → (∀ j o', l[j]? = some o' → D j → ∀ e ∈ o'.after, Region.binds .any e = true → D e.on) → B (f + 1) a w → (∀ j, D j → T j a w) →
      wpOp P l.toArray Q i (fun a' w' => B f a' w' ∧ T i a' w' ∧ ∀ j, D j → T j a' w') a w)
    (fin : ∀ a w, B 0 a w → (∀ j, j < l.length → T j a w) → Q .normal a w) :
    ∀ (f : Nat) (listed : Array Bool) (a : Act) (w : World), listed.size = l.length → (openN l listed).length = f → f ≤ l.length → B f a w → (∀ j, listed.getD j false = true → T j a w) → (∀ j, j < k → listed.getD j false = true) → (∀ j o', l[j]? = some o' → listed.getD j false = true → ∀ e ∈ o'.after, Region.binds .any e = true → listed.getD e.on false = true) → wpAny P .any l.toArray Q f listed a w := by
  have hready : ∀ (listed : Array Bool), listed.size = l.length → Region.ready .any l.toArray listed = [] → openN l listed = [] := by
    intro listed hs hr
    refine Classical.byContradiction fun hne => ?_
    have hex : ∃ i, i ∈ openN l listed := by
      cases h : openN l listed with
      | nil => exact absurd h hne
      | cons x r => exact ⟨x, by simp⟩
    obtain ⟨i, hi, hmin⟩ : ∃ i, i ∈ openN l listed ∧ ∀ j, j < i → j ∉ openN l listed := by
      obtain ⟨i, hi⟩ := hex
      induction i using Nat.strongRecOn with
      | ind i ih =>
        by_cases h : ∃ j, j < i ∧ j ∈ openN l listed
        · obtain ⟨j, hj, hm⟩ := h
          exact ih j hj hm
        · exact ⟨i, hi, fun j hj hm => h ⟨j, hj, hm⟩⟩
    simp only [openN, List.mem_filter, List.mem_range] at hi hmin
    have ho : l[i]? = some l[i] := List.getElem?_eq_getElem hi.1
    have : i ∈ Region.ready .any l.toArray listed := by
      simp only [Region.ready, List.mem_filter, List.mem_range, List.size_toArray]
      refine ⟨hi.1, ?_⟩
      rw [Bool.and_eq_true]
      refine ⟨hi.2, ?_⟩
      rw [List.getElem?_toArray, ho]
      simp only [Option.map_some, Option.getD_some]
      rw [Array.all_eq_true_iff_forall_mem]
      intro e he
      have hlt := backB_spec l 0 hb i _ ho e he
      rw [Bool.or_eq_true]
      right
      have h2 := hmin e.on (by omega)
      have h3 : e.on < listed.size := by omega
      have h4 : ¬ (e.on < l.length ∧ (!listed.getD e.on true) = true) := h2
      simp only [Array.getD_eq_getD_getElem?, Array.getElem?_eq_getElem h3, Option.getD_some] at h4 ⊢
      cases h5 : listed[e.on]
      · exact absurd ⟨by omega, by rw [h5]; rfl⟩ h4
      · rfl
    rw [hr] at this
    cases this
  intro f
  induction f with
  | zero =>
    intro listed a w hs hc hle hB hT hlk hcl
    have hnil : openN l listed = [] := List.eq_nil_of_length_eq_zero hc
    have hall : ∀ j, j < l.length → listed.getD j false = true := by
      intro j hj
      have : j ∉ openN l listed := by rw [hnil]; simp
      simp only [openN, List.mem_filter, List.mem_range, not_and] at this
      have h2 := this hj
      have h3 : j < listed.size := by omega
      simp only [Array.getD_eq_getD_getElem?, Array.getElem?_eq_getElem h3, Option.getD_some] at h2 ⊢
      cases h5 : listed[j]
      · rw [h5] at h2; exact absurd rfl h2
      · rfl
    refine ⟨?_, fin a w hB fun j hj => hT j (hall j hj)⟩
    cases hr : Region.ready .any l.toArray listed with
    | nil => rfl
    | cons i r =>
      have : i ∈ Region.ready .any l.toArray listed := by rw [hr]; simp
      obtain ⟨h1, o, ho, _⟩ := mem_ready.1 this
      rw [List.getElem?_toArray] at ho
      have hi : i < l.length := (List.getElem?_eq_some_iff.1 ho).1
      have h2 := hall i hi
      have h3 : i < listed.size := by omega
      simp only [Array.getD_eq_getD_getElem?, Array.getElem?_eq_getElem h3, Option.getD_some] at h1 h2
      rw [h1] at h2
      cases h2
  | succ f ih =>
    intro listed a w hs hc hle hB hT hlk hcl
    refine ⟨fun hr => ?_, fun i hi => ?_⟩
    · rw [hready listed hs hr] at hc
      cases hc
    · obtain ⟨h1, o, ho, hall⟩ := mem_ready.1 hi
      rw [List.getElem?_toArray] at ho
      have hil : i < l.length := (List.getElem?_eq_some_iff.1 ho).1
      have his : i < listed.size := by omega
      have hf1 : listed.getD i false = false := by
        simp only [Array.getD_eq_getD_getElem?, Array.getElem?_eq_getElem his, Option.getD_some] at h1 ⊢
        exact h1
      have hst := step f i o a w (fun j => listed.getD j false = true) ho (by omega) (by rw [hf1]; decide) hlk (fun e he hbd => hall e he hbd) hcl hB hT
      refine wpOp_mono (fun a' w' h => ?_) hst
      obtain ⟨hB', hTi, hTj⟩ := h
      refine ih _ a' w' (by simpa using hs) ?_ (by omega) hB' (fun j hj => ?_) (fun j hj => ?_) (fun j o' hj' hj e he hbd => ?_)
      · have := filter_less (p := fun i => !listed.getD i true) (q := fun j => !(listed.setIfInBounds i true).getD j true) (i := i) (List.range l.length) List.nodup_range (List.mem_range.2 hil) (by simp only [h1]; rfl)
          (by simp [Array.getD_eq_getD_getElem?, his]) (fun j hj => by simp only [Array.getD_eq_getD_getElem?, Array.getElem?_setIfInBounds_ne (Ne.symm hj)])
        unfold openN at hc ⊢
        omega
      · by_cases hji : j = i
        · subst hji; exact hTi
        · refine hTj j ?_
          simp only [Array.getD_eq_getD_getElem?, Array.getElem?_setIfInBounds_ne (Ne.symm hji)] at hj ⊢
          exact hj
      · have h := hlk j hj
        by_cases hji : j = i
        · subst hji
          simp [Array.getD_eq_getD_getElem?, his]
        · simp only [Array.getD_eq_getD_getElem?, Array.getElem?_setIfInBounds_ne (Ne.symm hji)] at h ⊢
          exact h
      · have hkeep : ∀ x, listed.getD x false = true → (listed.setIfInBounds i true).getD x false = true := fun x hx => by
          by_cases hxi : x = i
          · subst hxi
            simp [Array.getD_eq_getD_getElem?, his]
          · simp only [Array.getD_eq_getD_getElem?, Array.getElem?_setIfInBounds_ne (Ne.symm hxi)] at hx ⊢
            exact hx
        by_cases hji : j = i
        · subst hji
          rw [hj'] at ho
          cases ho
          exact hkeep _ (hall e he hbd)
        · refine hkeep _ (hcl j o' hj' ?_ e he hbd)
          simp only [Array.getD_eq_getD_getElem?, Array.getElem?_setIfInBounds_ne (Ne.symm hji)] at hj ⊢
          exact hj
/-- Behind the first k operations. -/
theorem at_inv {l : List Oper} {a : Act} {w : World} (k : Nat) (hk : k ≤ l.length) (hb : backB 0 l = true) (B : Nat → Act → World → Prop) (T : Nat → Act → World → Prop) (h0 : B (l.length - k) a w) (hT : ∀ j, j < k → T j a w)
    (step : ∀ (f i : Nat) (o : Oper) (a : Act) (w : World) (D : Nat → Prop), l[i]? = some o → f < l.length → ¬ D i → (∀ j, j < k → D j) → (∀ e ∈ o.after, Region.binds .any e = true → D e.on) → (∀ j o', l[j]? = some o' → D j → ∀ e ∈ o'.after, Region.binds .any e = true → D e.on) → B (f + 1) a w → (∀ j, D j → T j a w) →
      wpOp P l.toArray Q i (fun a' w' => B f a' w' ∧ T i a' w' ∧ ∀ j, D j → T j a' w') a w)
    (fin : ∀ a w, B 0 a w → (∀ j, j < l.length → T j a w) → Q .normal a w) : RegAt P l Q k a w := by
  unfold RegAt
  have hg : ∀ j, (preB l.length k).getD j false = true ↔ j < k := fun j => by
    rcases Nat.lt_or_ge j l.length with h | h
    · rw [preB_getD h]; simp
    · rw [Array.getD_eq_getD_getElem?, Array.getElem?_eq_none (by rw [preB_size]; exact h)]
      simp
      omega
  refine wpAny_invk k hb B T step fin (l.length - k) (preB l.length k) a w (preB_size _ _) ?_ (Nat.sub_le _ _) h0 (fun j hj => hT j ((hg j).1 hj)) (fun j hj => (hg j).2 hj) (fun j o' ho' hj e he hbd => (hg _).2 ?_)
  · have e : openN l (preB l.length k) = (List.range l.length).filter fun i => decide (k ≤ i) := by
      unfold openN
      apply List.filter_congr
      intro i hi
      rw [preB_getD (List.mem_range.1 hi)]
      by_cases h : i < k
      · have : ¬ k ≤ i := by omega
        simp [h, this]
      · have : k ≤ i := by omega
        simp [h, this]
    rw [e]
    have hr : List.range l.length = List.range k ++ (List.range (l.length - k)).map (k + ·) := by rw [← List.range_add]; congr 1; omega
    rw [hr, List.filter_append, List.length_append]
    rw [List.filter_eq_nil_iff.2 (by intro i hi; have := List.mem_range.1 hi; simp; omega), List.filter_eq_self.2 (by intro i hi; obtain ⟨j, _, rfl⟩ := List.mem_map.1 hi; simp)]
    simp
  · have h1 := (hg j).1 hj
    have h2 := backB_spec l 0 hb j o' ho' e he
    omega
theorem wpAny_invd {l : List Oper} (k : Nat) (hb : backB 0 l = true) (B : Nat → (Nat → Prop) → Act → World → Prop) (T : Nat → Act → World → Prop)
    (step : ∀ (f i : Nat) (o : Oper) (a : Act) (w : World) (D : Nat → Prop), l[i]? = some o → f < l.length → ¬ D i → (∀ j, j < k → D j) → (∀ e ∈ o.after, Region.binds .any e = true → D e.on) → (∀ j o', l[j]? = some o' → D j → ∀ e ∈ o'.after, Region.binds .any e = true → D e.on) → B (f + 1) D a w → (∀ j, D j → T j a w) →
      wpOp P l.toArray Q i (fun a' w' => B f (fun j => D j ∨ j = i) a' w' ∧ T i a' w' ∧ ∀ j, D j → T j a' w') a w)
    (fin : ∀ a w D, B 0 D a w → (∀ j, j < l.length → T j a w) → Q .normal a w) :
    ∀ (f : Nat) (listed : Array Bool) (a : Act) (w : World), listed.size = l.length → (openN l listed).length = f → f ≤ l.length → B f (fun j => listed.getD j false = true) a w → (∀ j, listed.getD j false = true → T j a w) → (∀ j, j < k → listed.getD j false = true) → (∀ j o', l[j]? = some o' → listed.getD j false = true → ∀ e ∈ o'.after, Region.binds .any e = true → listed.getD e.on false = true) → wpAny P .any l.toArray Q f listed a w := by
  have hready : ∀ (listed : Array Bool), listed.size = l.length → Region.ready .any l.toArray listed = [] → openN l listed = [] := by
    intro listed hs hr
    refine Classical.byContradiction fun hne => ?_
    have hex : ∃ i, i ∈ openN l listed := by
      cases h : openN l listed with
      | nil => exact absurd h hne
      | cons x r => exact ⟨x, by simp⟩
    obtain ⟨i, hi, hmin⟩ : ∃ i, i ∈ openN l listed ∧ ∀ j, j < i → j ∉ openN l listed := by
      obtain ⟨i, hi⟩ := hex
      induction i using Nat.strongRecOn with
      | ind i ih =>
        by_cases h : ∃ j, j < i ∧ j ∈ openN l listed
        · obtain ⟨j, hj, hm⟩ := h
          exact ih j hj hm
        · exact ⟨i, hi, fun j hj hm => h ⟨j, hj, hm⟩⟩
    simp only [openN, List.mem_filter, List.mem_range] at hi hmin
    have ho : l[i]? = some l[i] := List.getElem?_eq_getElem hi.1
    have : i ∈ Region.ready .any l.toArray listed := by
      simp only [Region.ready, List.mem_filter, List.mem_range, List.size_toArray]
      refine ⟨hi.1, ?_⟩
      rw [Bool.and_eq_true]
      refine ⟨hi.2, ?_⟩
      rw [List.getElem?_toArray, ho]
      simp only [Option.map_some, Option.getD_some]
      rw [Array.all_eq_true_iff_forall_mem]
      intro e he
      have hlt := backB_spec l 0 hb i _ ho e he
      rw [Bool.or_eq_true]
      right
      have h2 := hmin e.on (by omega)
      have h3 : e.on < listed.size := by omega
      have h4 : ¬ (e.on < l.length ∧ (!listed.getD e.on true) = true) := h2
      simp only [Array.getD_eq_getD_getElem?, Array.getElem?_eq_getElem h3, Option.getD_some] at h4 ⊢
      cases h5 : listed[e.on]
      · exact absurd ⟨by omega, by rw [h5]; rfl⟩ h4
      · rfl
    rw [hr] at this
    cases this
  intro f
  induction f with
  | zero =>
    intro listed a w hs hc hle hB hT hlk hcl
    have hnil : openN l listed = [] := List.eq_nil_of_length_eq_zero hc
    have hall : ∀ j, j < l.length → listed.getD j false = true := by
      intro j hj
      have : j ∉ openN l listed := by rw [hnil]; simp
      simp only [openN, List.mem_filter, List.mem_range, not_and] at this
      have h2 := this hj
      have h3 : j < listed.size := by omega
      simp only [Array.getD_eq_getD_getElem?, Array.getElem?_eq_getElem h3, Option.getD_some] at h2 ⊢
      cases h5 : listed[j]
      · rw [h5] at h2; exact absurd rfl h2
      · rfl
    refine ⟨?_, fin a w _ hB fun j hj => hT j (hall j hj)⟩
    cases hr : Region.ready .any l.toArray listed with
    | nil => rfl
    | cons i r =>
      have : i ∈ Region.ready .any l.toArray listed := by rw [hr]; simp
      obtain ⟨h1, o, ho, _⟩ := mem_ready.1 this
      rw [List.getElem?_toArray] at ho
      have hi : i < l.length := (List.getElem?_eq_some_iff.1 ho).1
      have h2 := hall i hi
      have h3 : i < listed.size := by omega
      simp only [Array.getD_eq_getD_getElem?, Array.getElem?_eq_getElem h3, Option.getD_some] at h1 h2
      rw [h1] at h2
      cases h2
  | succ f ih =>
    intro listed a w hs hc hle hB hT hlk hcl
    refine ⟨fun hr => ?_, fun i hi => ?_⟩
    · rw [hready listed hs hr] at hc
      cases hc
    · obtain ⟨h1, o, ho, hall⟩ := mem_ready.1 hi
      rw [List.getElem?_toArray] at ho
      have hil : i < l.length := (List.getElem?_eq_some_iff.1 ho).1
      have his : i < listed.size := by omega
      have hf1 : listed.getD i false = false := by
        simp only [Array.getD_eq_getD_getElem?, Array.getElem?_eq_getElem his, Option.getD_some] at h1 ⊢
        exact h1
      have hst := step f i o a w (fun j => listed.getD j false = true) ho (by omega) (by rw [hf1]; decide) hlk (fun e he hbd => hall e he hbd) hcl hB hT
      refine wpOp_mono (fun a' w' h => ?_) hst
      obtain ⟨hB', hTi, hTj⟩ := h
      have heq : (fun j => listed.getD j false = true ∨ j = i) = fun j => (listed.setIfInBounds i true).getD j false = true := funext fun j => propext (by
        by_cases hji : j = i
        · subst hji
          simp [Array.getD_eq_getD_getElem?, his]
        · simp only [Array.getD_eq_getD_getElem?, Array.getElem?_setIfInBounds_ne (Ne.symm hji)]
          simp [hji])
      rw [heq] at hB'
      refine ih _ a' w' (by simpa using hs) ?_ (by omega) hB' (fun j hj => ?_) (fun j hj => ?_) (fun j o' hj' hj e he hbd => ?_)
      · have := filter_less (p := fun i => !listed.getD i true) (q := fun j => !(listed.setIfInBounds i true).getD j true) (i := i) (List.range l.length) List.nodup_range (List.mem_range.2 hil) (by simp only [h1]; rfl)
          (by simp [Array.getD_eq_getD_getElem?, his]) (fun j hj => by simp only [Array.getD_eq_getD_getElem?, Array.getElem?_setIfInBounds_ne (Ne.symm hj)])
        unfold openN at hc ⊢
        omega
      · by_cases hji : j = i
        · subst hji; exact hTi
        · refine hTj j ?_
          simp only [Array.getD_eq_getD_getElem?, Array.getElem?_setIfInBounds_ne (Ne.symm hji)] at hj ⊢
          exact hj
      · have h := hlk j hj
        by_cases hji : j = i
        · subst hji
          simp [Array.getD_eq_getD_getElem?, his]
        · simp only [Array.getD_eq_getD_getElem?, Array.getElem?_setIfInBounds_ne (Ne.symm hji)] at h ⊢
          exact h
      · have hkeep : ∀ x, listed.getD x false = true → (listed.setIfInBounds i true).getD x false = true := fun x hx => by
          by_cases hxi : x = i
          · subst hxi
            simp [Array.getD_eq_getD_getElem?, his]
          · simp only [Array.getD_eq_getD_getElem?, Array.getElem?_setIfInBounds_ne (Ne.symm hxi)] at hx ⊢
            exact hx
        by_cases hji : j = i
        · subst hji
          rw [hj'] at ho
          cases ho
          exact hkeep _ (hall e he hbd)
        · refine hkeep _ (hcl j o' hj' ?_ e he hbd)
          simp only [Array.getD_eq_getD_getElem?, Array.getElem?_setIfInBounds_ne (Ne.symm hji)] at hj ⊢
          exact hj
/-- From the start, with what is listed told. -/
theorem at_invD {l : List Oper} {a : Act} {w : World} (hb : backB 0 l = true) (B : Nat → (Nat → Prop) → Act → World → Prop) (T : Nat → Act → World → Prop) (h0 : B l.length (fun _ => False) a w)
    (step : ∀ (f i : Nat) (o : Oper) (a : Act) (w : World) (D : Nat → Prop), l[i]? = some o → f < l.length → ¬ D i → (∀ e ∈ o.after, Region.binds .any e = true → D e.on) → (∀ j o', l[j]? = some o' → D j → ∀ e ∈ o'.after, Region.binds .any e = true → D e.on) → B (f + 1) D a w → (∀ j, D j → T j a w) →
      wpOp P l.toArray Q i (fun a' w' => B f (fun j => D j ∨ j = i) a' w' ∧ T i a' w' ∧ ∀ j, D j → T j a' w') a w)
    (fin : ∀ a w D, B 0 D a w → (∀ j, j < l.length → T j a w) → Q .normal a w) : RegAt P l Q 0 a w := by
  unfold RegAt
  have hg : ∀ j, (preB l.length 0).getD j false = true ↔ False := fun j => by
    rcases Nat.lt_or_ge j l.length with h | h
    · rw [preB_getD h]; simp
    · rw [Array.getD_eq_getD_getElem?, Array.getElem?_eq_none (by rw [preB_size]; exact h)]
      simp
  refine wpAny_invd 0 hb B T (fun f i o a w D h1 h2 h3 _ h4 h5 h6 h7 => step f i o a w D h1 h2 h3 h4 h5 h6 h7) fin (l.length - 0) (preB l.length 0) a w (preB_size _ _) ?_ (Nat.sub_le _ _) ?_ (fun j hj => absurd ((hg j).1 hj) id) (fun j hj => absurd hj (Nat.not_lt_zero j)) (fun j o' ho' hj e he hbd => absurd ((hg j).1 hj) id)
  · unfold openN
    rw [List.filter_eq_self.2 (fun i hi => by rw [preB_getD (List.mem_range.1 hi)]; simp)]
    simp
  · have : (fun j => (preB l.length 0).getD j false = true) = fun _ => False := funext fun j => propext (hg j)
    rw [this]
    exact h0
end
end Go.Proofs.YtpmlldgjbmingaaGreatDoor
