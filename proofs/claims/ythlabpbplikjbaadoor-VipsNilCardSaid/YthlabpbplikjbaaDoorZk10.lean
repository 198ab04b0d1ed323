/-
  Which places of a range reserved ranges take: the runs' lengths, and where they lie: plain mathematics. Conditions as each theorem names them. Nothing of any program is named here. Which places of a range reserved ranges leave, and how many: plain mathematics. Conditions: as each theorem names them. Nothing of any program is named here.
-/
import Derived.Test.YthlabpbplikjbaaDoorZk3
import Derived.Test.YthlabpbplikjbaaDoorZk9
namespace Go.Proofs.YthlabpbplikjbaaDoor
open Go.RowKit
set_option linter.unusedVariables false

/-- The narrower one of two ranges that meet. -/
def narR (r : Ad) (n : Int) (s : Ad) (m : Int) : Ad × Int := if m < n then (r, n) else (s, m)
def updA (M : Ad → Nat) (a : Ad) (v : Nat) : Ad → Nat := fun x => if x = a then v else M x
/-- What one more reserved range makes of the runs. -/
def stepR (r : Ad) (n : Int) (M : Ad → Nat) (o : Ad × Int) : Ad → Nat :=
  if meetR r n o.1 o.2 then updA M (narR r n o.1 o.2).1 (max (M (narR r n o.1 o.2).1) (sizeR (narR r n o.1 o.2).1 (narR r n o.1 o.2).2)) else M
/-- How long the runs are, by their first addresses. -/
def runsR (r : Ad) (n : Int) (L : List (Ad × Int)) : Ad → Nat := L.foldl (stepR r n) (fun _ => 0)
/-- Place j of a range. -/
def plR (r : Ad) (j : Nat) : Ad := (r.1, r.2.1, r.2.2 + j)

theorem step_lt {r : Ad} {n : Int} {M : Ad → Nat} {o : Ad × Int} {a : Ad} {v : Nat} :
    v < stepR r n M o a ↔ v < M a ∨ (meetR r n o.1 o.2 = true ∧ (narR r n o.1 o.2).1 = a ∧ v < sizeR (narR r n o.1 o.2).1 (narR r n o.1 o.2).2) := by
  unfold stepR
  by_cases h : meetR r n o.1 o.2 = true
  · rw [if_pos h]
    unfold updA
    by_cases ha : a = (narR r n o.1 o.2).1
    · subst ha
      rw [if_pos rfl, show ∀ x y : Nat, v < max x y ↔ v < x ∨ v < y from fun x y => by omega]
      simp [h]
    · rw [if_neg ha]
      simp [h, Ne.symm ha]
  · rw [if_neg h]
    simp [h]
theorem fold_lt {r : Ad} {n : Int} : ∀ (L : List (Ad × Int)) (M : Ad → Nat) {a : Ad} {v : Nat},
    v < L.foldl (stepR r n) M a ↔ v < M a ∨ ∃ o ∈ L, meetR r n o.1 o.2 = true ∧ (narR r n o.1 o.2).1 = a ∧ v < sizeR (narR r n o.1 o.2).1 (narR r n o.1 o.2).2
  | [], M, a, v => by simp
  | o :: L, M, a, v => by
    rw [List.foldl_cons, fold_lt L, step_lt]
    simp only [List.mem_cons, exists_eq_or_imp]
    exact or_assoc
theorem runs_lt {r : Ad} {n : Int} {L : List (Ad × Int)} {a : Ad} {v : Nat} :
    v < runsR r n L a ↔ ∃ o ∈ L, meetR r n o.1 o.2 = true ∧ (narR r n o.1 o.2).1 = a ∧ v < sizeR (narR r n o.1 o.2).1 (narR r n o.1 o.2).2 := by
  unfold runsR
  rw [fold_lt]
  simp

/-! ### Where a reserved range lies -/
theorem cl_less {j k x : Nat} (h : cl k x = x) (hjk : j ≤ k) : cl j x = x := by
  rw [← h]
  unfold cl
  obtain ⟨d, rfl⟩ := Nat.exists_eq_add_of_le hjk
  rw [Nat.pow_add, show x / (2 ^ j * 2 ^ d) * (2 ^ j * 2 ^ d) = (x / (2 ^ j * 2 ^ d) * 2 ^ d) * 2 ^ j by rw [Nat.mul_comm (2 ^ j) (2 ^ d), Nat.mul_assoc], Nat.mul_div_cancel _ (Nat.two_pow_pos j)]
theorem cl_sum {k x j : Nat} (h : cl k x = x) : cl k (x + j) = x + cl k j := by
  unfold cl at *
  obtain ⟨q, hq⟩ : ∃ q, x = q * 2 ^ k := ⟨_, h.symm⟩
  rw [hq, Nat.add_comm (q * 2 ^ k) j, Nat.add_mul_div_right _ _ (Nat.two_pow_pos k), Nat.add_mul, Nat.add_comm]
theorem cl_bd (k x : Nat) : cl k x ≤ x ∧ x < cl k x + 2 ^ k := by
  unfold cl
  have h1 := Nat.div_add_mod x (2 ^ k)
  have h2 := Nat.mod_lt x (Nat.two_pow_pos k)
  rw [Nat.mul_comm] at h1
  omega
theorem kL_size {six : Bool} {b : Nat} (h : widA six - b ≤ 16) : kL six b ≤ widA six - b := by
  unfold widA at *
  unfold kL
  cases six
  · simp at *
  · simp at *
    split <;> omega
/-- A reserved range has a place just if the two meet, and the place lies in the narrower one, which begins at a place. -/
theorem has_nar {r s : Ad} {b m : Int} (hf : fitA r) (hs : fitA s) (hr : chkR r b = 0) {j : Nat} (hj : j < sizeR r b) :
    hasR s m (plR r j) = true ↔ meetR r b s m = true ∧ ∃ k, k ≤ j ∧ (narR r b s m).1 = plR r k ∧ j < k + sizeR (narR r b s m).1 (narR r b s m).2 := by
  obtain ⟨_, b', rfl, hbw, hhr⟩ := chkR_yes hr
  by_cases hsm : chkR s m = 0
  · obtain ⟨hcs, m', rfl, hmw, hhs⟩ := chkR_yes hsm
    have hp0 : plR r 0 = r := rfl
    unfold narR
    by_cases hlt : (m' : Int) < b'
    · rw [if_pos hlt]
      have hle : m' ≤ b' := by omega
      have e1 : hasR s m' (plR r j) = hasR s m' r := has_place hf hsm hr hle hj
      have e2 := (meet_has hsm hr hle).2
      rw [e1, e2]
      exact ⟨fun h => ⟨h, 0, Nat.zero_le _, hp0.symm, by rw [Nat.zero_add]; exact hj⟩, fun h => h.1⟩
    · rw [if_neg hlt]
      have hle : b' ≤ m' := by omega
      have e2 := (meet_has hr hsm hle).1
      rw [e2]
      obtain ⟨_, _, hcp, hhp, _⟩ := place hf hr hj
      constructor
      · intro h
        have h' := (hasR_iff hsm).1 h
        have hk1 : s.1 = r.1 := by rw [← h'.2]; rfl
        have hs1 : headR r.1 m' (plR r j) = s := by rw [← hk1]; exact h'.2
        refine ⟨(hasR_iff hr).2 ⟨hcs, ?_⟩, cl (kL r.1 m') j, (cl_bd _ _).1, ?_, ?_⟩
        · rw [← hs1, head_head hle]
          exact hhp
        · rw [← hs1]
          have a1 : cl (kH r.1 b') r.2.1 = r.2.1 := congrArg (fun x : Ad => x.2.1) hhr
          have a2 : cl (kL r.1 b') r.2.2 = r.2.2 := congrArg (fun x : Ad => x.2.2) hhr
          show (r.1, cl (kH r.1 m') r.2.1, cl (kL r.1 m') (r.2.2 + j)) = (r.1, r.2.1, r.2.2 + cl (kL r.1 m') j)
          rw [cl_less a1 (kH_mono hle), cl_sum (cl_less a2 (kL_mono hle))]
        · have hc := cl_bd (kL r.1 m') j
          rw [sizeR_yes hsm, hk1]
          rcases Nat.lt_or_ge 16 (widA r.1 - m') with h16 | h16
          · rw [Nat.min_eq_right (by omega)]
            have := (size_pos hr).2
            omega
          · rw [Nat.min_eq_left h16]
            have := Nat.pow_le_pow_right (n := 2) (by decide) (kL_size h16)
            omega
      · rintro ⟨hm, k, hkj, hk, hlt2⟩
        dsimp only at hlt2
        obtain ⟨_, _, h3, h4, _⟩ := place hs hsm (j := j - k) (by omega)
        have hpe : plR r j = (s.1, s.2.1, s.2.2 + (j - k)) := by
          have e : s = plR r k := hk
          rw [e]
          unfold plR
          simp only [Prod.mk.injEq, true_and]
          omega
        rw [hpe]
        exact (hasR_iff hsm).2 ⟨h3, h4⟩
  · rw [hasR_bad _ hsm]
    have := meet_bad (a := r) (b := s) (m := (b' : Int)) (n := m) (.inr hsm)
    rw [this]
    simp
/-- A place is left just if none of the reserved ranges has it. -/
theorem left_iff {r : Ad} {b : Int} {L : List (Ad × Int)} (hf : fitA r) (hL : ∀ o ∈ L, fitA o.1) (hr : chkR r b = 0) {j : Nat} (hj : j < sizeR r b) :
    endF (fun i => runsR r b L (plR r i)) (j + 1) = j ↔ ∀ o ∈ L, hasR o.1 o.2 (plR r j) = false := by
  rw [endF_iff]
  constructor
  · intro h o ho
    rw [Bool.eq_false_iff]
    intro hh
    obtain ⟨hm, k, hkj, hk, hlt⟩ := (has_nar hf (hL o ho) hr hj).1 hh
    have h1 := h k hkj
    have h2 : j - k < runsR r b L (plR r k) := runs_lt.2 ⟨o, ho, hm, hk, by omega⟩
    omega
  · intro h k hk
    refine Nat.le_of_not_lt fun hlt => ?_
    obtain ⟨o, ho, hm, hn, hz⟩ := runs_lt.1 (show j - k < runsR r b L (plR r k) by omega)
    have := (has_nar hf (hL o ho) hr hj).2 ⟨hm, k, hk, hn, by omega⟩
    rw [h o ho] at this
    cases this
/-- What Free answers. -/
def freeR (r : Ad) (b : Int) (L : List (Ad × Int)) : Nat := ((List.range (sizeR r b)).filter fun j => L.all fun o => !hasR o.1 o.2 (plR r j)).length
theorem free_cnt {r : Ad} {b : Int} {L : List (Ad × Int)} (hf : fitA r) (hL : ∀ o ∈ L, fitA o.1) : freeR r b L = cntF (fun i => runsR r b L (plR r i)) (sizeR r b) := by
  by_cases hr : chkR r b = 0
  · rw [cntF_filter]
    unfold freeR
    congr 1
    apply List.filter_congr
    intro j hj
    rw [Bool.eq_iff_iff, decide_eq_true_iff, left_iff hf hL hr (List.mem_range.1 hj), List.all_eq_true]
    simp
  · have : sizeR r b = 0 := if_neg hr
    unfold freeR
    rw [this]
    rfl
theorem cntF_congr {m m' : Nat → Nat} : ∀ n, (∀ i, i < n → m i = m' i) → endF m n = endF m' n ∧ cntF m n = cntF m' n
  | 0, _ => ⟨rfl, rfl⟩
  | n + 1, h => by
    obtain ⟨h1, h2⟩ := cntF_congr n fun i hi => h i (by omega)
    have e : endF m (n + 1) = endF m' (n + 1) := by unfold endF; rw [h1, h n (by omega)]
    exact ⟨e, by unfold cntF; rw [h2, e]⟩
/-! ### Place by place -/
theorem addA_fit (a : Ad) (n : Nat) : fitA (addA a n).1 := by
  unfold addA
  split
  · unfold fitA noA; decide
  · split
    · unfold fitA noA; decide
    · unfold fitA sumA
      exact ⟨Nat.mod_lt _ (by decide), Nat.mod_lt _ (by decide)⟩
end Go.Proofs.YthlabpbplikjbaaDoor
namespace Go.Proofs.YthlabpbplikjbaaDoor
open Go.RowKit
set_option linter.unusedVariables false

def okP (r : Ad) (L : List (Ad × Int)) (j : Nat) : Bool := L.all fun o => !hasR o.1 o.2 (plR r j)
/-- How many of the first k places none has. -/
def cnP (r : Ad) (L : List (Ad × Int)) (k : Nat) : Nat := ((List.range k).filter (okP r L)).length
theorem cnP_le (r : Ad) (L : List (Ad × Int)) (k : Nat) : cnP r L k ≤ k := by
  unfold cnP
  exact Nat.le_trans (List.length_filter_le _ _) (by simp)
theorem free_cnP (r : Ad) (b : Int) (L : List (Ad × Int)) : freeR r b L = cnP r L (sizeR r b) := rfl
theorem size_chk {r : Ad} {b : Int} {j : Nat} (hj : j < sizeR r b) : chkR r b = 0 := by
  by_cases h : chkR r b = 0
  · exact h
  · have : sizeR r b = 0 := if_neg h
    omega
theorem at_pl {r : Ad} {b : Int} (hf : fitA r) {j : Nat} (hj : j < sizeR r b) : atR r b (j : Int) = (plR r j, true) := by
  have hr := size_chk hj
  obtain ⟨_, b', rfl, _, _⟩ := chkR_yes hr
  unfold atR
  rw [if_neg (by omega), Int.toNat_natCast, (place hf hr hj).1]
  rfl
theorem pl_fit {r : Ad} {b : Int} (hf : fitA r) {j : Nat} (hj : j < sizeR r b) : fitA (plR r j) := by
  have h := addA_fit r j
  have hr := size_chk hj
  obtain ⟨_, b', rfl, _, _⟩ := chkR_yes hr
  rw [(place hf hr hj).1] at h
  exact h
end Go.Proofs.YthlabpbplikjbaaDoor
