/-
  A region that draws its order and does not write, walked once in the order of the text, over a class of worlds 'f n'; the Bool 'Region.lexB' by a quadratic check. No condition.
-/
import Derived.Deep.QuietTactic
import Derived.BigQuiet
namespace Go.Proofs.Ytabhapohkohbmaa
open Go.RowKit
set_option linter.unusedVariables false

def lexL (md : Region.Mode) (ops : Array Oper) : Nat → List Oper → Bool
  | _, [] => true
  | k, o :: rest => (o.after.all fun e => !Region.binds md e || Nat.blt e.on k) && (rest.all fun oj => (oj.after.any fun e => Region.binds md e && e.on == k) || o.apart ops oj) && lexL md ops (k + 1) rest

theorem lexFrom_of {md : Region.Mode} {ops : Array Oper} : ∀ (l : List Oper) (k : Nat) (listed : Array Bool), (∀ j, l[j]? = ops[k + j]?) → k + l.length = ops.size →
    (∀ i, i < ops.size → listed[i]? = some (decide (i < k))) → lexL md ops k l = true → Region.lexFrom md ops l.length k listed = true
  | [], k, listed, _, hk, hd, _ => by
    simp only [List.length_nil, Nat.add_zero] at hk
    simp only [List.length_nil, Region.lexFrom, Region.ready, List.isEmpty_iff, List.filter_eq_nil_iff, List.mem_range]
    intro i hi
    rw [Array.getD_eq_getD_getElem?, hd i hi]
    have : i < k := by omega
    simp [this]
  | o :: rest, k, listed, hl, hk, hd, h => by
    have h0 : ops[k]? = some o := by simpa using (hl 0).symm
    simp only [List.length_cons] at hk
    have hks : k < ops.size := by omega
    simp only [lexL, Bool.and_eq_true] at h
    obtain ⟨⟨ha, hf⟩, hr⟩ := h
    simp only [List.length_cons, Region.lexFrom, Bool.and_eq_true]
    refine ⟨⟨?_, ?_⟩, ?_⟩
    · rw [List.contains_iff_mem]
      simp only [Region.ready, List.mem_filter, List.mem_range]
      refine ⟨hks, ?_⟩
      rw [Array.getD_eq_getD_getElem?, hd k hks, h0]
      simp only [Option.getD_some, Nat.lt_irrefl, decide_false, Bool.not_false, Bool.true_and, Option.map_some]
      rw [Array.all_eq_true_iff_forall_mem] at ha ⊢
      intro e he
      have := ha e he
      rw [Bool.or_eq_true] at this ⊢
      refine this.imp id fun hb => ?_
      have hlt : e.on < k := by simpa [Nat.blt_eq] using hb
      rw [Array.getD_eq_getD_getElem?, hd _ (by omega)]
      simp [hlt]
    · simp only [Region.free, h0, List.all_eq_true, List.mem_range]
      intro j hj
      rw [Array.getD_eq_getD_getElem?, hd j hj]
      by_cases hjk : j = k
      · simp [hjk]
      by_cases hlt : j < k
      · simp [hlt]
      obtain ⟨m, rfl⟩ : ∃ m, j = k + (m + 1) := ⟨j - k - 1, by omega⟩
      have hm := hl (m + 1)
      rw [List.getElem?_cons_succ] at hm
      rw [← hm]
      have hml : m < rest.length := by omega
      rw [List.getElem?_eq_getElem hml]
      have := List.all_eq_true.1 hf _ (List.getElem_mem hml)
      simp only [Bool.or_eq_true] at this ⊢
      exact Or.inr this
    · refine lexFrom_of rest (k + 1) _ (fun j => ?_) (by omega) (fun i hi => ?_) hr
      · have := hl (j + 1)
        rw [List.getElem?_cons_succ] at this
        rw [this]
        congr 1
        omega
      · by_cases hik : i = k
        · subst hik
          have hs : i < listed.size := by
            rcases Nat.lt_or_ge i listed.size with h | h
            · exact h
            · have := hd i hi
              rw [Array.getElem?_eq_none h] at this
              exact absurd this (by simp)
          rw [Array.getElem?_setIfInBounds_self_of_lt hs]
          simp
        · rw [Array.getElem?_setIfInBounds_ne (Ne.symm hik), hd i hi]
          congr 1
          simp only [decide_eq_decide]
          omega

theorem lexB_of {md : Region.Mode} {l : List Oper} (hs : Region.noSelect l.toArray = true) (h : lexL md l.toArray 0 l = true) : Region.lexB md l.toArray = true := by
  simp only [Region.lexB, Bool.and_eq_true]
  refine ⟨hs, ?_⟩
  have := lexFrom_of (md := md) (ops := l.toArray) l 0 (Array.replicate l.toArray.size false) (fun j => by simp) (by simp) (fun i hi => by simp at hi; simp [hi]) h
  simpa using this

theorem wp_region_class {P : Program} {Ix : Type} (f : Ix → World) {id : Nat} {Q : Exit → Act → World → Prop} {a : Act} {w : World} {l : List Oper} (hm : P.follows .mixedOrders = true) (hB : Region.lexB .any l.toArray = true) (i0 : Ix) (h0 : w.drew = f i0)
    (h : wpQuiet P l.toArray (fun w' => ∃ n, w' = f n) (fun a' => ∀ w', (∃ n, w' = f n) → Q .normal a' w') l a) : (Code.region id l.toArray true).wp P Q a w :=
  wp_region_quiet (C := fun w' => ∃ n, w' = f n) hm hB ⟨i0, h0⟩ (by simpa using h)
end Go.Proofs.Ytabhapohkohbmaa
