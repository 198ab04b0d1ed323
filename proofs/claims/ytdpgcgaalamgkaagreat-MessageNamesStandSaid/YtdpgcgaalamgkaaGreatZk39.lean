/-
  What is put in more room, or in less: it is the same as long as it fits; the one error is that of the room: plain mathematics. Conditions as each theorem names them.
-/
import Derived.Test.YtdpgcgaalamgkaaGreatZk28
namespace Go.Proofs.YtdpgcgaalamgkaaGreat
open Go.RowKit
set_option linter.unusedVariables false
set_option maxRecDepth 10000

def F3 (f : Nat) : Prop := f = 0 ∨ f = 3
/-- F puts in the room M what F' puts in the room M'. -/
structure Mo (M : Nat) (F F' : PS → Nat × PS) : Prop where
  st : ∀ s, (F s).2.f = 0 → s.f = 0
  st' : ∀ s, (F' s).2.f = 0 → s.f = 0
  gr' : ∀ s, s.l.length ≤ (F' s).2.l.length
  up : ∀ s, (F s).2.f = 0 → F' s = F s
  dn : ∀ s, (F' s).2.f = 0 → (F' s).2.l.length ≤ M → F s = F' s
  e3 : ∀ s, F3 s.f → F3 (F s).2.f
section
variable {M M' : Nat}
theorem Mo.seq {F F' G G' : PS → Nat × PS} (hF : Mo M F F') (hG : Mo M G G') : Mo M (fun s => if (F s).1 = 0 then G (F s).2 else F s) (fun s => if (F' s).1 = 0 then G' (F' s).2 else F' s) := by
  refine ⟨fun s h => ?_, fun s h => ?_, fun s => ?_, fun s h => ?_, fun s h hl => ?_, fun s h => ?_⟩
  · by_cases hz : (F s).1 = 0
    · simp only [hz, if_true] at h
      exact hF.st s (hG.st _ h)
    · simp only [hz, if_false] at h
      exact hF.st s h
  · by_cases hz : (F' s).1 = 0
    · simp only [hz, if_true] at h
      exact hF.st' s (hG.st' _ h)
    · simp only [hz, if_false] at h
      exact hF.st' s h
  · by_cases hz : (F' s).1 = 0
    · simp only [hz, if_true]
      exact Nat.le_trans (hF.gr' s) (hG.gr' _)
    · simp only [hz, if_false]
      exact hF.gr' s
  · by_cases hz : (F s).1 = 0
    · simp only [hz, if_true] at h ⊢
      have e := hF.up s (hG.st _ h)
      rw [e]
      simp only [hz, if_true]
      exact hG.up _ h
    · simp only [hz, if_false] at h ⊢
      have e := hF.up s h
      rw [e]
      simp only [hz, if_false]
  · by_cases hz : (F' s).1 = 0
    · simp only [hz, if_true] at h hl ⊢
      have e := hF.dn s (hG.st' _ h) (Nat.le_trans (hG.gr' _) hl)
      rw [e]
      simp only [hz, if_true]
      exact hG.dn _ h hl
    · simp only [hz, if_false] at h hl ⊢
      have e := hF.dn s h hl
      rw [e]
      simp only [hz, if_false]
  · by_cases hz : (F s).1 = 0
    · simp only [hz, if_true]
      exact hG.e3 _ (hF.e3 s h)
    · simp only [hz, if_false]
      exact hF.e3 s h
/-- A guard ahead that does not hang on the room. -/
theorem Mo.guard {F F' : PS → Nat × PS} (hF : Mo M F F') (g : PS → Nat) : Mo M (fun s => if g s ≠ 0 then (g s, s) else F s) (fun s => if g s ≠ 0 then (g s, s) else F' s) := by
  refine ⟨fun s h => ?_, fun s h => ?_, fun s => ?_, fun s h => ?_, fun s h hl => ?_, fun s h => ?_⟩ <;> by_cases hg : g s = 0
  all_goals first
    | (simp only [hg, ne_eq, not_true_eq_false, not_false_eq_true, if_true, if_false] at h hl ⊢ <;> first | exact hF.dn s h hl | rfl)
    | (simp only [hg, ne_eq, not_true_eq_false, not_false_eq_true, if_true, if_false] at h ⊢ <;> first | exact hF.st s h | exact hF.st' s h | exact hF.up s h | exact hF.e3 s h | exact h | rfl)
    | (simp only [hg, ne_eq, not_true_eq_false, not_false_eq_true, if_true, if_false] <;> first | exact hF.gr' s | exact Nat.le_refl _)
/-! ### States alone -/
end
end Go.Proofs.YtdpgcgaalamgkaaGreat
