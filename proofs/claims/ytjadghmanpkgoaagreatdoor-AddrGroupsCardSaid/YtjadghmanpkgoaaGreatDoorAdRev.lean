/-
  A row of strings turned about: slices.Reverse on a row of the call's own. Conditions: as each theorem names them.
-/
import Derived.Test.YtjadghmanpkgoaaGreatDoorAdRead
import Derived.Lib.OwnBridge
namespace Go.Proofs.YtjadghmanpkgoaaGreatDoor
open Go.RowKit
set_option linter.unusedVariables false

theorem strB_enc (M : List (List UInt8)) : (strB M).map Value.string = M.map Proofs.encStr := by
  unfold strB
  rw [List.map_map]
  rfl
theorem strB_length (M : List (List UInt8)) : (strB M).length = M.length := List.length_map _
theorem revT_any (L : List (List UInt8)) (v : Value) (base : Nat) (w w1 : World) (h : TOwn 9 w1 base v (strB L)) (hb : Below base w w1) (hl : L.length ≤ 1000000) :
    Calls Tryz.prog 75 #[v] w1 fun e w' => e = .returned (.tuple #[]) ∧ TOwn 9 w' base v (strB L.reverse) ∧ Below base w w' := by
  have h' := h
  unfold TOwn at h'
  rw [strB_enc, strB_length] at h'
  by_cases hv : v = .slice none 0 0
  · subst hv
    refine (Tryz.slices_Reverse_string_empty none 0 w1).mono ?_
    rintro e w' ⟨rfl, rfl⟩
    rcases h'.2 with ⟨_, hn⟩ | ⟨g, cap, cur, e0, _⟩
    · obtain rfl := List.eq_nil_of_length_eq_zero hn
      exact ⟨rfl, h, hb⟩
    · simp at e0
  · obtain ⟨g, cap, rfl, hbg, hlt, hn, hm, hz, hH⟩ := Lib.holds_of_ownsRow h' hv
    refine (Tryz.slices_Reverse_string g 0 cap L w1 hH (by omega)).mono ?_
    rintro e w' ⟨rfl, n, rfl⟩
    refine ⟨rfl, ?_, Lib.below_putRow hb hbg⟩
    have := Lib.ownsRow_putRow (q := n) (ys := L.reverse) h' (by simp) (Nat.le_refl _)
    unfold TOwn
    rw [strB_enc, strB_length, List.length_reverse]
    rwa [List.take_of_length_le (by simp)] at this
end Go.Proofs.YtjadghmanpkgoaaGreatDoor
