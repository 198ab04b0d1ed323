/-
  NameOrder, whole: for every three strings. Condition: the names are no longer than Go's own limit.
-/
import Derived.Test.YtjflmifolmpdgaaNmOrder
namespace Go.Proofs.Ytjflmifolmpdgaa
open Go.RowKit
set_option linter.unusedVariables false

/-- The ways of a guard over three names. -/
theorem guard3 (a b c : ByteArray) (Ea Eb Ec : Nat) : (400 < a.size ∨ (a.size ≤ 400 ∧ 400 < b.size) ∨ (a.size ≤ 400 ∧ b.size ≤ 400 ∧ 400 < c.size) ∨ (a.size ≤ 400 ∧ b.size ≤ 400 ∧ c.size ≤ 400 ∧ ((Ea : Int) != 0) = true) ∨
      (a.size ≤ 400 ∧ b.size ≤ 400 ∧ c.size ≤ 400 ∧ ((Ea : Int) != 0) = false ∧ ((Eb : Int) != 0) = true) ∨ (a.size ≤ 400 ∧ b.size ≤ 400 ∧ c.size ≤ 400 ∧ ((Ea : Int) != 0) = false ∧ ((Eb : Int) != 0) = false ∧ ((Ec : Int) != 0) = true)) ∨ (Ea = 0 ∧ Eb = 0 ∧ Ec = 0) := by
  simp only [bne_iff_ne, bne_eq_false_iff_eq]
  omega

theorem NameOrder_walk (a b c : ByteArray) (ha : a.size ≤ maxLen) (hb : b.size ≤ maxLen) (hc : c.size ≤ maxLen) (w : World) :
    Calls Try.prog 7 #[.string a, .string b, .string c] w fun e w' => e = .returned (.bool true) ∧ Below w.heap.size w w' := by
  rcases guard3 a b c (chkN (bs a)) (chkN (bs b)) (chkN (bs c)) with h | ⟨k1, k2, k3⟩
  · exact norder_out a b c _ _ _ w ha hb hc (gCheck ha rfl) (gCheck hb rfl) (gCheck hc rfl) h
  · obtain ⟨f1, f2, f3, f4, f5, f6, f7, f8, f9, f10⟩ := norder_facts (bs a) (bs b) (bs c) k1 k2 k3
    have la := (chkN_iff.1 k1).1
    have lb' := (chkN_iff.1 k2).1
    have lc := (chkN_iff.1 k3).1
    rw [bs_length] at la lb' lc
    obtain ⟨F, hF⟩ : ∃ F : ByteArray, bs F = fold (bs a) := ⟨_, bs_mk _⟩
    have hFs : F.size ≤ maxLen := by rw [← bs_length, hF, fold_length, bs_length]; exact ha
    refine norder_core a b c F (cmpN (bs a) (bs b)) (cmpN (bs b) (bs c)) (cmpN (bs a) (bs c)) (undN (bs a) (bs b)) (undN (bs b) (bs c)) (undN (bs a) (bs c)) w la lb' lc (by omega) (by omega)
      (gCheck (e := 0) ha k1) (gCheck (e := 0) hb k2) (gCheck (e := 0) hc k3) (gCmp ha hb rfl) (gCmp hb hc rfl) (gCmp ha hc rfl) (gCmp hb ha f2) (gSame ha hb f3) (gFold ha ?_) (gCmp hFs hb ?_) (gFold hFs ?_) (gSame hFs ha ?_)
      (gUnder ha hb rfl) (gUnder hFs hb ?_) (gUnder hb hc rfl) (gUnder ha hc rfl) ?_ ?_
    · rw [hF]
      exact if_pos k1
    · rw [hF]
      exact f6
    · rw [hF]
      exact f8
    · rw [hF]
      exact f7
    · rw [hF]
      exact f9
    · omega
    · cases hu : undN (bs a) (bs b)
      · exact .inl rfl
      · cases hv : undN (bs b) (bs c)
        · exact .inr (.inl ⟨rfl, f5 hu, rfl⟩)
        · exact .inr (.inr ⟨rfl, f5 hu, rfl, f10 hu hv⟩)
end Go.Proofs.Ytjflmifolmpdgaa
