/-
  NameOrder: comparing is an order; what is the same, folded, is 0; who is under another one is not ahead of it: the walk. Condition: the names are no longer than Go's own limit.
-/
import Derived.Test.YtjflmifolmpdgaaNmLives
namespace Go.Proofs.Ytjflmifolmpdgaa
open Go.RowKit
set_option linter.unusedVariables false

/-- What the law's plain facts are. -/
theorem norder_facts (a b c : List UInt8) (ha : chkN a = 0) (hb : chkN b = 0) (hc : chkN c = 0) :
    (cmpN a b = -1 ∨ cmpN a b = 0 ∨ cmpN a b = 1) ∧ cmpN b a = - cmpN a b ∧ samN a b = (cmpN a b == 0) ∧ (cmpN a b ≤ 0 → cmpN b c ≤ 0 → cmpN a c ≤ 0) ∧ (undN a b = true → 0 ≤ cmpN a b) ∧
    cmpN (fold a) b = cmpN a b ∧ samN (fold a) a = true ∧ foldN (fold a) = fold a ∧ undN (fold a) b = undN a b ∧ (undN a b = true → undN b c = true → undN a c = true) := by
  have fa := foldN_facts ha
  have hr : rows (fold a) = rows a := by
    unfold rows
    rw [nlabs_yes fa.2.1, nlabs_yes ha, fa.2.2, List.map_map]
    congr 1
    apply List.map_congr_left
    intro x _
    exact fold_fold x
  refine ⟨cmpR_range _ _, cmpR_swap _ _, ?_, cmpR_trans _ _ _, ?_, ?_, ?_, ?_, ?_, ?_⟩
  · unfold samN
    rw [ha, hb]
    simp
  · intro h
    obtain ⟨_, _, hp⟩ := undN_iff.1 h
    unfold cmpN
    rw [cmpR_swap, cmpR_pre _ _ hp]
    split <;> decide
  · unfold cmpN
    rw [hr]
  · unfold samN cmpN
    rw [fa.2.1, ha, hr, (cmpR_zero _ _).2 rfl]
    rfl
  · unfold foldN
    rw [if_pos fa.2.1, fold_fold]
  · unfold undN
    rw [fa.2.1, ha, hr]
  · intro h1 h2
    obtain ⟨_, _, p1⟩ := undN_iff.1 h1
    obtain ⟨_, _, p2⟩ := undN_iff.1 h2
    exact undN_iff.2 ⟨ha, hc, p2.trans p1⟩

/-- A guard's ways: what is too long, or may not be. -/
def Bad (n : ByteArray) (E : Nat) : Prop := 400 < n.size ∨ (n.size ≤ 400 ∧ E ≠ 0)

set_option maxHeartbeats 2000000 in
theorem norder_out (a b c : ByteArray) (Ea Eb Ec : Nat) (w : World) (ha : a.size ≤ maxLen) (hb : b.size ≤ maxLen) (hc : c.size ≤ maxLen)
    (h1 : Gives 17 #[.string a] (.int .i64 Ea)) (h2 : Gives 17 #[.string b] (.int .i64 Eb)) (h3 : Gives 17 #[.string c] (.int .i64 Ec))
    (h : 400 < a.size ∨ (a.size ≤ 400 ∧ 400 < b.size) ∨ (a.size ≤ 400 ∧ b.size ≤ 400 ∧ 400 < c.size) ∨ (a.size ≤ 400 ∧ b.size ≤ 400 ∧ c.size ≤ 400 ∧ ((Ea : Int) != 0) = true) ∨
      (a.size ≤ 400 ∧ b.size ≤ 400 ∧ c.size ≤ 400 ∧ ((Ea : Int) != 0) = false ∧ ((Eb : Int) != 0) = true) ∨ (a.size ≤ 400 ∧ b.size ≤ 400 ∧ c.size ≤ 400 ∧ ((Ea : Int) != 0) = false ∧ ((Eb : Int) != 0) = false ∧ ((Ec : Int) != 0) = true)) :
    Calls Try.prog 7 #[.string a, .string b, .string c] w fun e w' => e = .returned (.bool true) ∧ Below w.heap.size w w' := by
  unfold maxLen at ha hb hc
  rcases h with h | ⟨k1, k2⟩ | ⟨k1, k2, k3⟩ | ⟨k1, k2, k3, k4⟩ | ⟨k1, k2, k3, k4, k5⟩ | ⟨k1, k2, k3, k4, k5, k6⟩
  all_goals
    go_enter Try.func7, Try.ntmps7
    go_wp2_with (first | (go_at_call 11; ((with_reducible refine (lives2 _).mono ?_); rintro e w' ⟨rfl, hb'⟩; have hbb := hb')) | (go_at_call 17; ((with_reducible refine (h1 _).mono ?_); rintro e w' ⟨rfl, hb'⟩; replace hbb := next hbb hb')) | (go_at_call 17; ((with_reducible refine (h2 _).mono ?_); rintro e w' ⟨rfl, hb'⟩; replace hbb := next hbb hb')) | (go_at_call 17; ((with_reducible refine (h3 _).mono ?_); rintro e w' ⟨rfl, hb'⟩; replace hbb := next hbb hb')))
    go_ret
    exact ⟨rfl, hbb⟩

set_option maxHeartbeats 8000000 in
theorem norder_core (a b c F : ByteArray) (X Y Z : Int) (U V T : Bool) (w : World) (ha : a.size ≤ 254) (hb : b.size ≤ 254) (hc : c.size ≤ 254) (hX : -1 ≤ X) (hX' : X ≤ 1)
    (c1 : Gives 17 #[.string a] (.int .i64 0)) (c2 : Gives 17 #[.string b] (.int .i64 0)) (c3 : Gives 17 #[.string c] (.int .i64 0))
    (h1 : Gives 20 #[.string a, .string b] (.int .i64 X)) (h2 : Gives 20 #[.string b, .string c] (.int .i64 Y)) (h3 : Gives 20 #[.string a, .string c] (.int .i64 Z))
    (h4 : Gives 20 #[.string b, .string a] (.int .i64 (-X))) (h5 : Gives 19 #[.string a, .string b] (.bool (X == 0)))
    (h6 : Gives 18 #[.string a] (.string F)) (h7 : Gives 20 #[.string F, .string b] (.int .i64 X)) (h8 : Gives 18 #[.string F] (.string F))
    (h9 : Gives 19 #[.string F, .string a] (.bool true)) (u1 : Gives 21 #[.string a, .string b] (.bool U)) (u2 : Gives 21 #[.string F, .string b] (.bool U))
    (u3 : Gives 21 #[.string b, .string c] (.bool V)) (u4 : Gives 21 #[.string a, .string c] (.bool T))
    (hcase : 0 < X ∨ (X ≤ 0 ∧ 0 < Y) ∨ (X ≤ 0 ∧ Y ≤ 0 ∧ Z ≤ 0)) (hund : U = false ∨ (U = true ∧ 0 ≤ X ∧ V = false) ∨ (U = true ∧ 0 ≤ X ∧ V = true ∧ T = true)) :
    Calls Try.prog 7 #[.string a, .string b, .string c] w fun e w' => e = .returned (.bool true) ∧ Below w.heap.size w w' := by
  rcases hund with rfl | ⟨rfl, hx0, rfl⟩ | ⟨rfl, hx0, rfl, rfl⟩
  all_goals
    rcases hcase with hcs | ⟨hcs, hcs2⟩ | ⟨hcs, hcs2, hcs3⟩
    all_goals
      go_enter Try.func7, Try.ntmps7
      go_wp2_with (first | (go_at_call 11; ((with_reducible refine (lives2 _).mono ?_); rintro e w' ⟨rfl, hb'⟩; have hbb := hb')) | (go_at_call 17; ((with_reducible refine (c1 _).mono ?_); rintro e w' ⟨rfl, hb'⟩; replace hbb := next hbb hb')) | (go_at_call 17; ((with_reducible refine (c2 _).mono ?_); rintro e w' ⟨rfl, hb'⟩; replace hbb := next hbb hb')) | (go_at_call 17; ((with_reducible refine (c3 _).mono ?_); rintro e w' ⟨rfl, hb'⟩; replace hbb := next hbb hb')) | (go_at_call 20; ((with_reducible refine (h1 _).mono ?_); rintro e w' ⟨rfl, hb'⟩; replace hbb := next hbb hb')) | (go_at_call 20; ((with_reducible refine (h2 _).mono ?_); rintro e w' ⟨rfl, hb'⟩; replace hbb := next hbb hb')) | (go_at_call 20; ((with_reducible refine (h3 _).mono ?_); rintro e w' ⟨rfl, hb'⟩; replace hbb := next hbb hb')) | (go_at_call 20; ((with_reducible refine (h4 _).mono ?_); rintro e w' ⟨rfl, hb'⟩; replace hbb := next hbb hb')) | (go_at_call 20; ((with_reducible refine (h7 _).mono ?_); rintro e w' ⟨rfl, hb'⟩; replace hbb := next hbb hb')) | (go_at_call 19; ((with_reducible refine (h5 _).mono ?_); rintro e w' ⟨rfl, hb'⟩; replace hbb := next hbb hb')) | (go_at_call 19; ((with_reducible refine (h9 _).mono ?_); rintro e w' ⟨rfl, hb'⟩; replace hbb := next hbb hb')) | (go_at_call 18; ((with_reducible refine (h6 _).mono ?_); rintro e w' ⟨rfl, hb'⟩; replace hbb := next hbb hb')) | (go_at_call 18; ((with_reducible refine (h8 _).mono ?_); rintro e w' ⟨rfl, hb'⟩; replace hbb := next hbb hb')) | (go_at_call 21; ((with_reducible refine (u1 _).mono ?_); rintro e w' ⟨rfl, hb'⟩; replace hbb := next hbb hb')) | (go_at_call 21; ((with_reducible refine (u2 _).mono ?_); rintro e w' ⟨rfl, hb'⟩; replace hbb := next hbb hb')) | (go_at_call 21; ((with_reducible refine (u3 _).mono ?_); rintro e w' ⟨rfl, hb'⟩; replace hbb := next hbb hb')) | (go_at_call 21; ((with_reducible refine (u4 _).mono ?_); rintro e w' ⟨rfl, hb'⟩; replace hbb := next hbb hb')))
      go_ret
      exact ⟨by simp, hbb⟩
end Go.Proofs.Ytjflmifolmpdgaa
