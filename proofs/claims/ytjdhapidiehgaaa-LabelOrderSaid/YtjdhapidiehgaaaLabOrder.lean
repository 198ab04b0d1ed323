/-
  LabelOrder: comparing is an order that folding does not change; what is the same is 0: the walk. Condition: the strings are no longer than Go's own limit.
-/
import Derived.Test.YtjdhapidiehgaaaLabFold
import Derived.Test.YtjdhapidiehgaaaLabLives
namespace Go.Proofs.Ytjdhapidiehgaaa
open Go.RowKit

theorem order_long (a b c : ByteArray) (w : World) (ha : a.size ≤ maxLen) (hb : b.size ≤ maxLen) (hc : c.size ≤ maxLen) (h : 300 < a.size ∨ 300 < b.size ∨ 300 < c.size) :
    Calls Try.prog 6 #[.string a, .string b, .string c] w fun e w' => e = .returned (.bool true) ∧ Below w.heap.size w w' := by
  unfold maxLen at ha hb hc
  by_cases h1 : 300 < a.size
  · clear h
    go_enter Try.func6, Try.ntmps6
    go_wp2_with (go_at_call 9; refine (lives_any _).mono ?_; rintro e w1 ⟨rfl, hb1⟩)
    go_ret
    exact ⟨rfl, hb1⟩
  · by_cases h2 : 300 < b.size
    · clear h
      go_enter Try.func6, Try.ntmps6
      go_wp2_with (go_at_call 9; refine (lives_any _).mono ?_; rintro e w1 ⟨rfl, hb1⟩)
      go_ret
      exact ⟨rfl, hb1⟩
    · have h3 : 300 < c.size := by omega
      clear h
      go_enter Try.func6, Try.ntmps6
      go_wp2_with (go_at_call 9; refine (lives_any _).mono ?_; rintro e w1 ⟨rfl, hb1⟩)
      go_ret
      exact ⟨rfl, hb1⟩

set_option maxHeartbeats 1000000 in
theorem order_core (a b c F : ByteArray) (X Y Z : Int) (w : World) (ha : a.size ≤ 300) (hb : b.size ≤ 300) (hc : c.size ≤ 300) (hX : -1 ≤ X) (hX' : X ≤ 1)
    (h1 : Gives 15 #[.string a, .string b] (.int .i64 X)) (h2 : Gives 15 #[.string b, .string c] (.int .i64 Y)) (h3 : Gives 15 #[.string a, .string c] (.int .i64 Z))
    (h4 : Gives 15 #[.string b, .string a] (.int .i64 (-X))) (h5 : Gives 14 #[.string a, .string b] (.bool (X == 0)))
    (h6 : Gives 13 #[.string a] (.string F)) (h7 : Gives 15 #[.string F, .string b] (.int .i64 X)) (h8 : Gives 13 #[.string F] (.string F))
    (h9 : Gives 14 #[.string F, .string a] (.bool true)) (hF : F.size = a.size)
    (hcase : 0 < X ∨ (X < 0 ∧ 0 < Y) ∨ (0 ≤ X ∧ X ≤ 0 ∧ 0 < Y) ∨ (X < 0 ∧ Y ≤ 0 ∧ Z < 0 ∧ (Z == 0) = false) ∨ (0 ≤ X ∧ X ≤ 0 ∧ Y ≤ 0 ∧ Z ≤ 0)) :
    Calls Try.prog 6 #[.string a, .string b, .string c] w fun e w' => e = .returned (.bool true) ∧ Below w.heap.size w w' := by
  rcases hcase with hcs | ⟨hcs, hcs2⟩ | ⟨hcs, hcs2, hcs3⟩ | ⟨hcs, hcs2, hcs3, hcs4⟩ | ⟨hcs, hcs2, hcs3, hcs4⟩
  all_goals
    go_enter Try.func6, Try.ntmps6
    go_wp2_with (go_at_call 9; refine (lives_any _).mono ?_; rintro e w1 ⟨rfl, hb1⟩)
    refine (h1 _).mono ?_
    rintro e w2 ⟨rfl, hb2⟩
    go_wp2_with fail
    refine (h2 _).mono ?_
    rintro e w3 ⟨rfl, hb3⟩
    go_wp2_with fail
    refine (h3 _).mono ?_
    rintro e w4 ⟨rfl, hb4⟩
    go_wp2_with fail
    refine (h4 _).mono ?_
    rintro e w5 ⟨rfl, hb5⟩
    go_wp2_with fail
    refine (h5 _).mono ?_
    rintro e w6 ⟨rfl, hb6⟩
    go_wp2_with fail
    refine (h6 _).mono ?_
    rintro e w7 ⟨rfl, hb7⟩
    go_wp2_with fail
    refine (h7 _).mono ?_
    rintro e w8 ⟨rfl, hb8⟩
    go_wp2_with fail
    refine (h8 _).mono ?_
    rintro e w9 ⟨rfl, hb9⟩
    go_wp2_with fail
    refine (h9 _).mono ?_
    rintro e w10 ⟨rfl, hb10⟩
    go_wp2_with fail
    go_ret
    refine ⟨by simp, ?_⟩
    exact next (next (next (next (next (next (next (next (next hb1 hb2) hb3) hb4) hb5) hb6) hb7) hb8) hb9) hb10

theorem LabelOrder_walk (a b c : ByteArray) (ha : a.size ≤ maxLen) (hb : b.size ≤ maxLen) (hc : c.size ≤ maxLen) (w : World) :
    Calls Try.prog 6 #[.string a, .string b, .string c] w fun e w' => e = .returned (.bool true) ∧ Below w.heap.size w w' := by
  by_cases h : 300 < a.size ∨ 300 < b.size ∨ 300 < c.size
  · exact order_long a b c w ha hb hc h
  · obtain ⟨F, hF⟩ : ∃ F : ByteArray, bs F = fold (bs a) := ⟨_, bs_mk _⟩
    have hFs : F.size = a.size := by rw [← bs_length F, hF, fold_length, bs_length]
    obtain ⟨o1, o2, o3, o4, o5⟩ := cmp_order (bs a) (bs b) (bs c)
    obtain ⟨p1, p2, _, _, _⟩ := cmp_order (bs b) (bs a) (bs c)
    have hFF : (⟨(fold (bs F)).toArray⟩ : ByteArray) = F := bs_inj (by rw [bs_mk, hF, fold_fold])
    have hFa : (⟨(fold (bs a)).toArray⟩ : ByteArray) = F := bs_inj (by rw [bs_mk, hF])
    have hself : cmp (bs F) (bs a) = 0 := by rw [hF, (cmp_order (bs a) (bs a) (bs a)).2.2.2.2]; exact (cb_zero _ _).2 rfl
    refine order_core a b c F (cmp (bs a) (bs b)) (cmp (bs b) (bs c)) (cmp (bs a) (bs c)) w (by omega) (by omega) (by omega) (by omega) (by omega)
      (fun wx => Compare_any a b wx ha hb) (fun wx => Compare_any b c wx hb hc) (fun wx => Compare_any a c wx ha hc) (fun wx => ?_) (fun wx => Same_any a b wx ha hb)
      (fun wx => ?_) (fun wx => ?_) (fun wx => ?_) (fun wx => ?_) hFs ?_
    · rw [← p2]; exact Compare_any b a wx hb ha
    · have := Fold_any a wx ha
      rw [hFa] at this
      exact this
    · have := Compare_any F b wx (by omega) hb
      rw [hF, o5] at this
      exact this
    · have := Fold_any F wx (by omega)
      rw [hFF] at this
      exact this
    · have := Same_any F a wx (by omega) ha
      rw [hself] at this
      exact this
    · generalize cmp (bs a) (bs b) = X at *
      generalize cmp (bs b) (bs c) = Y at *
      generalize cmp (bs a) (bs c) = Z at *
      by_cases hX : 0 < X
      · exact .inl hX
      · by_cases hY : 0 < Y
        · by_cases hX' : X < 0
          · exact .inr (.inl ⟨hX', hY⟩)
          · exact .inr (.inr (.inl ⟨by omega, by omega, hY⟩))
        · have hz := o3 (by omega) (by omega)
          by_cases hX' : X < 0
          · have hz' := o4 hX' (by omega)
            exact .inr (.inr (.inr (.inl ⟨hX', by omega, by omega, beq_eq_false_iff_ne.2 hz'⟩)))
          · exact .inr (.inr (.inr (.inr ⟨by omega, by omega, by omega, hz⟩)))
end Go.Proofs.Ytjdhapidiehgaaa
