/-
  NameJoins: joined in whatever brackets three names are the same; as long as all their octets; none is too long but together: the walk. Condition: the names are no longer than Go's own limit.
-/
import Derived.Test.YtjflmifolmpdgaaNmLives
namespace Go.Proofs.Ytjflmifolmpdgaa
open Go.RowKit
set_option linter.unusedVariables false

/-- The ways of a guard over three names. -/
def Out3 (a b c : ByteArray) (Ea Eb Ec : Nat) : Prop := 400 < a.size ∨ (a.size ≤ 400 ∧ 400 < b.size) ∨ (a.size ≤ 400 ∧ b.size ≤ 400 ∧ 400 < c.size) ∨ (a.size ≤ 400 ∧ b.size ≤ 400 ∧ c.size ≤ 400 ∧ ((Ea : Int) != 0) = true) ∨
      (a.size ≤ 400 ∧ b.size ≤ 400 ∧ c.size ≤ 400 ∧ ((Ea : Int) != 0) = false ∧ ((Eb : Int) != 0) = true) ∨ (a.size ≤ 400 ∧ b.size ≤ 400 ∧ c.size ≤ 400 ∧ ((Ea : Int) != 0) = false ∧ ((Eb : Int) != 0) = false ∧ ((Ec : Int) != 0) = true)
theorem out3 (a b c : ByteArray) (Ea Eb Ec : Nat) : Out3 a b c Ea Eb Ec ∨ (Ea = 0 ∧ Eb = 0 ∧ Ec = 0) := by
  unfold Out3
  simp only [bne_iff_ne, bne_eq_false_iff_eq]
  omega

set_option maxRecDepth 100000 in
set_option maxHeartbeats 2000000 in
theorem njoins_out (a b c : ByteArray) (Ea Eb Ec : Nat) (w : World) (ha : a.size ≤ maxLen) (hb : b.size ≤ maxLen) (hc : c.size ≤ maxLen)
    (h1 : Gives 17 #[.string a] (.int .i64 Ea)) (h2 : Gives 17 #[.string b] (.int .i64 Eb)) (h3 : Gives 17 #[.string c] (.int .i64 Ec)) (h : Out3 a b c Ea Eb Ec) :
    Calls Try.prog 9 #[.string a, .string b, .string c] w fun e w' => e = .returned (.bool true) ∧ Below w.heap.size w w' := by
  unfold maxLen at ha hb hc
  rcases h with h | ⟨k1, k2⟩ | ⟨k1, k2, k3⟩ | ⟨k1, k2, k3, k4⟩ | ⟨k1, k2, k3, k4, k5⟩ | ⟨k1, k2, k3, k4, k5, k6⟩
  all_goals
    go_enter Try.func9, Try.ntmps9
    go_wp2_with (first | (go_at_call 11; ((with_reducible refine (lives2 _).mono ?_); rintro e w' ⟨rfl, hb'⟩; have hbb := hb')) | (go_at_call 17; (first | ((with_reducible refine (h1 _).mono ?_); rintro e w' ⟨rfl, hb'⟩; replace hbb := next hbb hb') | ((with_reducible refine (h2 _).mono ?_); rintro e w' ⟨rfl, hb'⟩; replace hbb := next hbb hb') | ((with_reducible refine (h3 _).mono ?_); rintro e w' ⟨rfl, hb'⟩; replace hbb := next hbb hb'))))
    go_ret
    exact ⟨rfl, hbb⟩

set_option maxRecDepth 100000 in
set_option maxHeartbeats 4000000 in
theorem njoins_long (a b c x y z : ByteArray) (Ee Ef Eg : Nat) (w : World) (ha : a.size ≤ 254) (hb : b.size ≤ 254) (hc : c.size ≤ 254) (hl : 254 < a.size + b.size + c.size)
    (c1 : Gives 17 #[.string a] (.int .i64 0)) (c2 : Gives 17 #[.string b] (.int .i64 0)) (c3 : Gives 17 #[.string c] (.int .i64 0))
    (h1 : Gives 16 #[.string a, .string b] (.tuple #[.string x, .int .i64 Ee])) (h2 : Gives 16 #[.string b, .string c] (.tuple #[.string y, .int .i64 Ef])) (h3 : Gives 16 #[.string x, .string c] (.tuple #[.string z, .int .i64 Eg]))
    (h : ((Ee : Int) == 3) = true ∨ (((Ee : Int) == 3) = false ∧ ((Ef : Int) == 3) = true) ∨ (((Ee : Int) == 3) = false ∧ ((Ef : Int) == 3) = false ∧ ((Eg : Int) == 3) = true)) :
    Calls Try.prog 9 #[.string a, .string b, .string c] w fun e w' => e = .returned (.bool true) ∧ Below w.heap.size w w' := by
  have hl' : (254 : Int) < a.size + b.size + c.size := by omega
  rcases h with k1 | ⟨k1, k2⟩ | ⟨k1, k2, k3⟩
  all_goals
    go_enter Try.func9, Try.ntmps9
    go_wp2_with (first | (go_at_call 11; ((with_reducible refine (lives2 _).mono ?_); rintro e w' ⟨rfl, hb'⟩; have hbb := hb')) | (go_at_call 17; (first | ((with_reducible refine (c1 _).mono ?_); rintro e w' ⟨rfl, hb'⟩; replace hbb := next hbb hb') | ((with_reducible refine (c2 _).mono ?_); rintro e w' ⟨rfl, hb'⟩; replace hbb := next hbb hb') | ((with_reducible refine (c3 _).mono ?_); rintro e w' ⟨rfl, hb'⟩; replace hbb := next hbb hb'))) | (go_at_call 16; (first | ((with_reducible refine (h1 _).mono ?_); rintro e w' ⟨rfl, hb'⟩; replace hbb := next hbb hb') | ((with_reducible refine (h2 _).mono ?_); rintro e w' ⟨rfl, hb'⟩; replace hbb := next hbb hb') | ((with_reducible refine (h3 _).mono ?_); rintro e w' ⟨rfl, hb'⟩; replace hbb := next hbb hb'))))
    go_ret
    exact ⟨by simp, hbb⟩

set_option maxRecDepth 100000 in
set_option maxHeartbeats 4000000 in
theorem njoins_core (a b c x y p : ByteArray) (w : World) (ha : a.size ≤ 254) (hb : b.size ≤ 254) (hc : c.size ≤ 254) (hl : a.size + b.size + c.size ≤ 254) (hp : ((p.size : Int) == (a.size : Int) + b.size + c.size) = true)
    (c1 : Gives 17 #[.string a] (.int .i64 0)) (c2 : Gives 17 #[.string b] (.int .i64 0)) (c3 : Gives 17 #[.string c] (.int .i64 0))
    (h1 : Gives 16 #[.string a, .string b] (.tuple #[.string x, .int .i64 0])) (h2 : Gives 16 #[.string b, .string c] (.tuple #[.string y, .int .i64 0])) (h3 : Gives 16 #[.string x, .string c] (.tuple #[.string p, .int .i64 0]))
    (h4 : Gives 16 #[.string a, .string y] (.tuple #[.string p, .int .i64 0])) (u1 : Gives 21 #[.string p, .string c] (.bool true)) (u2 : Gives 21 #[.string p, .string y] (.bool true))
    (l1 : ∀ wx, Calls Try.prog 31 #[.string p] wx (Lbs wx (nlabs (bs p)))) (l2 : ∀ wx, Calls Try.prog 31 #[.string a] wx (Lbs wx (nlabs (bs a)))) (l3 : ∀ wx, Calls Try.prog 31 #[.string b] wx (Lbs wx (nlabs (bs b)))) (l4 : ∀ wx, Calls Try.prog 31 #[.string c] wx (Lbs wx (nlabs (bs c))))
    (hn : (((nlabs (bs p)).length : Int) == ((nlabs (bs a)).length : Int) + (nlabs (bs b)).length + (nlabs (bs c)).length) = true) :
    Calls Try.prog 9 #[.string a, .string b, .string c] w fun e w' => e = .returned (.bool true) ∧ Below w.heap.size w w' := by
  have hl' : ¬ (254 : Int) < a.size + b.size + c.size := by omega
  have n1 := nlabs_len (bs p)
  have n2 := nlabs_len (bs a)
  have n3 := nlabs_len (bs b)
  have n4 := nlabs_len (bs c)
  go_enter Try.func9, Try.ntmps9
  go_wp2_with (first | (go_at_call 11; ((with_reducible refine (lives2 _).mono ?_); rintro e w' ⟨rfl, hb'⟩; have hbb := hb')) | (go_at_call 17; (first | ((with_reducible refine (c1 _).mono ?_); rintro e w' ⟨rfl, hb'⟩; replace hbb := next hbb hb') | ((with_reducible refine (c2 _).mono ?_); rintro e w' ⟨rfl, hb'⟩; replace hbb := next hbb hb') | ((with_reducible refine (c3 _).mono ?_); rintro e w' ⟨rfl, hb'⟩; replace hbb := next hbb hb'))) | (go_at_call 16; (first | ((with_reducible refine (h1 _).mono ?_); rintro e w' ⟨rfl, hb'⟩; replace hbb := next hbb hb') | ((with_reducible refine (h2 _).mono ?_); rintro e w' ⟨rfl, hb'⟩; replace hbb := next hbb hb') | ((with_reducible refine (h3 _).mono ?_); rintro e w' ⟨rfl, hb'⟩; replace hbb := next hbb hb') | ((with_reducible refine (h4 _).mono ?_); rintro e w' ⟨rfl, hb'⟩; replace hbb := next hbb hb'))) | (go_at_call 21; (first | ((with_reducible refine (u1 _).mono ?_); rintro e w' ⟨rfl, hb'⟩; replace hbb := next hbb hb') | ((with_reducible refine (u2 _).mono ?_); rintro e w' ⟨rfl, hb'⟩; replace hbb := next hbb hb'))) | (go_at_call 31; (first | ((with_reducible refine (l1 _).mono ?_); rintro e w' ⟨v', L', rfl, hL', hLL', hb'⟩; obtain ⟨A', ca', rfl, _, _⟩ := hL'.shape; rw [labs_len hLL']; clear hLL' hL'; replace hbb := next hbb hb') | ((with_reducible refine (l2 _).mono ?_); rintro e w' ⟨v', L', rfl, hL', hLL', hb'⟩; obtain ⟨A', ca', rfl, _, _⟩ := hL'.shape; rw [labs_len hLL']; clear hLL' hL'; replace hbb := next hbb hb') | ((with_reducible refine (l3 _).mono ?_); rintro e w' ⟨v', L', rfl, hL', hLL', hb'⟩; obtain ⟨A', ca', rfl, _, _⟩ := hL'.shape; rw [labs_len hLL']; clear hLL' hL'; replace hbb := next hbb hb') | ((with_reducible refine (l4 _).mono ?_); rintro e w' ⟨v', L', rfl, hL', hLL', hb'⟩; obtain ⟨A', ca', rfl, _, _⟩ := hL'.shape; rw [labs_len hLL']; clear hLL' hL'; replace hbb := next hbb hb'))))
  go_ret
  exact ⟨by simp, hbb⟩

theorem NameJoins_walk (a b c : ByteArray) (ha : a.size ≤ maxLen) (hb : b.size ≤ maxLen) (hc : c.size ≤ maxLen) (w : World) :
    Calls Try.prog 9 #[.string a, .string b, .string c] w fun e w' => e = .returned (.bool true) ∧ Below w.heap.size w w' := by
  rcases out3 a b c (chkN (bs a)) (chkN (bs b)) (chkN (bs c)) with h | ⟨k1, k2, k3⟩
  · exact njoins_out a b c _ _ _ w ha hb hc (gCheck ha rfl) (gCheck hb rfl) (gCheck hc rfl) h
  · have la := (chkN_iff.1 k1).1
    have lb' := (chkN_iff.1 k2).1
    have lc := (chkN_iff.1 k3).1
    have la2 := la
    have lb2 := lb'
    have lc2 := lc
    rw [bs_length] at la2 lb2 lc2
    by_cases hl : a.size + b.size + c.size ≤ 254
    · obtain ⟨x, hx⟩ : ∃ x : ByteArray, bs x = bs a ++ bs b := ⟨_, bs_mk _⟩
      obtain ⟨y, hy⟩ : ∃ y : ByteArray, bs y = bs b ++ bs c := ⟨_, bs_mk _⟩
      obtain ⟨p, hp⟩ : ∃ p : ByteArray, bs p = bs a ++ bs b ++ bs c := ⟨_, bs_mk _⟩
      have sx : x.size = a.size + b.size := by rw [← bs_length, hx, List.length_append, bs_length, bs_length]
      have sy : y.size = b.size + c.size := by rw [← bs_length, hy, List.length_append, bs_length, bs_length]
      have sp : p.size = a.size + b.size + c.size := by rw [← bs_length, hp, List.length_append, List.length_append, bs_length, bs_length, bs_length]
      have j1 := joinN_ok k1 k2 (by rw [bs_length, bs_length]; omega)
      have j2 := joinN_ok k2 k3 (by rw [bs_length, bs_length]; omega)
      have j3 := joinN_ok (a := bs a ++ bs b) j1.2.1 k3 (by rw [List.length_append, bs_length, bs_length, bs_length]; omega)
      have j4 := joinN_ok (b := bs b ++ bs c) k1 j2.2.1 (by rw [List.length_append, bs_length, bs_length, bs_length]; omega)
      have r3 := rows_append (a := bs a ++ bs b) j1.2.1 k3 (by rw [List.length_append, bs_length, bs_length, bs_length]; omega)
      have r4 := rows_append (b := bs b ++ bs c) k1 j2.2.1 (by rw [List.length_append, bs_length, bs_length, bs_length]; omega)
      have hpx : p.size ≤ maxLen := by unfold maxLen; omega
      have hxx : x.size ≤ maxLen := by unfold maxLen; omega
      have hyx : y.size ≤ maxLen := by unfold maxLen; omega
      refine njoins_core a b c x y p w la2 lb2 lc2 hl (beq_iff_eq.2 (by omega)) (gCheck (e := 0) ha k1) (gCheck (e := 0) hb k2) (gCheck (e := 0) hc k3) (gJoin (e := 0) ha hb (by rw [j1.1, hx])) (gJoin (e := 0) hb hc (by rw [j2.1, hy]))
        (gJoin (e := 0) hxx hc (by rw [hx, j3.1, hp])) (gJoin (e := 0) ha hyx (by rw [hy, j4.1, hp, List.append_assoc])) (gUnder hpx hc ?_) (gUnder hpx hyx ?_) (fun wx => Labels_any p wx hpx) (fun wx => Labels_any a wx ha) (fun wx => Labels_any b wx hb) (fun wx => Labels_any c wx hc) ?_
      · rw [hp]
        exact undN_iff.2 ⟨j3.2.1, k3, by rw [r3]; exact List.prefix_append _ _⟩
      · rw [hp, hy, List.append_assoc]
        exact undN_iff.2 ⟨j4.2.1, j2.2.1, by rw [r4]; exact List.prefix_append _ _⟩
      · rw [hp, j3.2.2, j1.2.2, List.length_append, List.length_append]
        exact beq_iff_eq.2 (by omega)
    · obtain ⟨x, hx⟩ : ∃ x : ByteArray, bs x = (joinN (bs a) (bs b)).1 := ⟨_, bs_mk _⟩
      obtain ⟨y, hy⟩ : ∃ y : ByteArray, bs y = (joinN (bs b) (bs c)).1 := ⟨_, bs_mk _⟩
      obtain ⟨z, hz⟩ : ∃ z : ByteArray, bs z = (joinN (bs x) (bs c)).1 := ⟨_, bs_mk _⟩
      have hjl : ∀ u v : List UInt8, (joinN u v).1.length ≤ 254 := fun u v => by
        unfold joinN named
        split
        · simp
        · split
          · simp
          · split
            · simp
            · simp only
              omega
      have hxx : x.size ≤ maxLen := by
        have := hjl (bs a) (bs b)
        rw [← hx, bs_length] at this
        unfold maxLen
        omega
      refine njoins_long a b c x y z (joinN (bs a) (bs b)).2 (joinN (bs b) (bs c)).2 (joinN (bs x) (bs c)).2 w la2 lb2 lc2 (by omega) (gCheck (e := 0) ha k1) (gCheck (e := 0) hb k2) (gCheck (e := 0) hc k3)
        (gJoin ha hb (by rw [hx])) (gJoin hb hc (by rw [hy])) (gJoin hxx hc (by rw [hz])) ?_
      by_cases h1 : 254 < a.size + b.size
      · left
        rw [joinN_long k1 k2 (by rw [bs_length, bs_length]; exact h1)]
        rfl
      · have j1 := joinN_ok k1 k2 (by rw [bs_length, bs_length]; omega)
        have hx' : bs x = bs a ++ bs b := by rw [hx, j1.1]
        have e1 : (((joinN (bs a) (bs b)).2 : Nat) : Int) = 0 := by rw [j1.1]; rfl
        by_cases h2 : 254 < b.size + c.size
        · right; left
          rw [e1, joinN_long k2 k3 (by rw [bs_length, bs_length]; exact h2)]
          exact ⟨rfl, rfl⟩
        · right; right
          have j2 := joinN_ok k2 k3 (by rw [bs_length, bs_length]; omega)
          have e2 : (((joinN (bs b) (bs c)).2 : Nat) : Int) = 0 := by rw [j2.1]; rfl
          rw [e1, e2, hx', joinN_long j1.2.1 k3 (by rw [List.length_append, bs_length, bs_length, bs_length]; omega)]
          exact ⟨rfl, rfl, rfl⟩
end Go.Proofs.Ytjflmifolmpdgaa
