/-
  The clock's laws: the walks. Condition: the numbers fit their kinds, the row is no longer than Go's own limit.
-/
import Derived.Test.YtfpckikcflddjaaCkR
namespace Go.Proofs.Ytfpckikcflddjaa
open Go.RowKit

theorem lives_any : Tells 9 #[] (.bool true) := fun w => by
  have H1 : Tells 12 #[.int .u32 5, .int .i64 10, .int .i64 14] (.tuple #[.int .u32 1, .bool true]) := Left_yes (ttl := 5) (t := 10) (n := 14) (by omega) (by omega) (by omega) (by omega) (by omega) (by omega)
  have H2 : Tells 12 #[.int .u32 5, .int .i64 10, .int .i64 15] (.tuple #[.int .u32 0, .bool false]) := Left_no (ttl := 5) (t := 10) (n := 15) (by omega) (by omega) (Or.inr (Or.inr (Or.inr (by omega))))
  have H3 : Tells 16 #[.int .u32 9, .int .u32 1, .int .u32 5] (.int .u32 5) := Clamp_any 9 1 5
  have H4 : Tells 16 #[.int .u32 9, .int .u32 20, .int .u32 5] (.int .u32 5) := Clamp_any 9 20 5
  go_enter Try.func9, Try.ntmps9
  go_wp2_with (first | (go_at_call 12; (first | (with_reducible refine (H1.go _).mono ?_) | (with_reducible refine (H2.go _).mono ?_)); rintro e w' ⟨rfl, rfl⟩) | (go_at_call 16; (first | (with_reducible refine (H3.go _).mono ?_) | (with_reducible refine (H4.go _).mono ?_)); rintro e w' ⟨rfl, rfl⟩))
  go_ret
  exact ⟨rfl, rfl⟩

theorem clamps_core (ttl lo hi : Int) (w : World) :
    Calls Try.prog 6 #[.int .u32 ttl, .int .u32 lo, .int .u32 hi] w fun e w' => e = .returned (.bool true) ∧ w = w' := by
  obtain ⟨x, hx⟩ : ∃ x, x = clampI ttl lo hi := ⟨_, rfl⟩
  have H1 : Tells 16 #[.int .u32 ttl, .int .u32 lo, .int .u32 hi] (.int .u32 x) := by rw [hx]; exact Clamp_any ttl lo hi
  have H2 : Tells 16 #[.int .u32 x, .int .u32 lo, .int .u32 hi] (.int .u32 (clampI x lo hi)) := Clamp_any x lo hi
  rcases Int.lt_or_le hi lo with hc | hc
  · have hb : (x == hi) = true := by unfold clampI at hx; rw [beq_iff_eq]; omega
    clear hx H2
    go_enter Try.func6, Try.ntmps6
    go_wp2_with (first | (go_at_call 9; (first | (with_reducible refine (lives_any.go _).mono ?_)); rintro e w' ⟨rfl, rfl⟩) | (go_at_call 16; (first | (with_reducible refine (H1.go _).mono ?_)); rintro e w' ⟨rfl, rfl⟩))
    go_ret
    exact ⟨rfl, rfl⟩
  · have hq : clampI x lo hi = x := by unfold clampI at hx ⊢; omega
    rw [hq] at H2
    have g1 : lo ≤ x := by unfold clampI at hx; omega
    have g2 : x ≤ hi := by unfold clampI at hx; omega
    rcases Int.lt_or_le ttl lo with k1 | k1
    · have b1 : (x == lo) = true := by unfold clampI at hx; rw [beq_iff_eq]; omega
      have k2 : ttl ≤ hi := by omega
      clear hx hq
      go_enter Try.func6, Try.ntmps6
      go_wp2_with (first | (go_at_call 9; (first | (with_reducible refine (lives_any.go _).mono ?_)); rintro e w' ⟨rfl, rfl⟩) | (go_at_call 16; (first | (with_reducible refine (H1.go _).mono ?_) | (with_reducible refine (H2.go _).mono ?_)); rintro e w' ⟨rfl, rfl⟩))
      go_ret
      exact ⟨rfl, rfl⟩
    · rcases Int.lt_or_le hi ttl with k2 | k2
      · have b1 : (x == hi) = true := by unfold clampI at hx; rw [beq_iff_eq]; omega
        clear hx hq
        go_enter Try.func6, Try.ntmps6
        go_wp2_with (first | (go_at_call 9; (first | (with_reducible refine (lives_any.go _).mono ?_)); rintro e w' ⟨rfl, rfl⟩) | (go_at_call 16; (first | (with_reducible refine (H1.go _).mono ?_) | (with_reducible refine (H2.go _).mono ?_)); rintro e w' ⟨rfl, rfl⟩))
        go_ret
        exact ⟨rfl, rfl⟩
      · have b1 : (x == ttl) = true := by unfold clampI at hx; rw [beq_iff_eq]; omega
        clear hx hq
        go_enter Try.func6, Try.ntmps6
        go_wp2_with (first | (go_at_call 9; (first | (with_reducible refine (lives_any.go _).mono ?_)); rintro e w' ⟨rfl, rfl⟩) | (go_at_call 16; (first | (with_reducible refine (H1.go _).mono ?_) | (with_reducible refine (H2.go _).mono ?_)); rintro e w' ⟨rfl, rfl⟩))
        go_ret
        exact ⟨rfl, rfl⟩

theorem adds_core (t m n : Int) (w : World) :
    Calls Try.prog 8 #[.int .i64 t, .int .i64 m, .int .i64 n] w fun e w' => e = .returned (.bool true) ∧ w = w' := by
  by_cases hg : m < 0 ∨ n < 0 ∨ 1099511627776 < m ∨ 1099511627776 < n
  · rcases Int.lt_or_le m 0 with g1 | g1
    · clear hg
      go_enter Try.func8, Try.ntmps8
      go_wp2_with (go_at_call 9; (first | (with_reducible refine (lives_any.go _).mono ?_)); rintro e w' ⟨rfl, rfl⟩)
      go_ret
      exact ⟨rfl, rfl⟩
    rcases Int.lt_or_le n 0 with g2 | g2
    · clear hg
      go_enter Try.func8, Try.ntmps8
      go_wp2_with (go_at_call 9; (first | (with_reducible refine (lives_any.go _).mono ?_)); rintro e w' ⟨rfl, rfl⟩)
      go_ret
      exact ⟨rfl, rfl⟩
    rcases Int.lt_or_le 1099511627776 m with g3 | g3
    · clear hg
      go_enter Try.func8, Try.ntmps8
      go_wp2_with (go_at_call 9; (first | (with_reducible refine (lives_any.go _).mono ?_)); rintro e w' ⟨rfl, rfl⟩)
      go_ret
      exact ⟨rfl, rfl⟩
    have g4 : 1099511627776 < n := by omega
    clear hg
    go_enter Try.func8, Try.ntmps8
    go_wp2_with (go_at_call 9; (first | (with_reducible refine (lives_any.go _).mono ?_)); rintro e w' ⟨rfl, rfl⟩)
    go_ret
    exact ⟨rfl, rfl⟩
  have g1 : 0 ≤ m := by omega
  have g2 : 0 ≤ n := by omega
  have g3 : m ≤ 1099511627776 := by omega
  have g4 : n ≤ 1099511627776 := by omega
  clear hg
  by_cases ht : tickB t = false
  · have H1 := Add_no (n := m + n) (Or.inl ht)
    have H2 := Add_no (n := m) (Or.inl ht)
    clear ht
    go_enter Try.func8, Try.ntmps8
    go_wp2_with (first | (go_at_call 9; (first | (with_reducible refine (lives_any.go _).mono ?_)); rintro e w' ⟨rfl, rfl⟩) | (go_at_call 10; (first | (with_reducible refine (H1.go _).mono ?_) | (with_reducible refine (H2.go _).mono ?_)); rintro e w' ⟨rfl, rfl⟩))
    go_ret
    exact ⟨rfl, rfl⟩
  have ht' : tickB t = true := by simpa using ht
  obtain ⟨t0, t1⟩ := tick_of ht'
  clear ht ht'
  rcases Int.lt_or_le (1099511627776 - t) m with k1 | k1
  · have H1 := Add_long (n := m + n) t0 t1 (by omega) (by omega)
    have H2 := Add_long (n := m) t0 t1 g1 k1
    go_enter Try.func8, Try.ntmps8
    go_wp2_with (first | (go_at_call 9; (first | (with_reducible refine (lives_any.go _).mono ?_)); rintro e w' ⟨rfl, rfl⟩) | (go_at_call 10; (first | (with_reducible refine (H1.go _).mono ?_) | (with_reducible refine (H2.go _).mono ?_)); rintro e w' ⟨rfl, rfl⟩))
    go_ret
    exact ⟨rfl, rfl⟩
  have H2 := Add_yes (n := m) t0 t1 g1 k1
  have s0 : 0 ≤ t + m := by omega
  have s1 : t + m ≤ 1099511627776 := by omega
  rcases Int.lt_or_le (1099511627776 - (t + m)) n with k2 | k2
  · have H1 := Add_long (n := m + n) t0 t1 (by omega) (by omega)
    have H3 := Add_long (n := n) s0 s1 g2 k2
    go_enter Try.func8, Try.ntmps8
    go_wp2_with (first | (go_at_call 9; (first | (with_reducible refine (lives_any.go _).mono ?_)); rintro e w' ⟨rfl, rfl⟩) | (go_at_call 10; (first | (with_reducible refine (H1.go _).mono ?_) | (with_reducible refine (H2.go _).mono ?_) | (with_reducible refine (H3.go _).mono ?_)); rintro e w' ⟨rfl, rfl⟩))
    go_ret
    exact ⟨rfl, rfl⟩
  have H1 : Tells 10 #[.int .i64 t, .int .i64 (m + n)] (.tuple #[.int .i64 (t + m + n), .int .i64 0]) := by have := Add_yes (n := m + n) t0 t1 (by omega) (by omega); rw [show t + (m + n) = t + m + n by omega] at this; exact this
  have H3 := Add_yes (n := n) s0 s1 g2 k2
  have H4 : Tells 11 #[.int .i64 t, .int .i64 (t + m + n)] (.tuple #[.int .i64 (m + n), .int .i64 0]) := by have := Age_yes (t := t) (n := t + m + n) t0 (by omega) (by omega); rw [show t + m + n - t = m + n by omega] at this; exact this
  have H5 := Past_yes (d := t) (n := t + m + n) (by omega)
  have H6 := Past_yes (d := t + m) (n := t + m + n) (by omega)
  rcases Int.lt_or_le 0 n with k3 | k3
  · have H7 := Past_no (d := t + m + n) (n := t + m) (by omega)
    have b1 : (n == 0) = false := by rw [beq_eq_false_iff_ne]; omega
    go_enter Try.func8, Try.ntmps8
    go_wp2_with (first | (go_at_call 9; (first | (with_reducible refine (lives_any.go _).mono ?_)); rintro e w' ⟨rfl, rfl⟩) | (go_at_call 10; (first | (with_reducible refine (H1.go _).mono ?_) | (with_reducible refine (H2.go _).mono ?_) | (with_reducible refine (H3.go _).mono ?_)); rintro e w' ⟨rfl, rfl⟩) | (go_at_call 11; (first | (with_reducible refine (H4.go _).mono ?_)); rintro e w' ⟨rfl, rfl⟩) | (go_at_call 14; (first | (with_reducible refine (H5.go _).mono ?_) | (with_reducible refine (H6.go _).mono ?_) | (with_reducible refine (H7.go _).mono ?_)); rintro e w' ⟨rfl, rfl⟩))
    go_ret
    exact ⟨rfl, rfl⟩
  · have H7 := Past_yes (d := t + m + n) (n := t + m) (by omega)
    have b1 : (n == 0) = true := by rw [beq_iff_eq]; omega
    go_enter Try.func8, Try.ntmps8
    go_wp2_with (first | (go_at_call 9; (first | (with_reducible refine (lives_any.go _).mono ?_)); rintro e w' ⟨rfl, rfl⟩) | (go_at_call 10; (first | (with_reducible refine (H1.go _).mono ?_) | (with_reducible refine (H2.go _).mono ?_) | (with_reducible refine (H3.go _).mono ?_)); rintro e w' ⟨rfl, rfl⟩) | (go_at_call 11; (first | (with_reducible refine (H4.go _).mono ?_)); rintro e w' ⟨rfl, rfl⟩) | (go_at_call 14; (first | (with_reducible refine (H5.go _).mono ?_) | (with_reducible refine (H6.go _).mono ?_) | (with_reducible refine (H7.go _).mono ?_)); rintro e w' ⟨rfl, rfl⟩))
    go_ret
    exact ⟨rfl, rfl⟩

theorem wf32 {a : Int} (h : (Lit.int .u32 a).wf = true) : 0 ≤ a ∧ a ≤ 4294967295 := by
  simp only [Lit.wf, Bool.and_eq_true, decide_eq_true_eq] at h
  have h1 : IntKind.u32.min = 0 := by decide
  have h2 : IntKind.u32.max = 4294967295 := by decide
  omega
theorem ClockClamps_walk (ttl lo hi : Int) (_h1 : (Lit.int .u32 ttl).wf = true) (_h2 : (Lit.int .u32 lo).wf = true) (_h3 : (Lit.int .u32 hi).wf = true) (w : World) :
    Calls Try.prog 6 #[.int .u32 ttl, .int .u32 lo, .int .u32 hi] w fun e w' => e = .returned (.bool true) ∧ Below w.heap.size w w' :=
  (clamps_core ttl lo hi w).mono fun _ _ ⟨a, b⟩ => ⟨a, b ▸ Below.refl _ _⟩
theorem ClockAdds_walk (t m n : Int) (_h1 : (Lit.int .i64 t).wf = true) (_h2 : (Lit.int .i64 m).wf = true) (_h3 : (Lit.int .i64 n).wf = true) (w : World) :
    Calls Try.prog 8 #[.int .i64 t, .int .i64 m, .int .i64 n] w fun e w' => e = .returned (.bool true) ∧ Below w.heap.size w w' :=
  (adds_core t m n w).mono fun _ _ ⟨a, b⟩ => ⟨a, b ▸ Below.refl _ _⟩

set_option maxHeartbeats 1000000 in
theorem falls_core (from' ttl age : Int) (h2 : 0 ≤ ttl ∧ ttl ≤ 4294967295) (w : World) :
    Calls Try.prog 5 #[.int .i64 from', .int .u32 ttl, .int .i64 age] w fun e w' => e = .returned (.bool true) ∧ w = w' := by
  by_cases hb : tickB from' = false ∨ age < 0
  · have H1 := Add_no hb
    clear hb
    go_enter Try.func5, Try.ntmps5
    go_wp2_with (first | (go_at_call 9; (first | (with_reducible refine (lives_any.go _).mono ?_)); rintro e w' ⟨rfl, rfl⟩) | (go_at_call 10; (first | (with_reducible refine (H1.go _).mono ?_)); rintro e w' ⟨rfl, rfl⟩))
    go_ret
    exact ⟨rfl, rfl⟩
  have ht : tickB from' = true := by rcases hc : tickB from' with _ | _ <;> simp_all
  have h0 : 0 ≤ age := by have := fun x => hb (Or.inr x); omega
  obtain ⟨t0, t1⟩ := tick_of ht
  clear hb ht
  obtain ⟨l0, l1⟩ := h2
  rcases Int.lt_or_le (1099511627776 - from') age with k1 | k1
  · have H1 := Add_long t0 t1 h0 k1
    go_enter Try.func5, Try.ntmps5
    go_wp2_with (first | (go_at_call 9; (first | (with_reducible refine (lives_any.go _).mono ?_)); rintro e w' ⟨rfl, rfl⟩) | (go_at_call 10; (first | (with_reducible refine (H1.go _).mono ?_)); rintro e w' ⟨rfl, rfl⟩))
    go_ret
    exact ⟨rfl, rfl⟩
  have H1 := Add_yes t0 t1 h0 k1
  obtain ⟨now, hnow⟩ : ∃ now, now = from' + age := ⟨_, rfl⟩
  rw [← hnow] at H1
  have n0 : from' ≤ now := by omega
  have n1 : now ≤ 1099511627776 := by omega
  have hd : now - from' = age := by omega
  rcases Int.lt_or_le now 1099511627776 with k2 | k2
  · have H2 : Tells 11 #[.int .i64 from', .int .i64 now] (.tuple #[.int .i64 age, .int .i64 0]) := by have := Age_yes t0 n0 n1; rw [hd] at this; exact this
    have H5 := Past_yes n0
    rcases Int.lt_or_le age ttl with k3 | k3
    · have H3 : Tells 12 #[.int .u32 ttl, .int .i64 from', .int .i64 now] (.tuple #[.int .u32 (ttl - age), .bool true]) := by have := Left_yes l0 l1 t0 n0 n1 (by omega); rw [hd] at this; exact this
      rcases Int.lt_or_le (age + 1) ttl with k4 | k4
      · have H4 : Tells 12 #[.int .u32 ttl, .int .i64 from', .int .i64 (now + 1)] (.tuple #[.int .u32 (ttl - age - 1), .bool true]) := by have := Left_yes (n := now + 1) l0 l1 t0 (by omega) (by omega) (by omega); rw [show ttl - (now + 1 - from') = ttl - age - 1 by omega] at this; exact this
        have q1 : 1 < ttl - age := by omega
        have q2 : ttl - age ≤ 4294967295 := by omega
        clear hnow hd
        go_enter Try.func5, Try.ntmps5
        go_wp2_with (first | (go_at_call 9; (first | (with_reducible refine (lives_any.go _).mono ?_)); rintro e w' ⟨rfl, rfl⟩) | (go_at_call 10; (first | (with_reducible refine (H1.go _).mono ?_)); rintro e w' ⟨rfl, rfl⟩) | (go_at_call 11; (first | (with_reducible refine (H2.go _).mono ?_)); rintro e w' ⟨rfl, rfl⟩) | (go_at_call 12; (first | (with_reducible refine (H3.go _).mono ?_) | (with_reducible refine (H4.go _).mono ?_)); rintro e w' ⟨rfl, rfl⟩) | (go_at_call 14; (first | (with_reducible refine (H5.go _).mono ?_)); rintro e w' ⟨rfl, rfl⟩))
        go_ret
        exact ⟨rfl, rfl⟩
      · have H4 : Tells 12 #[.int .u32 ttl, .int .i64 from', .int .i64 (now + 1)] (.tuple #[.int .u32 0, .bool false]) := Left_no (n := now + 1) l0 l1 (Or.inr (Or.inr (Or.inr (by omega))))
        have q1 : decide (1 < ttl - age) = false := decide_eq_false (by omega)
        have q2 : ttl - age ≤ 4294967295 := by omega
        clear hnow hd
        go_enter Try.func5, Try.ntmps5
        go_wp2_with (first | (go_at_call 9; (first | (with_reducible refine (lives_any.go _).mono ?_)); rintro e w' ⟨rfl, rfl⟩) | (go_at_call 10; (first | (with_reducible refine (H1.go _).mono ?_)); rintro e w' ⟨rfl, rfl⟩) | (go_at_call 11; (first | (with_reducible refine (H2.go _).mono ?_)); rintro e w' ⟨rfl, rfl⟩) | (go_at_call 12; (first | (with_reducible refine (H3.go _).mono ?_) | (with_reducible refine (H4.go _).mono ?_)); rintro e w' ⟨rfl, rfl⟩) | (go_at_call 14; (first | (with_reducible refine (H5.go _).mono ?_)); rintro e w' ⟨rfl, rfl⟩))
        go_ret
        exact ⟨rfl, rfl⟩
    · have H3 : Tells 12 #[.int .u32 ttl, .int .i64 from', .int .i64 now] (.tuple #[.int .u32 0, .bool false]) := Left_no l0 l1 (Or.inr (Or.inr (Or.inr (by omega))))
      have H4 : Tells 12 #[.int .u32 ttl, .int .i64 from', .int .i64 (now + 1)] (.tuple #[.int .u32 0, .bool false]) := Left_no (n := now + 1) l0 l1 (Or.inr (Or.inr (Or.inr (by omega))))
      clear hnow hd
      go_enter Try.func5, Try.ntmps5
      go_wp2_with (first | (go_at_call 9; (first | (with_reducible refine (lives_any.go _).mono ?_)); rintro e w' ⟨rfl, rfl⟩) | (go_at_call 10; (first | (with_reducible refine (H1.go _).mono ?_)); rintro e w' ⟨rfl, rfl⟩) | (go_at_call 11; (first | (with_reducible refine (H2.go _).mono ?_)); rintro e w' ⟨rfl, rfl⟩) | (go_at_call 12; (first | (with_reducible refine (H3.go _).mono ?_) | (with_reducible refine (H4.go _).mono ?_)); rintro e w' ⟨rfl, rfl⟩) | (go_at_call 14; (first | (with_reducible refine (H5.go _).mono ?_)); rintro e w' ⟨rfl, rfl⟩))
      go_ret
      exact ⟨rfl, rfl⟩
  · have b1 : (now == 1099511627776) = true := by rw [beq_iff_eq]; omega
    clear hnow hd
    go_enter Try.func5, Try.ntmps5
    go_wp2_with (first | (go_at_call 9; (first | (with_reducible refine (lives_any.go _).mono ?_)); rintro e w' ⟨rfl, rfl⟩) | (go_at_call 10; (first | (with_reducible refine (H1.go _).mono ?_)); rintro e w' ⟨rfl, rfl⟩))
    go_ret
    exact ⟨rfl, rfl⟩
theorem ClockFalls_walk (a ttl n : Int) (_h1 : (Lit.int .i64 a).wf = true) (h2 : (Lit.int .u32 ttl).wf = true) (_h3 : (Lit.int .i64 n).wf = true) (w : World) :
    Calls Try.prog 5 #[.int .i64 a, .int .u32 ttl, .int .i64 n] w fun e w' => e = .returned (.bool true) ∧ Below w.heap.size w w' :=
  (falls_core a ttl n (wf32 h2) w).mono fun _ _ ⟨a, b⟩ => ⟨a, b ▸ Below.refl _ _⟩
end Go.Proofs.Ytfpckikcflddjaa
