/-
  clock: bounds, ticks, ages: the walks. Condition: the numbers fit their kinds.
-/
import Derived.Test.YtfpckikcflddjaaProg
import Derived.WalkKit
import Derived.WalkSpells
import Derived.WalkLawsBesides
import Derived.Lib.Hide
import Derived.Handy
namespace Go.Proofs.Ytfpckikcflddjaa
open Go.RowKit

theorem ret_int {k : IntKind} {a b : Int} (h : a = b) : Ending.returned (.int k a) = .returned (.int k b) := by rw [h]
theorem bound64 (v lo hi : Int) (w : World) : Calls Try.prog 26 #[.int .i64 v, .int .i64 lo, .int .i64 hi] w fun e w' => e = .returned (.int .i64 (min (max v lo) hi)) ∧ w = w' := by
  rcases Int.lt_or_le v lo with h1 | h1
  · rcases Int.lt_or_le hi lo with h2 | h2
    all_goals
      go_enter Try.func26, Try.ntmps26
      go_wp2
      go_ret
      exact ⟨ret_int (by omega), rfl⟩
  · rcases Int.lt_or_le hi v with h2 | h2
    all_goals
      go_enter Try.func26, Try.ntmps26
      go_wp2
      go_ret
      exact ⟨ret_int (by omega), rfl⟩
theorem bound32 (v lo hi : Int) (w : World) : Calls Try.prog 25 #[.int .u32 v, .int .u32 lo, .int .u32 hi] w fun e w' => e = .returned (.int .u32 (min (max v lo) hi)) ∧ w = w' := by
  rcases Int.lt_or_le v lo with h1 | h1
  · rcases Int.lt_or_le hi lo with h2 | h2
    all_goals
      go_enter Try.func25, Try.ntmps25
      go_wp2
      go_ret
      exact ⟨ret_int (by omega), rfl⟩
  · rcases Int.lt_or_le hi v with h2 | h2
    all_goals
      go_enter Try.func25, Try.ntmps25
      go_wp2
      go_ret
      exact ⟨ret_int (by omega), rfl⟩

/-- Whether a number is a tick. -/
def tickB (t : Int) : Bool := decide (0 ≤ t ∧ t ≤ 1099511627776)
theorem tick_yes {t : Int} (h0 : 0 ≤ t) (h1 : t ≤ 1099511627776) : tickB t = true := decide_eq_true ⟨h0, h1⟩
theorem tick_no {t : Int} (h : t < 0 ∨ 1099511627776 < t) : tickB t = false := decide_eq_false (by omega)
theorem tick_of {t : Int} (h : tickB t = true) : 0 ≤ t ∧ t ≤ 1099511627776 := of_decide_eq_true h
theorem tick_not {t : Int} (h : tickB t = false) : t < 0 ∨ 1099511627776 < t := by have := of_decide_eq_false h; omega
theorem isTick_any (t : Int) (w : World) : Calls Try.prog 24 #[.int .i64 t] w fun e w' => e = .returned (.bool (tickB t)) ∧ w = w' := by
  have hx : (min (max t 0) 1099511627776 == t) = tickB t := by unfold tickB; rw [Bool.eq_iff_iff]; simp; omega
  have HX := Lib.hid hx
  clear hx
  go_enter Try.func24, Try.ntmps24
  go_wp2_with (go_at_call 26; refine (bound64 _ _ _ _).mono ?_; rintro e w' ⟨rfl, rfl⟩)
  go_ret
  exact ⟨congrArg (fun b => Ending.returned (.bool b)) HX.out, rfl⟩

/-- A call that hands back v, and leaves the memory as it is. -/
def Tells (f : FuncId) (args : Array Value) (v : Value) : Prop := ∀ w : World, Calls Try.prog f args w fun e w' => e = .returned v ∧ w = w'
theorem Tells.go {f : FuncId} {args : Array Value} {v : Value} (h : Tells f args v) (w : World) : Calls Try.prog f args w fun e w' => e = .returned v ∧ w = w' := h w

theorem tick_t {t : Int} (h : tickB t = true) : Tells 24 #[.int .i64 t] (.bool true) := fun w => by have := isTick_any t w; rw [h] at this; exact this
theorem tick_f {t : Int} (h : tickB t = false) : Tells 24 #[.int .i64 t] (.bool false) := fun w => by have := isTick_any t w; rw [h] at this; exact this

theorem Check_no {t : Int} (h : tickB t = false) : Tells 15 #[.int .i64 t] (.int .i64 2) := fun w => by
  have H1 := tick_f h
  clear h
  go_enter Try.func15, Try.ntmps15
  go_wp2_with (go_at_call 24; (with_reducible refine (H1.go _).mono ?_); rintro e w' ⟨rfl, rfl⟩)
  go_ret
  exact ⟨rfl, rfl⟩
theorem Check_yes {t : Int} (h : tickB t = true) : Tells 15 #[.int .i64 t] (.int .i64 0) := fun w => by
  have H1 := tick_t h
  clear h
  go_enter Try.func15, Try.ntmps15
  go_wp2_with (go_at_call 24; (with_reducible refine (H1.go _).mono ?_); rintro e w' ⟨rfl, rfl⟩)
  go_ret
  exact ⟨rfl, rfl⟩

theorem Add_no {t n : Int} (h : tickB t = false ∨ n < 0) : Tells 10 #[.int .i64 t, .int .i64 n] (.tuple #[.int .i64 0, .int .i64 2]) := fun w => by
  rcases hb : tickB t with _ | _
  · have H1 := tick_f hb
    clear h hb
    go_enter Try.func10, Try.ntmps10
    go_wp2_with (go_at_call 24; (with_reducible refine (H1.go _).mono ?_); rintro e w' ⟨rfl, rfl⟩)
    go_ret2
    exact ⟨rfl, rfl⟩
  · have hn : n < 0 := by
      rcases h with h | h
      · rw [hb] at h; cases h
      · exact h
    have H1 := tick_t hb
    clear h hb
    go_enter Try.func10, Try.ntmps10
    go_wp2_with (go_at_call 24; (with_reducible refine (H1.go _).mono ?_); rintro e w' ⟨rfl, rfl⟩)
    go_ret2
    exact ⟨rfl, rfl⟩
theorem Add_long {t n : Int} (h0 : 0 ≤ t) (h1 : t ≤ 1099511627776) (h2 : 0 ≤ n) (h3 : 1099511627776 - t < n) : Tells 10 #[.int .i64 t, .int .i64 n] (.tuple #[.int .i64 0, .int .i64 3]) := fun w => by
  have H1 := tick_t (tick_yes h0 h1)
  go_enter Try.func10, Try.ntmps10
  go_wp2_with (go_at_call 24; (with_reducible refine (H1.go _).mono ?_); rintro e w' ⟨rfl, rfl⟩)
  go_ret2
  exact ⟨rfl, rfl⟩
theorem Add_yes {t n : Int} (h0 : 0 ≤ t) (h1 : t ≤ 1099511627776) (h2 : 0 ≤ n) (h3 : n ≤ 1099511627776 - t) : Tells 10 #[.int .i64 t, .int .i64 n] (.tuple #[.int .i64 (t + n), .int .i64 0]) := fun w => by
  have H1 := tick_t (tick_yes h0 h1)
  go_enter Try.func10, Try.ntmps10
  go_wp2_with (go_at_call 24; (with_reducible refine (H1.go _).mono ?_); rintro e w' ⟨rfl, rfl⟩)
  go_ret2
  exact ⟨rfl, rfl⟩

theorem Age_no {t n : Int} (h : tickB t = false ∨ tickB n = false ∨ n < t) : Tells 11 #[.int .i64 t, .int .i64 n] (.tuple #[.int .i64 0, .int .i64 2]) := fun w => by
  rcases hb : tickB t with _ | _
  · have H1 := tick_f hb
    clear h hb
    go_enter Try.func11, Try.ntmps11
    go_wp2_with (go_at_call 24; (first | (with_reducible refine (H1.go _).mono ?_)); rintro e w' ⟨rfl, rfl⟩)
    go_ret2
    exact ⟨rfl, rfl⟩
  · rcases hc : tickB n with _ | _
    · have H1 := tick_t hb
      have H2 := tick_f hc
      clear h hb hc
      go_enter Try.func11, Try.ntmps11
      go_wp2_with (go_at_call 24; (first | (with_reducible refine (H1.go _).mono ?_) | (with_reducible refine (H2.go _).mono ?_)); rintro e w' ⟨rfl, rfl⟩)
      go_ret2
      exact ⟨rfl, rfl⟩
    · have hn : n < t := by
        rcases h with h | h | h
        · rw [hb] at h; cases h
        · rw [hc] at h; cases h
        · exact h
      have H1 := tick_t hb
      have H2 := tick_t hc
      clear h hb hc
      go_enter Try.func11, Try.ntmps11
      go_wp2_with (go_at_call 24; (first | (with_reducible refine (H1.go _).mono ?_) | (with_reducible refine (H2.go _).mono ?_)); rintro e w' ⟨rfl, rfl⟩)
      go_ret2
      exact ⟨rfl, rfl⟩
theorem Age_yes {t n : Int} (h0 : 0 ≤ t) (h1 : t ≤ n) (h2 : n ≤ 1099511627776) : Tells 11 #[.int .i64 t, .int .i64 n] (.tuple #[.int .i64 (n - t), .int .i64 0]) := fun w => by
  have H1 := tick_t (tick_yes h0 (by omega))
  have H2 := tick_t (tick_yes (t := n) (by omega) h2)
  go_enter Try.func11, Try.ntmps11
  go_wp2_with (go_at_call 24; (first | (with_reducible refine (H1.go _).mono ?_) | (with_reducible refine (H2.go _).mono ?_)); rintro e w' ⟨rfl, rfl⟩)
  go_ret2
  exact ⟨rfl, rfl⟩

theorem Left_no {ttl t n : Int} (hl0 : 0 ≤ ttl) (hl1 : ttl ≤ 4294967295) (h : tickB t = false ∨ tickB n = false ∨ n < t ∨ ttl ≤ n - t) : Tells 12 #[.int .u32 ttl, .int .i64 t, .int .i64 n] (.tuple #[.int .u32 0, .bool false]) := fun w => by
  by_cases hb : tickB t = false ∨ tickB n = false ∨ n < t
  · have H1 := Age_no hb
    clear h hb
    go_enter Try.func12, Try.ntmps12
    go_wp2_with (go_at_call 11; (with_reducible refine (H1.go _).mono ?_); rintro e w' ⟨rfl, rfl⟩)
    go_ret2
    exact ⟨rfl, rfl⟩
  · have ht : tickB t = true := by rcases hc : tickB t with _ | _ <;> simp_all
    have hn : tickB n = true := by rcases hc : tickB n with _ | _ <;> simp_all
    have h1 := tick_of ht
    have h2 := tick_of hn
    have h3 : ttl ≤ n - t := by
      rcases h with h | h | h | h
      · rw [ht] at h; cases h
      · rw [hn] at h; cases h
      · exact absurd (Or.inr (Or.inr h)) hb
      · exact h
    have h4 : t ≤ n := by omega
    have H1 := Age_yes h1.1 h4 h2.2
    clear h hb ht hn
    go_enter Try.func12, Try.ntmps12
    go_wp2_with (go_at_call 11; (with_reducible refine (H1.go _).mono ?_); rintro e w' ⟨rfl, rfl⟩)
    go_ret2
    exact ⟨rfl, rfl⟩
theorem Left_yes {ttl t n : Int} (hl0 : 0 ≤ ttl) (hl1 : ttl ≤ 4294967295) (h0 : 0 ≤ t) (h1 : t ≤ n) (h2 : n ≤ 1099511627776) (h3 : n - t < ttl) : Tells 12 #[.int .u32 ttl, .int .i64 t, .int .i64 n] (.tuple #[.int .u32 (ttl - (n - t)), .bool true]) := fun w => by
  have H1 := Age_yes h0 h1 h2
  have h4 : ¬ ttl ≤ n - t := by omega
  have h5 : 0 ≤ n - t := by omega
  have h6 : n - t ≤ 4294967295 := by omega
  go_enter Try.func12, Try.ntmps12
  go_wp2_with (go_at_call 11; (with_reducible refine (H1.go _).mono ?_); rintro e w' ⟨rfl, rfl⟩)
  go_ret2
  exact ⟨rfl, rfl⟩

/-- The TTL, but at least low, then at most high. -/
def clampI (v lo hi : Int) : Int := min (max v lo) hi
theorem Clamp_any (v lo hi : Int) : Tells 16 #[.int .u32 v, .int .u32 lo, .int .u32 hi] (.int .u32 (clampI v lo hi)) := fun w => by
  have H1 : Tells 25 #[.int .u32 v, .int .u32 lo, .int .u32 hi] (.int .u32 (clampI v lo hi)) := fun w => bound32 v lo hi w
  go_enter Try.func16, Try.ntmps16
  go_wp2_with (go_at_call 25; (with_reducible refine (H1.go _).mono ?_); rintro e w' ⟨rfl, rfl⟩)
  go_ret
  exact ⟨rfl, rfl⟩
/-- Whether n is at d or behind it. -/
def pastB (d n : Int) : Bool := decide (d ≤ n)
theorem past_yes {d n : Int} (h : d ≤ n) : pastB d n = true := decide_eq_true h
theorem past_no {d n : Int} (h : n < d) : pastB d n = false := decide_eq_false (by omega)
theorem Past_any (d n : Int) : Tells 14 #[.int .i64 d, .int .i64 n] (.bool (pastB d n)) := fun w => by
  go_enter Try.func14, Try.ntmps14
  go_wp2
  go_ret
  exact ⟨rfl, rfl⟩
theorem Past_yes {d n : Int} (h : d ≤ n) : Tells 14 #[.int .i64 d, .int .i64 n] (.bool true) := by have := Past_any d n; rw [past_yes h] at this; exact this
theorem Past_no {d n : Int} (h : n < d) : Tells 14 #[.int .i64 d, .int .i64 n] (.bool false) := by have := Past_any d n; rw [past_no h] at this; exact this
end Go.Proofs.Ytfpckikcflddjaa
