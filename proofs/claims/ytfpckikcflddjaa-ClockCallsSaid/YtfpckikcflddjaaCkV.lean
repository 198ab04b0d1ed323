/-
  The clock's laws over a row of numbers, and the chapter's examples: the walks. Condition: the numbers fit their kinds, the row is no longer than Go's own limit.
-/
import Derived.Test.YtfpckikcflddjaaCkW
namespace Go.Proofs.Ytfpckikcflddjaa
open Go.RowKit

theorem below_dN (w : World) (n : Nat) : Below w.heap.size w (w.drewN n) := ⟨rfl, rfl, rfl, Nat.le_refl _, fun _ _ => rfl⟩

def CFRel (w : World) (L : List Int) (b : Value) (wr : World) : Prop := ∃ k : Nat, k ≤ L.length ∧ b = .int .i64 k ∧ ∃ n, wr = w.drewN n
set_option maxHeartbeats 1000000 in
theorem ClockFirst_walk (v0 : Value) (w : World) (L : List Int) (hrow : IRow w v0 L) :
    Calls Try.prog 7 #[v0] w fun e w' => e = .returned (.bool true) ∧ Below w.heap.size w w' := by
  obtain ⟨p, b, hz, hp, hF⟩ := first_any L
  have hF1 := (hF v0 w hrow).1
  clear hF
  obtain ⟨A, cap, rfl, hlc, hcm, hcell⟩ := hrow
  unfold maxLen at hcm
  rcases Nat.lt_or_ge 300 L.length with hl | hl
  · clear hz hp hF1 hcell
    go_enter Try.func7, Try.ntmps7
    go_wp2_with (go_at_call 9; (first | (with_reducible refine (lives_any.go _).mono ?_)); rintro e w' ⟨rfl, rfl⟩)
    go_ret
    exact ⟨rfl, Below.refl _ _⟩
  by_cases h0 : L.length = 0
  · obtain ⟨rfl, rfl⟩ := hz h0
    rw [h0] at hF1
    rw [h0]
    clear hp hcell hz hl hlc
    have HF := Lib.hid hF1
    clear hF1 h0
    go_enter Try.func7, Try.ntmps7
    go_wp2_with (first | (go_at_call 9; (first | (with_reducible refine (lives_any.go _).mono ?_)); rintro e w' ⟨rfl, rfl⟩) | (go_at_call 13; (with_reducible refine HF.out.mono ?_); rintro e w' ⟨rfl, n, hn⟩; subst hn))
    go_ret
    exact ⟨rfl, below_dN _ _⟩
  obtain ⟨hP, rfl⟩ := hp (by omega)
  obtain ⟨g, o, rfl, hg, _⟩ := hcell 0 (by omega)
  have HC : Hid (∀ j, j < L.length → w.cell? ⟨g, o + j, none⟩ = some (.int .i64 (nth L j))) := fun j hj => by
    obtain ⟨g', o', e, _, hx⟩ := hcell j hj
    cases e
    exact hx
  clear hcell hz hp
  have h1 : 0 < L.length := by omega
  clear h0
  have HF := Lib.hid hF1
  have HP := Lib.hid hP
  have hpl : p < L.length := hP.1
  clear hF1 hP
  go_enter Try.func7, Try.ntmps7
  go_wp2_with (first | (go_at_call 9; (first | (with_reducible refine (lives_any.go _).mono ?_)); rintro e w' ⟨rfl, rfl⟩) | (go_at_call 13; (with_reducible refine HF.out.mono ?_); rintro e w' ⟨rfl, n, hn⟩; subst hn))
  go_loopw [5] (fun b wr => CFRel w L b wr) (fun b _ => L.length - (intOf b).toNat)
  case atStart => exact ⟨0, Nat.zero_le _, rfl, _, rfl⟩
  case round =>
    obtain ⟨k, hk, rfl, m, hm⟩ := hrel
    rcases Nat.lt_or_ge k L.length with hlt | hge
    · have hck : wr.cell? ⟨g, o + k, none⟩ = some (.int .i64 (nth L k)) := by rw [hm]; exact HC.out k hlt
      have hcp : wr.cell? ⟨g, o + p, none⟩ = some (.int .i64 (nth L p)) := by rw [hm]; exact HC.out p hpl
      have HM := Lib.hid hm
      clear hm
      have hle := HP.out.2.1 k hlt hlt
      have hst : k < p → nth L p < nth L k := HP.out.2.2 k
      have HPP := HP
      clear HP
      rcases Nat.lt_or_ge k p with hkp | hkp
      · have hs := hst hkp
        have HP := Past_no hs
        have b0 : decide (nth L k < nth L p) = false := decide_eq_false (by omega)
        have bb : (nth L k == nth L p) = false := by rw [beq_eq_false_iff_ne]; omega
        clear hst
        go_wp2
        go_quiet ((go_at_call 14; exact Calls.quiet_of_same ((HP.go _).mono fun _ _ h => ⟨h.1, h.2.symm⟩)))
        go_wp2
        go_roundw
        case rel => exact ⟨k + 1, by omega, by go_num, _, by rw [HM.out, World.drewN_drewN]⟩
        case measure => simp [intOf]; omega
      · clear hst
        rcases Int.lt_or_le (nth L p) (nth L k) with hs | hs
        · have HP := Past_no hs
          have b2 : decide (k < p) = false := decide_eq_false (by omega)
          have b0 : decide (nth L k < nth L p) = false := decide_eq_false (by omega)
          have bb : (nth L k == nth L p) = false := by rw [beq_eq_false_iff_ne]; omega
          go_wp2
          go_quiet ((go_at_call 14; exact Calls.quiet_of_same ((HP.go _).mono fun _ _ h => ⟨h.1, h.2.symm⟩)))
          go_wp2
          go_roundw
          case rel => exact ⟨k + 1, by omega, by go_num, _, by rw [HM.out, World.drewN_drewN]⟩
          case measure => simp [intOf]; omega
        · have HP := Past_yes hs
          have b2 : decide (k < p) = false := decide_eq_false (by omega)
          have b0 : decide (nth L k < nth L p) = false := decide_eq_false (by omega)
          have bb : (nth L k == nth L p) = true := by rw [beq_iff_eq]; omega
          go_wp2
          go_quiet ((go_at_call 14; exact Calls.quiet_of_same ((HP.go _).mono fun _ _ h => ⟨h.1, h.2.symm⟩)))
          go_wp2
          go_roundw
          case rel => exact ⟨k + 1, by omega, by go_num, _, by rw [HM.out, World.drewN_drewN]⟩
          case measure => simp [intOf]; omega
    · obtain rfl : k = L.length := by omega
      subst hm
      go_wp2
      go_ret
      exact ⟨rfl, below_dN _ _⟩

set_option maxHeartbeats 1000000 in
theorem calls_core (t n ttl lo hi : Int) (v0 : Value) (h3 : 0 ≤ ttl ∧ ttl ≤ 4294967295) (w : World) (L : List Int) (hrow : IRow w v0 L) :
    Calls Try.prog 4 #[.int .i64 t, .int .i64 n, .int .u32 ttl, .int .u32 lo, .int .u32 hi, v0] w fun e w' => e = .returned (.bool true) ∧ Below w.heap.size w w' := by
  obtain ⟨a1, e1, HA1, HA2⟩ := both_add t n
  obtain ⟨a2, e2, HG1, HG2⟩ := both_age t n
  obtain ⟨a3, b3, HL1, HL2⟩ := both_left ttl t n h3.1 h3.2
  obtain ⟨e4, HC1, HC2⟩ := both_check t
  have HX1 := Clamp_any ttl lo hi
  have HX2 := rClamp_any ttl lo hi
  have HP1 := Past_any t n
  have HP2 := rPast_any t n
  obtain ⟨x5, hx5⟩ : ∃ x, x = clampI ttl lo hi := ⟨_, rfl⟩
  rw [← hx5] at HX1 HX2
  obtain ⟨b6, hb6⟩ : ∃ x, x = pastB t n := ⟨_, rfl⟩
  rw [← hb6] at HP1 HP2
  clear hx5 hb6 h3
  obtain ⟨p, b, _, _, hF⟩ := first_any L
  have HF1 := Lib.hid (hF v0 w hrow).1
  have HF2 : Hid (∀ m, Calls Try.prog 20 #[v0] (w.drewN m) fun e w' => e = .returned (.tuple #[.int .i64 p, .bool b]) ∧ ∃ n, w' = (w.drewN m).drewN n) := fun m => (hF v0 (w.drewN m) (hrow.drew m)).2
  clear hF
  obtain ⟨A, cap, rfl, hlc, hcm, hcell⟩ := hrow
  clear hcell
  unfold maxLen at hcm
  rcases Nat.lt_or_ge 300 L.length with hl | hl
  · go_enter Try.func4, Try.ntmps4
    go_wp2_with (go_at_call 9; (first | (with_reducible refine (lives_any.go _).mono ?_)); rintro e w' ⟨rfl, rfl⟩)
    go_ret
    exact ⟨rfl, Below.refl _ _⟩
  go_enter Try.func4, Try.ntmps4
  go_wp2_with (first | (go_at_call 9; (first | (with_reducible refine (lives_any.go _).mono ?_)); rintro e w' ⟨rfl, rfl⟩) | (go_at_call 10; (first | (with_reducible refine (HA1.go _).mono ?_)); rintro e w' ⟨rfl, rfl⟩) | (go_at_call 17; (first | (with_reducible refine (HA2.go _).mono ?_)); rintro e w' ⟨rfl, rfl⟩) | (go_at_call 11; (first | (with_reducible refine (HG1.go _).mono ?_)); rintro e w' ⟨rfl, rfl⟩) | (go_at_call 18; (first | (with_reducible refine (HG2.go _).mono ?_)); rintro e w' ⟨rfl, rfl⟩) | (go_at_call 12; (first | (with_reducible refine (HL1.go _).mono ?_)); rintro e w' ⟨rfl, rfl⟩) | (go_at_call 19; (first | (with_reducible refine (HL2.go _).mono ?_)); rintro e w' ⟨rfl, rfl⟩) | (go_at_call 15; (first | (with_reducible refine (HC1.go _).mono ?_)); rintro e w' ⟨rfl, rfl⟩) | (go_at_call 21; (first | (with_reducible refine (HC2.go _).mono ?_)); rintro e w' ⟨rfl, rfl⟩) | (go_at_call 16; (first | (with_reducible refine (HX1.go _).mono ?_)); rintro e w' ⟨rfl, rfl⟩) | (go_at_call 22; (first | (with_reducible refine (HX2.go _).mono ?_)); rintro e w' ⟨rfl, rfl⟩) | (go_at_call 14; (first | (with_reducible refine (HP1.go _).mono ?_)); rintro e w' ⟨rfl, rfl⟩) | (go_at_call 23; (first | (with_reducible refine (HP2.go _).mono ?_)); rintro e w' ⟨rfl, rfl⟩) | (go_at_call 13; (with_reducible refine HF1.out.mono ?_); rintro e w' ⟨rfl, m, hm⟩; subst hm) | (go_at_call 20; (with_reducible refine (HF2.out _).mono ?_); rintro e w' ⟨rfl, m2, hm⟩; subst hm))
  go_ret
  exact ⟨rfl, ⟨rfl, rfl, rfl, Nat.le_refl _, fun _ _ => rfl⟩⟩
theorem ClockCalls_walk (t n ttl lo hi : Int) (v0 : Value) (_h1 : (Lit.int .i64 t).wf = true) (_h2 : (Lit.int .i64 n).wf = true) (h3 : (Lit.int .u32 ttl).wf = true) (_h4 : (Lit.int .u32 lo).wf = true) (_h5 : (Lit.int .u32 hi).wf = true) (w : World) (L : List Int) (hrow : IRow w v0 L) :
    Calls Try.prog 4 #[.int .i64 t, .int .i64 n, .int .u32 ttl, .int .u32 lo, .int .u32 hi, v0] w fun e w' => e = .returned (.bool true) ∧ Below w.heap.size w w' :=
  calls_core t n ttl lo hi v0 (wf32 h3) w L hrow

theorem first_lit (g : Nat) (w : World) (hc : w.cell? ⟨g, 0, none⟩ = some (.int .i64 3) ∧ w.cell? ⟨g, 1, none⟩ = some (.int .i64 1) ∧ w.cell? ⟨g, 2, none⟩ = some (.int .i64 2) ∧ w.cell? ⟨g, 3, none⟩ = some (.int .i64 1)) :
    Calls Try.prog 13 #[.slice (some ⟨g, 0, none⟩) 4 4] w fun e w' => e = .returned (.tuple #[.int .i64 1, .bool true]) ∧ ∃ n, w' = w.drewN n := by
  obtain ⟨h0, h1, h2, h3⟩ := hc
  refine (first_some [3, 1, 2, 1] g 0 4 w (by decide) (by decide) (by decide) ?_).mono ?_
  · intro j hj
    match j, hj with
    | 0, _ => exact h0
    | 1, _ => exact h1
    | 2, _ => exact h2
    | 3, _ => exact h3
    | n + 4, hj => simp at hj; omega
  · rintro e w' ⟨p, hp, rfl, hn⟩
    have : Least [3, 1, 2, 1] [3, 1, 2, 1].length 1 := by
      refine ⟨by decide, ?_, ?_⟩ <;> decide +kernel
    obtain rfl := Least.one hp this
    exact ⟨rfl, hn⟩
set_option maxRecDepth 100000 in
set_option maxHeartbeats 1000000 in
theorem ClockNames_walk (w : World) : Calls Try.prog 3 #[] w fun e w' => e = .returned (.bool true) ∧ Below w.heap.size w w' := by
  have A1 : Tells 10 #[.int .i64 1099511627775, .int .i64 1] (.tuple #[.int .i64 1099511627776, .int .i64 0]) := Add_yes (t := 1099511627775) (n := 1) (by omega) (by omega) (by omega) (by omega)
  have A2 : Tells 10 #[.int .i64 1099511627776, .int .i64 1] (.tuple #[.int .i64 0, .int .i64 3]) := Add_long (t := 1099511627776) (n := 1) (by omega) (by omega) (by omega) (by omega)
  have A3 : Tells 10 #[.int .i64 0, .int .i64 (-1)] (.tuple #[.int .i64 0, .int .i64 2]) := Add_no (t := 0) (n := -1) (Or.inr (by omega))
  have G1 : Tells 11 #[.int .i64 5, .int .i64 4] (.tuple #[.int .i64 0, .int .i64 2]) := Age_no (t := 5) (n := 4) (Or.inr (Or.inr (by omega)))
  have G2 : Tells 11 #[.int .i64 4, .int .i64 9] (.tuple #[.int .i64 5, .int .i64 0]) := Age_yes (t := 4) (n := 9) (by omega) (by omega) (by omega)
  have L1 : Tells 12 #[.int .u32 5, .int .i64 10, .int .i64 9] (.tuple #[.int .u32 0, .bool false]) := Left_no (ttl := 5) (t := 10) (n := 9) (by omega) (by omega) (Or.inr (Or.inr (Or.inl (by omega))))
  have P1 : Tells 14 #[.int .i64 5, .int .i64 5] (.bool true) := Past_yes (by omega)
  have P2 : Tells 14 #[.int .i64 5, .int .i64 4] (.bool false) := Past_no (by omega)
  have C1 : Tells 15 #[.int .i64 (-1)] (.int .i64 2) := Check_no (tick_no (by omega))
  have C2 : Tells 15 #[.int .i64 1099511627776] (.int .i64 0) := Check_yes (tick_yes (by omega) (by omega))
  have X1 : Tells 16 #[.int .u32 0, .int .u32 3, .int .u32 9] (.int .u32 3) := Clamp_any 0 3 9
  go_enter Try.func3, Try.ntmps3
  go_wp2_with (first | (go_at_call 9; (first | (with_reducible refine (lives_any.go _).mono ?_)); rintro e w' ⟨rfl, rfl⟩) | (go_at_call 10; (first | (with_reducible refine (A1.go _).mono ?_) | (with_reducible refine (A2.go _).mono ?_) | (with_reducible refine (A3.go _).mono ?_)); rintro e w' ⟨rfl, rfl⟩) | (go_at_call 11; (first | (with_reducible refine (G1.go _).mono ?_) | (with_reducible refine (G2.go _).mono ?_)); rintro e w' ⟨rfl, rfl⟩) | (go_at_call 12; (first | (with_reducible refine (L1.go _).mono ?_)); rintro e w' ⟨rfl, rfl⟩) | (go_at_call 14; (first | (with_reducible refine (P1.go _).mono ?_) | (with_reducible refine (P2.go _).mono ?_)); rintro e w' ⟨rfl, rfl⟩) | (go_at_call 15; (first | (with_reducible refine (C1.go _).mono ?_) | (with_reducible refine (C2.go _).mono ?_)); rintro e w' ⟨rfl, rfl⟩) | (go_at_call 16; (first | (with_reducible refine (X1.go _).mono ?_)); rintro e w' ⟨rfl, rfl⟩) | (go_at_call 13; (first | ((with_reducible refine (first_lit _ _ ?_).mono ?_); (simp [go_sem]); rintro e w' ⟨rfl, m, hm⟩; subst hm) | ((with_reducible refine (first_none _ _ _).mono ?_); rintro e w' ⟨rfl, rfl⟩))))
  go_ret
  exact ⟨rfl, ((Below.refl _ _).alloc (Nat.le_refl _) _).trans ⟨rfl, rfl, rfl, Nat.le_refl _, fun _ _ => rfl⟩⟩
end Go.Proofs.Ytfpckikcflddjaa
