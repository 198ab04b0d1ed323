/-
  Addresses compared, and added to: the walks of addr.Compare, Add. Conditions: as each theorem names them.
-/
import Derived.Test.YtjadghmanpkgoaaGreatDoorAdOcs
import Derived.Shelf.Spec.BitsCarry
namespace Go.Proofs.YtjadghmanpkgoaaGreatDoor
open Go.RowKit
set_option linter.unusedVariables false

theorem isNaN_any (x : Nat) (w : World) (h1 : x < 18446744073709551616) :
    Calls Tryz.prog 129 #[.int .u64 x] w fun e w' => e = .returned (.bool false) ∧ w = w' := by
  go_enter Tryz.func129, Tryz.ntmps129
  go_wp2
  go_ret
  exact ⟨rfl, rfl⟩
theorem cmpU_any (x y : Nat) (w : World) (h1 : x < 18446744073709551616) (h2 : y < 18446744073709551616) :
    Calls Tryz.prog 87 #[.int .u64 x, .int .u64 y] w fun e w' => e = .returned (.int .i64 (cmpU x y)) ∧ w = w' := by
  unfold cmpU
  by_cases h3 : x < y
  · rw [if_pos h3]
    go_enter Tryz.func87, Tryz.ntmps87
    go_wp2_with (go_at_call 129; refine (isNaN_any _ _ (by omega)).mono ?_; rintro e w' ⟨rfl, rfl⟩)
    go_ret
    exact ⟨rfl, rfl⟩
  · rw [if_neg h3]
    by_cases h4 : y < x
    · rw [if_pos h4]
      go_enter Tryz.func87, Tryz.ntmps87
      go_wp2_with (go_at_call 129; refine (isNaN_any _ _ (by omega)).mono ?_; rintro e w' ⟨rfl, rfl⟩)
      go_ret
      exact ⟨rfl, rfl⟩
    · rw [if_neg h4]
      go_enter Tryz.func87, Tryz.ntmps87
      go_wp2_with (go_at_call 129; refine (isNaN_any _ _ (by omega)).mono ?_; rintro e w' ⟨rfl, rfl⟩)
      go_ret
      exact ⟨rfl, rfl⟩
/-- cmp.Or of two. -/
def or2 (x y : Int) : Int := if x ≠ 0 then x else y
/-- The relation of Or's loop. -/
def OrRel (x : Int) (w : World) (i : Value) (wr : World) : Prop := ∃ k : Nat, i = .int .i64 k ∧ k ≤ 2 ∧ (0 < k → x = 0) ∧ w = wr
theorem cmpOr_any (x y : Int) (A : Nat) (cap : Nat) (w : World) (h0 : w.cell? ⟨A, 0, none⟩ = some (.int .i64 x)) (h1 : w.cell? ⟨A, 1, none⟩ = some (.int .i64 y)) :
    Calls Tryz.prog 86 #[.slice (some ⟨A, 0, none⟩) 2 cap] w fun e w' => e = .returned (.int .i64 (or2 x y)) ∧ w = w' := by
  unfold or2
  go_enter Tryz.func86, Tryz.ntmps86
  go_wp2
  go_loopw [8] (fun i wr => OrRel x w i wr ∧ (i = .int .i64 2 → y = 0)) (fun i _ => 2 - (intOf i).toNat)
  case atStart => exact ⟨⟨0, rfl, by decide, by simp, rfl⟩, by simp⟩
  case round =>
    obtain ⟨⟨k, rfl, hk, hx, rfl⟩, hy⟩ := hrel
    obtain rfl | rfl | rfl : k = 0 ∨ k = 1 ∨ k = 2 := by omega
    · clear hy hx
      by_cases hx : x = 0
      · go_wp2
        go_roundw
        case rel => exact ⟨⟨1, by go_num, by decide, fun _ => hx, rfl⟩, by simp⟩
        case measure => simp [intOf]
      · go_wp2
        go_ret
        exact ⟨rfl, rfl⟩
    · obtain rfl := hx (by decide)
      clear hy hx
      by_cases hy : y = 0
      · go_wp2
        go_roundw
        case rel => exact ⟨⟨2, by go_num, by decide, fun _ => rfl, rfl⟩, fun _ => hy⟩
        case measure => simp [intOf]
      · go_wp2
        go_ret
        exact ⟨rfl, rfl⟩
    · obtain rfl := hx (by decide)
      obtain rfl := hy rfl
      clear hy hx
      go_wp2
      go_ret
      exact ⟨rfl, rfl⟩
theorem cmpA_diff (a b : Ad) (h : a.1 ≠ b.1) : cmpA a b = if a.1 = false then -1 else 1 := by
  obtain ⟨s, a1, a2⟩ := a; obtain ⟨t, b1, b2⟩ := b
  cases s <;> cases t <;> simp_all [cmpA]
theorem cmpA_same (s : Bool) (a1 a2 b1 b2 : Nat) : cmpA (s, a1, a2) (s, b1, b2) = or2 (cmpU a1 b1) (cmpU a2 b2) := by
  cases s <;> simp [cmpA, or2]
theorem alloc_cell {n : Nat} (w : World) (C : Array Value) (t : TypeId) (hn : n = w.heap.size) (j : Nat) : (w.alloc (.cells C t)).cell? ⟨n, j, none⟩ = C[j]? := by
  subst hn
  exact Lies.cell (Lies.new w t C) j
/-- The halves of the two that are compared, as they lie. -/
def Four2 (w : World) (g a1 a2 b1 b2 : Nat) : Prop := (w.cell? ⟨g, 1, none⟩ = some (.int .u64 a1) ∧ w.cell? ⟨g, 2, none⟩ = some (.int .u64 a2)) ∧ w.cell? ⟨g + 1, 1, none⟩ = some (.int .u64 b1) ∧ w.cell? ⟨g + 1, 2, none⟩ = some (.int .u64 b2)
theorem four2 {w w' : World} {s : Bool} {a1 a2 b1 b2 : Nat} (hb : Below ((w.alloc (.cells #[.bool s, .int .u64 (a1 : Int), .int .u64 (a2 : Int)] 24)).alloc (.cells #[.bool s, .int .u64 (b1 : Int), .int .u64 (b2 : Int)] 24)).heap.size ((w.alloc (.cells #[.bool s, .int .u64 (a1 : Int), .int .u64 (a2 : Int)] 24)).alloc (.cells #[.bool s, .int .u64 (b1 : Int), .int .u64 (b2 : Int)] 24)) w') : Four2 w' w.heap.size a1 a2 b1 b2 := by
  have h1 := ((Lies.new w 24 #[.bool s, .int .u64 (a1 : Int), .int .u64 (a2 : Int)]).alloc (.cells #[.bool s, .int .u64 (b1 : Int), .int .u64 (b2 : Int)] 24)).next hb
  have h2 := (Lies.new (w.alloc (.cells #[.bool s, .int .u64 (a1 : Int), .int .u64 (a2 : Int)] 24)) 24 #[.bool s, .int .u64 (b1 : Int), .int .u64 (b2 : Int)]).next hb
  rw [size1] at h2
  exact ⟨⟨h1.cell 1, h1.cell 2⟩, h2.cell 1, h2.cell 2⟩
set_option maxHeartbeats 1000000 in
theorem aCompare_any (s t : Bool) (a1 a2 b1 b2 : Nat) (w : World) (h1 : a1 < 18446744073709551616) (h2 : a2 < 18446744073709551616) (h3 : b1 < 18446744073709551616) (h4 : b2 < 18446744073709551616) :
    Calls Tryz.prog 29 #[.agg #[.bool s, .int .u64 (a1 : Int), .int .u64 (a2 : Int)], .agg #[.bool t, .int .u64 (b1 : Int), .int .u64 (b2 : Int)]] w fun e w' => e = .returned (.int .i64 (cmpA (s, a1, a2) (t, b1, b2))) ∧ Below w.heap.size w w' := by
  by_cases hs : s = t
  · subst hs
    rw [cmpA_same]
    have H1 := Lib.hid (fun wx => cmpU_any a1 b1 wx h1 h3)
    have H2 := Lib.hid (fun wx => cmpU_any a2 b2 wx h2 h4)
    obtain ⟨w0, hw0⟩ : ∃ w0, w0 = (w.alloc (.cells #[.bool s, .int .u64 (a1 : Int), .int .u64 (a2 : Int)] 24)).alloc (.cells #[.bool s, .int .u64 (b1 : Int), .int .u64 (b2 : Int)] 24) := ⟨_, rfl⟩
    have HK : Hid (∀ w', Below w0.heap.size w0 w' → Four2 w' w.heap.size a1 a2 b1 b2) := Lib.hid (by rw [hw0]; exact fun w' => four2)
    have HB0 : Hid (Below w.heap.size w w0) := Lib.hid (by rw [hw0]; exact ((Below.refl _ _).alloc (Nat.le_refl _) _).alloc (le_alloc (Nat.le_refl _) _) _)
    have HKd := Lib.hid (HK.out w0.drew (Below.refl _ _).drew)
    have HKa := Lib.hid (fun o => HK.out (w0.alloc o).drew (((Below.refl w0.heap.size w0).alloc (Nat.le_refl _) o).drew))
    have HO := Lib.hid (fun (C : Array Value) (t : TypeId) (e0 : C[0]? = some (.int .i64 (cmpU a1 b1))) (e1 : C[1]? = some (.int .i64 (cmpU a2 b2))) => cmpOr_any (cmpU a1 b1) (cmpU a2 b2) w0.heap.size 2 (w0.alloc (.cells C t)).drew ((alloc_cell w0 C t rfl 0).trans e0) ((alloc_cell w0 C t rfl 1).trans e1))
    unfold Four2 at HKd HKa
    cases s
    all_goals
      go_enter Tryz.func29, Tryz.ntmps29
      go_wp2
      rw [← hw0]
      clear hw0
      go_region_held3 (fun w' => (w'.cell? ⟨w.heap.size, 1, none⟩ = some (.int .u64 a1) ∧ w'.cell? ⟨w.heap.size, 2, none⟩ = some (.int .u64 a2)) ∧ w'.cell? ⟨w.heap.size + 1, 1, none⟩ = some (.int .u64 b1) ∧ w'.cell? ⟨w.heap.size + 1, 2, none⟩ = some (.int .u64 b2)) (first | with_reducible exact HKd.out | with_reducible exact HKa.out _ | go_keep) (first | (go_at_call 87; (with_reducible refine (H1.out _).mono ?_); rintro e w' ⟨rfl, rfl⟩) | (go_at_call 87; (with_reducible refine (H2.out _).mono ?_); rintro e w' ⟨rfl, rfl⟩) | (go_at_call 86; (with_reducible refine (HO.out _ _ rfl rfl).mono ?_); rintro e w' ⟨rfl, rfl⟩) | fail)
      go_wp2
      go_ret
      exact ⟨rfl, (HB0.out.alloc HB0.out.size _).drew⟩
  · rw [cmpA_diff _ _ hs]
    cases s <;> cases t
    all_goals first | (exfalso; exact hs rfl) | skip
    all_goals
      go_enter Tryz.func29, Tryz.ntmps29
      go_wp2
      go_ret
      exact ⟨rfl, ((Below.refl _ _).alloc (Nat.le_refl _) _).alloc (le_alloc (Nat.le_refl _) _) _⟩
theorem av_eq (a : Ad) : av a = .agg #[.bool a.1, .int .u64 (a.2.1 : Int), .int .u64 (a.2.2 : Int)] := rfl
theorem add64_run (x y c : Nat) (hc : c ≤ 1) (w : World) :
    (callFunc 73 #[.int .u64 x, .int .u64 y, .int .u64 c]).run Tryz.prog w =
      .ok (.value (.tuple #[.int .u64 (((x + y + c) % 18446744073709551616 : Nat) : Int), .int .u64 (((x + y + c) / 18446744073709551616 : Nat) : Int)])) w := by
  rw [run_callFunc_extern Tryz.func73 (by kernel_rfl) (by kernel_rfl) (by kernel_rfl) (e := add64Entry) (by kernel_rfl), run_add64 x y c (by omega) (by omega) (by omega) (by omega)]
  simp only [Result.andThen]
  congr 5 <;> omega
/-- The carry of the lower half. -/
theorem carry_le {lo n : Nat} (h2 : lo < 18446744073709551616) (h3 : n < 18446744073709551616) : (lo + n) / 18446744073709551616 ≤ 1 := by omega
set_option maxHeartbeats 1000000 in
theorem aAdd_any (six : Bool) (hi lo n : Nat) (w : World) (h1 : hi < 18446744073709551616) (h2 : lo < 18446744073709551616) (h3 : n < 18446744073709551616) :
    Calls Tryz.prog 21 #[.agg #[.bool six, .int .u64 (hi : Int), .int .u64 (lo : Int)], .int .u64 n] w fun e w' => e = .returned (.tuple #[av (addA (six, hi, lo) n).1, .bool (addA (six, hi, lo) n).2]) ∧ Below w.heap.size w w' := by
  have HC := Lib.hid (fun wx => aCheck_any six hi lo wx h1 h2)
  have HB0 : Hid (∀ o p, Below w.heap.size w ((w.alloc o).alloc p)) := Lib.hid (fun o p => ((Below.refl _ _).alloc (Nat.le_refl _) o).alloc (le_alloc (Nat.le_refl _) _) p)
  rcases chkA_cases (six, hi, lo) with hc | hc
  · rw [hc] at HC
    obtain ⟨sl, hsl⟩ : ∃ sl, sl = (lo + n) % 18446744073709551616 := ⟨_, rfl⟩
    obtain ⟨c, hcr⟩ : ∃ c, c = (lo + n) / 18446744073709551616 := ⟨_, rfl⟩
    obtain ⟨sh, hsh⟩ : ∃ sh, sh = (hi + c) % 18446744073709551616 := ⟨_, rfl⟩
    obtain ⟨ov, hov⟩ : ∃ ov, ov = (hi + c) / 18446744073709551616 := ⟨_, rfl⟩
    have hA1 : ∀ wx : World, (callFunc 73 #[.int .u64 lo, .int .u64 n, .int .u64 0]).run Tryz.prog wx = .ok (.value (.tuple #[.int .u64 sl, .int .u64 c])) wx := fun wx => by
      have := add64_run lo n 0 (by decide) wx
      rw [Nat.add_zero, ← hsl, ← hcr] at this
      exact this
    have hA2 : ∀ wx : World, (callFunc 73 #[.int .u64 hi, .int .u64 0, .int .u64 c]).run Tryz.prog wx = .ok (.value (.tuple #[.int .u64 sh, .int .u64 ov])) wx := fun wx => by
      have := add64_run hi 0 c (by rw [hcr]; exact carry_le h2 h3) wx
      rw [Nat.add_zero, ← hsh, ← hov] at this
      exact this
    have HC2 := Lib.hid (fun wx => aCheck_any six sh sl wx (by rw [hsh]; exact Nat.mod_lt _ (by decide)) (by rw [hsl]; exact Nat.mod_lt _ (by decide)))
    have he : addA (six, hi, lo) n = if ov ≠ 0 ∨ chkA (six, sh, sl) ≠ 0 then (noA, false) else ((six, sh, sl), true) := by
      unfold addA sumA
      rw [if_neg (by rw [hc]; decide), hov, hsh, hsl, hcr]
    rw [he]
    clear he hsl hcr hsh hov
    have HL0 : Hid (∀ w1 : World, Below ((w.alloc (.cells #[.bool six, .int .u64 (hi : Int), .int .u64 (lo : Int)] 24)).alloc (.cells #[.bool false, .int .u64 0, .int .u64 0] 24)).heap.size ((w.alloc (.cells #[.bool six, .int .u64 (hi : Int), .int .u64 (lo : Int)] 24)).alloc (.cells #[.bool false, .int .u64 0, .int .u64 0] 24)) w1 → AdB w1 w.heap.size six hi lo ∧ AdB w1 (w.heap.size + 1) false 0 0) := Lib.hid (fun w1 hb => ⟨((Lies.new w _ _).alloc _).next hb, by have := (Lies.new (w.alloc (.cells #[.bool six, .int .u64 (hi : Int), .int .u64 (lo : Int)] 24)) 24 #[.bool false, .int .u64 0, .int .u64 0]).next hb; rw [size1] at this; exact this⟩)
    by_cases h0 : ov = 0
    · subst h0
      rcases chkA_cases (six, sh, sl) with hd | hd
      · rw [hd] at HC2
        rw [hd, if_neg (by simp)]
        clear hd hc
        go_enter Tryz.func21, Tryz.ntmps21
        go_wp2_with (first | (go_at_call 27; (with_reducible refine (HC.out _).mono ?_); rintro e w1 ⟨rfl, hb1⟩; have HL := Lib.hid (HL0.out _ hb1); obtain ⟨⟨ha0, ha1, ha2⟩, _⟩ := HL.out.1.facts; have HB1 := Lib.hid hb1; clear hb1) | (go_at_call 27; (with_reducible refine (HC2.out _).mono ?_); rintro e w2 ⟨rfl, hb2⟩; have HS : Hid (AdB w2 w1.heap.size six sh sl) := Lib.hid ((Lies.new w1 _ _).next hb2); obtain ⟨⟨he0, he1, he2⟩, _⟩ := HS.out.facts; have HR : Hid (AdB w2 (w.heap.size + 1) false 0 0) := Lib.hid ((HL.out.2.alloc _).next hb2); obtain ⟨⟨hc0, hc1, hc2⟩, hf0, hf1, hf2⟩ := HR.out.facts; have HB2 := Lib.hid hb2; clear hb2))
        refine bodyPost_ret (ret_ad2 rfl _ _ (w.heap.size + 1) (six, sh, sl) rfl (AdB.put HR.out _ _ _)) rfl ?_
        have hb := next (HB0.out _ _) HB1.out
        exact ⟨rfl, put3 (next (hb.alloc hb.size _) HB2.out) (Nat.le_succ _) _ _ _⟩
      · rw [hd] at HC2
        rw [hd, if_pos (.inr (by decide))]
        clear hd hc
        go_enter Tryz.func21, Tryz.ntmps21
        go_wp2_with (first | (go_at_call 27; (with_reducible refine (HC.out _).mono ?_); rintro e w1 ⟨rfl, hb1⟩; have HL := Lib.hid (HL0.out _ hb1); obtain ⟨⟨ha0, ha1, ha2⟩, _⟩ := HL.out.1.facts; have HB1 := Lib.hid hb1; clear hb1) | (go_at_call 27; (with_reducible refine (HC2.out _).mono ?_); rintro e w2 ⟨rfl, hb2⟩; have HS : Hid (AdB w2 w1.heap.size six sh sl) := Lib.hid ((Lies.new w1 _ _).next hb2); obtain ⟨⟨he0, he1, he2⟩, _⟩ := HS.out.facts; have HR : Hid (AdB w2 (w.heap.size + 1) false 0 0) := Lib.hid ((HL.out.2.alloc _).next hb2); obtain ⟨⟨hc0, hc1, hc2⟩, hf0, hf1, hf2⟩ := HR.out.facts; have HB2 := Lib.hid hb2; clear hb2))
        refine bodyPost_ret (ret_ad2 rfl _ _ (w.heap.size + 1) noA rfl (AdB.put HR.out _ _ _)) rfl ?_
        have hb := next (HB0.out _ _) HB1.out
        exact ⟨rfl, put3 (next (hb.alloc hb.size _) HB2.out) (Nat.le_succ _) _ _ _⟩
    · rw [if_pos (.inl h0)]
      clear hc HC2
      have h0' : ¬ (ov : Int) = 0 := by omega
      have h0b : ((ov : Int) == 0) = false := by simp [h0]
      go_enter Tryz.func21, Tryz.ntmps21
      go_wp2_with (first | (go_at_call 27; (with_reducible refine (HC.out _).mono ?_); rintro e w1 ⟨rfl, hb1⟩; have HL := Lib.hid (HL0.out _ hb1); obtain ⟨⟨ha0, ha1, ha2⟩, _⟩ := HL.out.1.facts; have HR : Hid (∀ o, AdB (w1.alloc o) (w.heap.size + 1) false 0 0) := Lib.hid (fun o => HL.out.2.alloc o); obtain ⟨⟨hc0, hc1, hc2⟩, hf0, hf1, hf2⟩ := (HR.out (.cells #[.bool six, .int .u64 (sh : Int), .int .u64 (sl : Int)] 24)).facts; have HB1 := Lib.hid hb1; clear hb1))
      refine bodyPost_ret (ret_ad2 rfl _ _ (w.heap.size + 1) noA rfl (AdB.put (HR.out _) _ _ _)) rfl ?_
      have hb := next (HB0.out _ _) HB1.out
      exact ⟨rfl, put3 (hb.alloc hb.size _) (Nat.le_succ _) _ _ _⟩
  · rw [hc] at HC
    have he : addA (six, hi, lo) n = (noA, false) := by unfold addA; rw [if_pos (by rw [hc]; decide)]
    rw [he]
    go_enter Tryz.func21, Tryz.ntmps21
    go_wp2_with (go_at_call 27; (with_reducible refine (HC.out _).mono ?_); rintro e w1 ⟨rfl, hb1⟩; have HL : Hid (AdB w1 (w.heap.size + 1) false 0 0) := Lib.hid (by have := (Lies.new (w.alloc (.cells #[.bool six, .int .u64 (hi : Int), .int .u64 (lo : Int)] 24)) 24 #[.bool false, .int .u64 0, .int .u64 0]).next hb1; rw [size1] at this; exact this); obtain ⟨⟨hc0, hc1, hc2⟩, hf0, hf1, hf2⟩ := HL.out.facts; have HB1 := Lib.hid hb1; clear hb1)
    refine bodyPost_ret (ret_ad2 rfl _ _ (w.heap.size + 1) noA rfl (AdB.put HL.out _ _ _)) rfl ?_
    exact ⟨rfl, put3 (next (HB0.out _ _) HB1.out) (Nat.le_succ _) _ _ _⟩
end Go.Proofs.YtjadghmanpkgoaaGreatDoor
