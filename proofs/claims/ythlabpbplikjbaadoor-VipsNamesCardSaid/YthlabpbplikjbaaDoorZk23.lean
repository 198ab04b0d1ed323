/-
  Ranges looked at: the walks of ranges.Check, mayBe. Conditions: as each theorem names them.
-/
import Derived.Test.YthlabpbplikjbaaDoorZk21
import Derived.Test.YthlabpbplikjbaaDoorQui
import Derived.Laws.StructEq
namespace Go.Proofs.YthlabpbplikjbaaDoor
open Go.RowKit
set_option linter.unusedVariables false

/-- A range's cells. -/
def RgB4 (w : World) (g : Nat) (six : Bool) (hi lo : Nat) (n : Int) : Prop := Lies w g 31 #[.bool six, .int .u64 (hi : Int), .int .u64 (lo : Int), .int .i64 n]
theorem RgB4.facts {w : World} {g : Nat} {six : Bool} {hi lo : Nat} {n : Int} (h : RgB4 w g six hi lo n) : w.cell? ⟨g, 0, none⟩ = some (.bool six) ∧ w.cell? ⟨g, 1, none⟩ = some (.int .u64 hi) ∧ w.cell? ⟨g, 2, none⟩ = some (.int .u64 lo) ∧ w.cell? ⟨g, 3, none⟩ = some (.int .i64 n) := ⟨h.cell 0, h.cell 1, h.cell 2, h.cell 3⟩
theorem ad_neq (six : Bool) (hh hl hi lo : Nat) (hne : ¬ (hh = hi ∧ hl = lo)) (w : World) : (Op.equalIn 10000 29 (.agg #[.bool six, .int .u64 (hh : Int), .int .u64 (hl : Int)]) (.agg #[.bool six, .int .u64 (hi : Int), .int .u64 (lo : Int)])).run Tryd.prog w = .ok false w := by
  have hS : Tryd.prog.underlying 29 = some (.struct (Tryd.prog.fieldsOf 29)) := by kernel_rfl
  have hp : Tryd.prog.stoodInHeld 29 = false := by kernel_rfl
  rw [show (10000 : Nat) = 9999 + 1 from rfl, run_equalIn_agg w 9999 29 _ _ hS hp]
  simp only [Program.fieldsOf, Tryd.underlying29]
  go_simp
  by_cases h1 : (hh : Int) = hi
  · by_cases h2 : (hl : Int) = lo
    · exact absurd ⟨by omega, by omega⟩ hne
    · simp [h1, h2]
  · simp [h1]
set_option maxHeartbeats 4000000 in
theorem rgCheck_any (six : Bool) (hi lo : Nat) (n : Int) (w : World) (h1 : hi < 18446744073709551616) (h2 : lo < 18446744073709551616) :
    Calls Tryd.prog 38 #[.agg #[.bool six, .int .u64 (hi : Int), .int .u64 (lo : Int), .int .i64 n]] w fun e w' => e = .returned (.int .i64 (chkR (six, hi, lo) n)) ∧ Below w.heap.size w w' := by
  obtain ⟨w0, hw0⟩ : ∃ w0, w0 = w.alloc (.cells #[.bool six, .int .u64 (hi : Int), .int .u64 (lo : Int), .int .i64 n] 31) := ⟨_, rfl⟩
  have HB0 : Hid (Below w.heap.size w w0) := Lib.hid (by rw [hw0]; exact (Below.refl _ _).alloc (Nat.le_refl _) _)
  have HK : Hid (∀ w', Below w0.heap.size w0 w' → w'.cell? ⟨w.heap.size, 0, none⟩ = some (.bool six) ∧ w'.cell? ⟨w.heap.size, 1, none⟩ = some (.int .u64 hi) ∧ w'.cell? ⟨w.heap.size, 2, none⟩ = some (.int .u64 lo) ∧ w'.cell? ⟨w.heap.size, 3, none⟩ = some (.int .i64 n)) := Lib.hid (fun w' hb => RgB4.facts (Lies.next (by rw [hw0]; exact Lies.new w _ _) hb))
  have HX : Hid (∀ w', Below w0.heap.size w0 w' → Below w0.heap.size w0 w') := Lib.hid (fun _ h => h)
  have HS0 := Lib.hid (HK.out w0 (Below.refl _ _))
  have HC := Lib.hid (fun wx => aCheck_any six hi lo wx h1 h2)
  have HW := Lib.hid (fun wx => width_any six hi lo wx)
  rcases chkA_cases (six, hi, lo) with hc | hc
  · rw [hc] at HC
    by_cases hn0 : n < 0
    · have he : chkR (six, hi, lo) n = 2 := if_pos (.inr (.inl hn0))
      rw [he]
      have hd0 : decide (n < 0) = true := decide_eq_true hn0
      clear he hc h1 h2
      go_enter Tryd.func38, Tryd.ntmps38
      go_wp2
      rw [← hw0]
      clear hw0
      obtain ⟨Ix, f, i0, hf0, hCn', hstep'⟩ : ∃ (Ix : Type) (f : Ix → World) (i0 : Ix), w0.drew = f i0 ∧ (∀ n, Below w0.heap.size w0 (f n)) ∧ (∀ n w'', Below (f n).heap.size (f n) w'' → ∃ m, w'' = f m) := ⟨{w' // Below w0.heap.size w0 w'}, Subtype.val, ⟨w0.drew, ⟨rfl, rfl, rfl, Nat.le_refl _, fun _ _ => rfl⟩⟩, rfl, fun n => n.2, fun n w'' h => ⟨⟨w'', next n.2 h⟩, rfl⟩⟩
      have HCn := Lib.hid hCn'
      have Hstep := Lib.hid hstep'
      clear hCn' hstep' HS0
      haveI : Nonempty Ix := ⟨i0⟩
      have k0 : ∀ m, (f m).cell? ⟨w.heap.size, 0, none⟩ = some (.bool six) := fun m => (HK.out _ (HCn.out m)).1
      have k1 : ∀ m, (f m).cell? ⟨w.heap.size, 1, none⟩ = some (.int .u64 (hi : Int)) := fun m => (HK.out _ (HCn.out m)).2.1
      have k2 : ∀ m, (f m).cell? ⟨w.heap.size, 2, none⟩ = some (.int .u64 (lo : Int)) := fun m => (HK.out _ (HCn.out m)).2.2.1
      have k3 : ∀ m, (f m).cell? ⟨w.heap.size, 3, none⟩ = some (.int .i64 n) := fun m => (HK.out _ (HCn.out m)).2.2.2
      have V0 := Lib.hid (fun n => (HC.out (f n)).mono (fun _ _ h => (⟨h.1, Hstep.out n _ h.2⟩ : _ ∧ ∃ m, _ = f m)))
      refine wp_region_class f (by kernel_rfl) (lexB_of (by kernel_rfl) (by as_aux_lemma => kernel_rfl)) i0 hf0 ?_
      clear hf0
      repeat (go_big_quiet_step (first | (with_reducible exact V0.out _)))
      all_goals
        refine wpQuiet_nil ?_
        intro _ hw'
        obtain ⟨nE, hw''⟩ := hw'
        subst hw''
        have hbE := next HB0.out (HCn.out nE)
        go_wp2
        go_ret
        exact ⟨rfl, hbE⟩
    · obtain ⟨b, rfl⟩ : ∃ b : Nat, n = b := ⟨n.toNat, by omega⟩
      by_cases hnw : widA six < b
      · have he : chkR (six, hi, lo) b = 2 := if_pos (.inr (.inr (.inl (by show (widA six : Int) < b; omega))))
        rw [he]
        have hnwI : (widA six : Int) < (b : Int) := by omega
        have hd1 : decide ((b : Int) < 0) = false := decide_eq_false (by omega)
        have hd2 : decide ((widA six : Int) < (b : Int)) = true := decide_eq_true hnwI
        have hd2n : decide (widA six < b) = true := decide_eq_true (by omega)
        clear he hc h1 h2 hnw
        go_enter Tryd.func38, Tryd.ntmps38
        go_wp2
        rw [← hw0]
        clear hw0
        obtain ⟨Ix, f, i0, hf0, hCn', hstep'⟩ : ∃ (Ix : Type) (f : Ix → World) (i0 : Ix), w0.drew = f i0 ∧ (∀ n, Below w0.heap.size w0 (f n)) ∧ (∀ n w'', Below (f n).heap.size (f n) w'' → ∃ m, w'' = f m) := ⟨{w' // Below w0.heap.size w0 w'}, Subtype.val, ⟨w0.drew, ⟨rfl, rfl, rfl, Nat.le_refl _, fun _ _ => rfl⟩⟩, rfl, fun n => n.2, fun n w'' h => ⟨⟨w'', next n.2 h⟩, rfl⟩⟩
        have HCn := Lib.hid hCn'
        have Hstep := Lib.hid hstep'
        clear hCn' hstep' HS0
        haveI : Nonempty Ix := ⟨i0⟩
        have k0 : ∀ m, (f m).cell? ⟨w.heap.size, 0, none⟩ = some (.bool six) := fun m => (HK.out _ (HCn.out m)).1
        have k1 : ∀ m, (f m).cell? ⟨w.heap.size, 1, none⟩ = some (.int .u64 (hi : Int)) := fun m => (HK.out _ (HCn.out m)).2.1
        have k2 : ∀ m, (f m).cell? ⟨w.heap.size, 2, none⟩ = some (.int .u64 (lo : Int)) := fun m => (HK.out _ (HCn.out m)).2.2.1
        have k3 : ∀ m, (f m).cell? ⟨w.heap.size, 3, none⟩ = some (.int .i64 (b : Int)) := fun m => (HK.out _ (HCn.out m)).2.2.2
        have V0 := Lib.hid (fun n => (HC.out (f n)).mono (fun _ _ h => (⟨h.1, Hstep.out n _ h.2⟩ : _ ∧ ∃ m, _ = f m)))
        have V1 := Lib.hid (fun n => (HW.out (f n)).mono (fun _ _ h => (⟨h.1, Hstep.out n _ h.2⟩ : _ ∧ ∃ m, _ = f m)))
        refine wp_region_class f (by kernel_rfl) (lexB_of (by kernel_rfl) (by as_aux_lemma => kernel_rfl)) i0 hf0 ?_
        clear hf0
        repeat (go_big_quiet_step (first | (with_reducible exact V0.out _) | (with_reducible exact V1.out _)))
        all_goals
          refine wpQuiet_nil ?_
          intro _ hw'
          obtain ⟨nE, hw''⟩ := hw'
          subst hw''
          have hbE := next HB0.out (HCn.out nE)
          go_wp2
          go_ret
          exact ⟨rfl, hbE⟩
      · have HH := Lib.hid (fun wx => head_any six hi lo b six hi lo wx (by omega) h1 h2)
        obtain ⟨hh, hl, hE⟩ : ∃ hh hl, headR six b (six, hi, lo) = (six, hh, hl) := ⟨_, _, rfl⟩
        rw [hE] at HH
        simp only [av] at HH
        have hnwI : ¬ (widA six : Int) < (b : Int) := by omega
        have hd1 : decide ((b : Int) < 0) = false := decide_eq_false (by omega)
        have hd2 : decide ((widA six : Int) < (b : Int)) = false := decide_eq_false hnwI
        have hd2n : decide (widA six < b) = false := decide_eq_false (by omega)
        by_cases hhd : hh = hi ∧ hl = lo
        · obtain ⟨rfl, rfl⟩ := hhd
          have he : chkR (six, hh, hl) b = 0 := by
            unfold chkR
            rw [if_neg]
            rintro (e | e | e | e)
            · exact e hc
            · omega
            · exact hnwI e
            · exact e (by rw [Int.toNat_natCast]; exact hE)
          rw [he]
          clear he hc h1 h2 hnw hE
          go_enter Tryd.func38, Tryd.ntmps38
          go_wp2
          rw [← hw0]
          clear hw0
          obtain ⟨Ix, f, i0, hf0, hCn', hstep'⟩ : ∃ (Ix : Type) (f : Ix → World) (i0 : Ix), w0.drew = f i0 ∧ (∀ n, Below w0.heap.size w0 (f n)) ∧ (∀ n w'', Below (f n).heap.size (f n) w'' → ∃ m, w'' = f m) := ⟨{w' // Below w0.heap.size w0 w'}, Subtype.val, ⟨w0.drew, ⟨rfl, rfl, rfl, Nat.le_refl _, fun _ _ => rfl⟩⟩, rfl, fun n => n.2, fun n w'' h => ⟨⟨w'', next n.2 h⟩, rfl⟩⟩
          have HCn := Lib.hid hCn'
          have Hstep := Lib.hid hstep'
          clear hCn' hstep' HS0
          haveI : Nonempty Ix := ⟨i0⟩
          have k0 : ∀ m, (f m).cell? ⟨w.heap.size, 0, none⟩ = some (.bool six) := fun m => (HK.out _ (HCn.out m)).1
          have k1 : ∀ m, (f m).cell? ⟨w.heap.size, 1, none⟩ = some (.int .u64 (hh : Int)) := fun m => (HK.out _ (HCn.out m)).2.1
          have k2 : ∀ m, (f m).cell? ⟨w.heap.size, 2, none⟩ = some (.int .u64 (hl : Int)) := fun m => (HK.out _ (HCn.out m)).2.2.1
          have k3 : ∀ m, (f m).cell? ⟨w.heap.size, 3, none⟩ = some (.int .i64 (b : Int)) := fun m => (HK.out _ (HCn.out m)).2.2.2
          have V0 := Lib.hid (fun n => (HC.out (f n)).mono (fun _ _ h => (⟨h.1, Hstep.out n _ h.2⟩ : _ ∧ ∃ m, _ = f m)))
          have V1 := Lib.hid (fun n => (HW.out (f n)).mono (fun _ _ h => (⟨h.1, Hstep.out n _ h.2⟩ : _ ∧ ∃ m, _ = f m)))
          have V2 := Lib.hid (fun n => (HH.out (f n)).mono (fun _ _ h => (⟨h.1, Hstep.out n _ h.2⟩ : _ ∧ ∃ m, _ = f m)))
          refine wp_region_class f (by kernel_rfl) (lexB_of (by kernel_rfl) (by as_aux_lemma => kernel_rfl)) i0 hf0 ?_
          clear hf0
          repeat (go_big_quiet_step (first | (with_reducible exact V0.out _) | (with_reducible exact V1.out _) | (with_reducible exact V2.out _)))
          all_goals
            refine wpQuiet_nil ?_
            intro _ hw'
            obtain ⟨nE, hw''⟩ := hw'
            subst hw''
            have hbE := next HB0.out (HCn.out nE)
            go_wp2
            go_ret
            exact ⟨rfl, hbE⟩
        · have he : chkR (six, hi, lo) b = 2 := by
            unfold chkR
            refine if_pos (.inr (.inr (.inr ?_)))
            rw [Int.toNat_natCast, hE]
            intro e
            injection e with _ e
            injection e with e1 e2
            exact hhd ⟨e1, e2⟩
          rw [he]
          have hne := ad_neq six hh hl hi lo hhd
          clear he hc h1 h2 hnw hE hhd
          go_enter Tryd.func38, Tryd.ntmps38
          go_wp2
          rw [← hw0]
          clear hw0
          obtain ⟨Ix, f, i0, hf0, hCn', hstep'⟩ : ∃ (Ix : Type) (f : Ix → World) (i0 : Ix), w0.drew = f i0 ∧ (∀ n, Below w0.heap.size w0 (f n)) ∧ (∀ n w'', Below (f n).heap.size (f n) w'' → ∃ m, w'' = f m) := ⟨{w' // Below w0.heap.size w0 w'}, Subtype.val, ⟨w0.drew, ⟨rfl, rfl, rfl, Nat.le_refl _, fun _ _ => rfl⟩⟩, rfl, fun n => n.2, fun n w'' h => ⟨⟨w'', next n.2 h⟩, rfl⟩⟩
          have HCn := Lib.hid hCn'
          have Hstep := Lib.hid hstep'
          clear hCn' hstep' HS0
          haveI : Nonempty Ix := ⟨i0⟩
          have k0 : ∀ m, (f m).cell? ⟨w.heap.size, 0, none⟩ = some (.bool six) := fun m => (HK.out _ (HCn.out m)).1
          have k1 : ∀ m, (f m).cell? ⟨w.heap.size, 1, none⟩ = some (.int .u64 (hi : Int)) := fun m => (HK.out _ (HCn.out m)).2.1
          have k2 : ∀ m, (f m).cell? ⟨w.heap.size, 2, none⟩ = some (.int .u64 (lo : Int)) := fun m => (HK.out _ (HCn.out m)).2.2.1
          have k3 : ∀ m, (f m).cell? ⟨w.heap.size, 3, none⟩ = some (.int .i64 (b : Int)) := fun m => (HK.out _ (HCn.out m)).2.2.2
          have V0 := Lib.hid (fun n => (HC.out (f n)).mono (fun _ _ h => (⟨h.1, Hstep.out n _ h.2⟩ : _ ∧ ∃ m, _ = f m)))
          have V1 := Lib.hid (fun n => (HW.out (f n)).mono (fun _ _ h => (⟨h.1, Hstep.out n _ h.2⟩ : _ ∧ ∃ m, _ = f m)))
          have V2 := Lib.hid (fun n => (HH.out (f n)).mono (fun _ _ h => (⟨h.1, Hstep.out n _ h.2⟩ : _ ∧ ∃ m, _ = f m)))
          refine wp_region_class f (by kernel_rfl) (lexB_of (by kernel_rfl) (by as_aux_lemma => kernel_rfl)) i0 hf0 ?_
          clear hf0
          repeat (go_big_quiet_step (first | (with_reducible exact V0.out _) | (with_reducible exact V1.out _) | (with_reducible exact V2.out _)))
          all_goals
            refine wpQuiet_nil ?_
            intro _ hw'
            obtain ⟨nE, hw''⟩ := hw'
            subst hw''
            have hbE := next HB0.out (HCn.out nE)
            go_wp2
            go_ret
            exact ⟨rfl, hbE⟩
  · rw [hc] at HC
    have he : chkR (six, hi, lo) n = 2 := if_pos (.inl (by rw [hc]; decide))
    rw [he]
    clear he hc h1 h2
    go_enter Tryd.func38, Tryd.ntmps38
    go_wp2
    rw [← hw0]
    clear hw0
    obtain ⟨Ix, f, i0, hf0, hCn', hstep'⟩ : ∃ (Ix : Type) (f : Ix → World) (i0 : Ix), w0.drew = f i0 ∧ (∀ n, Below w0.heap.size w0 (f n)) ∧ (∀ n w'', Below (f n).heap.size (f n) w'' → ∃ m, w'' = f m) := ⟨{w' // Below w0.heap.size w0 w'}, Subtype.val, ⟨w0.drew, ⟨rfl, rfl, rfl, Nat.le_refl _, fun _ _ => rfl⟩⟩, rfl, fun n => n.2, fun n w'' h => ⟨⟨w'', next n.2 h⟩, rfl⟩⟩
    have HCn := Lib.hid hCn'
    have Hstep := Lib.hid hstep'
    clear hCn' hstep' HS0
    haveI : Nonempty Ix := ⟨i0⟩
    have k0 : ∀ m, (f m).cell? ⟨w.heap.size, 0, none⟩ = some (.bool six) := fun m => (HK.out _ (HCn.out m)).1
    have k1 : ∀ m, (f m).cell? ⟨w.heap.size, 1, none⟩ = some (.int .u64 (hi : Int)) := fun m => (HK.out _ (HCn.out m)).2.1
    have k2 : ∀ m, (f m).cell? ⟨w.heap.size, 2, none⟩ = some (.int .u64 (lo : Int)) := fun m => (HK.out _ (HCn.out m)).2.2.1
    have k3 : ∀ m, (f m).cell? ⟨w.heap.size, 3, none⟩ = some (.int .i64 n) := fun m => (HK.out _ (HCn.out m)).2.2.2
    have V0 := Lib.hid (fun n => (HC.out (f n)).mono (fun _ _ h => (⟨h.1, Hstep.out n _ h.2⟩ : _ ∧ ∃ m, _ = f m)))
    refine wp_region_class f (by kernel_rfl) (lexB_of (by kernel_rfl) (by as_aux_lemma => kernel_rfl)) i0 hf0 ?_
    clear hf0
    repeat (go_big_quiet_step (first | (with_reducible exact V0.out _)))
    all_goals
      refine wpQuiet_nil ?_
      intro _ hw'
      obtain ⟨nE, hw''⟩ := hw'
      subst hw''
      have hbE := next HB0.out (HCn.out nE)
      go_wp2
      go_ret
      exact ⟨rfl, hbE⟩
end Go.Proofs.YthlabpbplikjbaaDoor
