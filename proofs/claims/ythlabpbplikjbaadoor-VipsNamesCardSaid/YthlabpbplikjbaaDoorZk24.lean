/-
  Whether an address is in a range: the walks of ranges.mayBe, ranges.Has. Conditions: as each theorem names them. Whether two ranges meet: the walk of ranges.Meet. Conditions: the addresses' numbers are such as their types bear.
-/
import Derived.Test.YthlabpbplikjbaaDoorZk23
namespace Go.Proofs.YthlabpbplikjbaaDoor
open Go.RowKit
set_option linter.unusedVariables false

theorem ad_equal (s : Bool) (hh hl : Nat) (six : Bool) (hi lo : Nat) (w : World) : (Op.equalIn 10000 29 (.agg #[.bool s, .int .u64 (hh : Int), .int .u64 (hl : Int)]) (.agg #[.bool six, .int .u64 (hi : Int), .int .u64 (lo : Int)])).run Tryd.prog w = .ok (decide (((s, hh, hl) : Ad) = (six, hi, lo))) w := by
  have hS : Tryd.prog.underlying 29 = some (.struct (Tryd.prog.fieldsOf 29)) := by kernel_rfl
  have hp : Tryd.prog.stoodInHeld 29 = false := by kernel_rfl
  rw [show (10000 : Nat) = 9999 + 1 from rfl, run_equalIn_agg w 9999 29 _ _ hS hp]
  simp only [Program.fieldsOf, Tryd.underlying29]
  go_simp
  by_cases h0 : s = six
  · by_cases h1 : hh = hi
    · by_cases h2 : hl = lo
      · simp [h0, h1, h2]
      · simp [h0, h1, h2]; omega
    · simp [h0, h1]; omega
  · simp [h0]
theorem chkR_ok {r : Ad} {n : Int} (h : chkR r n = 0) : ∃ b : Nat, n = b ∧ b ≤ widA r.1 := by
  unfold chkR at h
  split at h
  · cases h
  · rename_i hh
    have a1 : ¬ n < 0 := fun e => hh (.inr (.inl e))
    have a2 : ¬ (widA r.1 : Int) < n := fun e => hh (.inr (.inr (.inl e)))
    exact ⟨n.toNat, by omega, by omega⟩
theorem rgMayBe_any (six : Bool) (hi lo : Nat) (n : Int) (w : World) (h1 : hi < 18446744073709551616) (h2 : lo < 18446744073709551616) :
    Calls Tryd.prog 83 #[.agg #[.bool six, .int .u64 (hi : Int), .int .u64 (lo : Int), .int .i64 n]] w fun e w' => e = .returned (.bool (decide (chkR (six, hi, lo) n = 0))) ∧ Below w.heap.size w w' := by
  have HC := Lib.hid (fun wx => rgCheck_any six hi lo n wx h1 h2)
  obtain ⟨c, hc⟩ : ∃ c, c = chkR (six, hi, lo) n := ⟨_, rfl⟩
  rw [← hc] at HC ⊢
  have HB : Hid (((c : Int) == 0) = decide (c = 0)) := Lib.hid (by rw [Bool.eq_iff_iff, beq_iff_eq, decide_eq_true_iff]; omega)
  clear hc
  go_enter Tryd.func83, Tryd.ntmps83
  go_wp2_with (go_at_call 38; (with_reducible refine (HC.out _).mono ?_); rintro e w1 ⟨rfl, hb⟩; have HW := Lib.hid (((Below.refl w.heap.size w).alloc (Nat.le_refl _) _).trans (hb.mono (by simp))); clear hb)
  go_ret
  exact ⟨by rw [← HB.out]; rfl, HW.out⟩
set_option maxHeartbeats 2000000 in
theorem rHas_any (six : Bool) (hi lo : Nat) (n : Int) (s : Bool) (ah al : Nat) (w : World) (h1 : hi < 18446744073709551616) (h2 : lo < 18446744073709551616) (h3 : ah < 18446744073709551616) (h4 : al < 18446744073709551616) :
    Calls Tryd.prog 104 #[.agg #[.bool six, .int .u64 (hi : Int), .int .u64 (lo : Int), .int .i64 n], .agg #[.bool s, .int .u64 (ah : Int), .int .u64 (al : Int)]] w fun e w' => e = .returned (.bool (hasR (six, hi, lo) n (s, ah, al))) ∧ Below w.heap.size w w' := by
  obtain ⟨w0, hw0⟩ : ∃ w0, w0 = (w.alloc (.cells #[.bool six, .int .u64 (hi : Int), .int .u64 (lo : Int), .int .i64 n] 31)).alloc (.cells #[.bool s, .int .u64 (ah : Int), .int .u64 (al : Int)] 29) := ⟨_, rfl⟩
  have HB0 : Hid (Below w.heap.size w w0) := Lib.hid (by rw [hw0]; exact ((Below.refl _ _).alloc (Nat.le_refl _) _).alloc (by simp) _)
  have HR : Hid (Lies w0 w.heap.size 31 #[.bool six, .int .u64 (hi : Int), .int .u64 (lo : Int), .int .i64 n]) := Lib.hid (by rw [hw0]; exact (Lies.new w _ _).alloc _)
  have HA : Hid (Lies w0 (w.heap.size + 1) 29 #[.bool s, .int .u64 (ah : Int), .int .u64 (al : Int)]) := Lib.hid (by
    rw [hw0]
    have := Lies.new (w.alloc (.cells #[.bool six, .int .u64 (hi : Int), .int .u64 (lo : Int), .int .i64 n] 31)) 29 #[.bool s, .int .u64 (ah : Int), .int .u64 (al : Int)]
    rw [show (w.alloc (.cells #[.bool six, .int .u64 (hi : Int), .int .u64 (lo : Int), .int .i64 n] 31)).heap.size = w.heap.size + 1 by simp] at this
    exact this)
  have HM := Lib.hid (fun wx => rgMayBe_any six hi lo n wx h1 h2)
  have HC := Lib.hid (fun wx => aCheck_any s ah al wx h3 h4)
  by_cases e1 : chkR (six, hi, lo) n = 0
  · rw [decide_eq_true e1] at HM
    by_cases e2 : chkA (s, ah, al) = 0
    · rw [e2] at HC
      obtain ⟨b, hb, hn⟩ := chkR_ok e1
      subst hb
      have HH := Lib.hid (fun wx => head_any six hi lo b s ah al wx hn h3 h4)
      obtain ⟨hh, hl, hE⟩ : ∃ hh hl, headR six b (s, ah, al) = (s, hh, hl) := ⟨_, _, rfl⟩
      rw [hE] at HH
      simp only [av] at HH
      obtain ⟨E, hEe⟩ : ∃ E, E = decide (((s, hh, hl) : Ad) = (six, hi, lo)) := ⟨_, rfl⟩
      have EQ : ∀ wx, (Op.equalIn 10000 29 (.agg #[.bool s, .int .u64 (hh : Int), .int .u64 (hl : Int)]) (.agg #[.bool six, .int .u64 (hi : Int), .int .u64 (lo : Int)])).run Tryd.prog wx = .ok E wx := fun wx => by rw [ad_equal, hEe]
      have HE : Hid (hasR (six, hi, lo) (b : Int) (s, ah, al) = E) := Lib.hid (by
        unfold hasR
        rw [hEe, Int.toNat_natCast, hE]
        simp [e1, e2])
      clear e1 e2 hE hEe h1 h2 h3 h4 hn
      go_enter Tryd.func104, Tryd.ntmps104
      go_wp2
      rw [← hw0]
      clear hw0
      obtain ⟨Ix, f, i0, hf0, hCn', hstep'⟩ : ∃ (Ix : Type) (f : Ix → World) (i0 : Ix), w0.drew = f i0 ∧ (∀ n, Below w0.heap.size w0 (f n)) ∧ (∀ n w'', Below (f n).heap.size (f n) w'' → ∃ m, w'' = f m) := ⟨{w' // Below w0.heap.size w0 w'}, Subtype.val, ⟨w0.drew, ⟨rfl, rfl, rfl, Nat.le_refl _, fun _ _ => rfl⟩⟩, rfl, fun n => n.2, fun n w'' h => ⟨⟨w'', next n.2 h⟩, rfl⟩⟩
      have HCn := Lib.hid hCn'
      have Hstep := Lib.hid hstep'
      clear hCn' hstep'
      haveI : Nonempty Ix := ⟨i0⟩
      have k0 : ∀ m, (f m).cell? ⟨w.heap.size, 0, none⟩ = some (.bool six) := fun m => (HR.out.next (HCn.out m)).cell 0
      have k1 : ∀ m, (f m).cell? ⟨w.heap.size, 1, none⟩ = some (.int .u64 (hi : Int)) := fun m => (HR.out.next (HCn.out m)).cell 1
      have k2 : ∀ m, (f m).cell? ⟨w.heap.size, 2, none⟩ = some (.int .u64 (lo : Int)) := fun m => (HR.out.next (HCn.out m)).cell 2
      have k3 : ∀ m, (f m).cell? ⟨w.heap.size, 3, none⟩ = some (.int .i64 (b : Int)) := fun m => (HR.out.next (HCn.out m)).cell 3
      have l0 : ∀ m, (f m).cell? ⟨w.heap.size + 1, 0, none⟩ = some (.bool s) := fun m => (HA.out.next (HCn.out m)).cell 0
      have l1 : ∀ m, (f m).cell? ⟨w.heap.size + 1, 1, none⟩ = some (.int .u64 (ah : Int)) := fun m => (HA.out.next (HCn.out m)).cell 1
      have l2 : ∀ m, (f m).cell? ⟨w.heap.size + 1, 2, none⟩ = some (.int .u64 (al : Int)) := fun m => (HA.out.next (HCn.out m)).cell 2
      have V0 := Lib.hid (fun n => (HM.out (f n)).mono (fun _ _ h => (⟨h.1, Hstep.out n _ h.2⟩ : _ ∧ ∃ m, _ = f m)))
      have V1 := Lib.hid (fun n => (HC.out (f n)).mono (fun _ _ h => (⟨h.1, Hstep.out n _ h.2⟩ : _ ∧ ∃ m, _ = f m)))
      have V2 := Lib.hid (fun n => (HH.out (f n)).mono (fun _ _ h => (⟨h.1, Hstep.out n _ h.2⟩ : _ ∧ ∃ m, _ = f m)))
      refine wp_region_class f (by kernel_rfl) (lexB_of (by kernel_rfl) (by as_aux_lemma => kernel_rfl)) i0 hf0 ?_
      clear hf0
      repeat (go_big_quiet_step (first | (with_reducible exact V0.out _) | (with_reducible exact V1.out _) | (with_reducible exact V2.out _)))
      all_goals
        refine wpQuiet_nil ?_
        intro _ hw'
        obtain ⟨nE, hw''⟩ := hw'
        subst hw''
        have hbE := next HB0.out (HCn.out nE)
        go_wp2
        go_ret
        exact ⟨by rw [HE.out]; rfl, hbE⟩
    · obtain ⟨c, hc⟩ : ∃ c, c = chkA (s, ah, al) := ⟨_, rfl⟩
      have HE : Hid (hasR (six, hi, lo) n (s, ah, al) = false) := Lib.hid (by unfold hasR; simp [e2])
      rw [← hc] at HC e2
      have hce : ((c : Int) == 0) = false := by rw [beq_eq_false_iff_ne]; omega
      clear e1 e2 hc h1 h2 h3 h4
      go_enter Tryd.func104, Tryd.ntmps104
      go_wp2
      rw [← hw0]
      clear hw0
      obtain ⟨Ix, f, i0, hf0, hCn', hstep'⟩ : ∃ (Ix : Type) (f : Ix → World) (i0 : Ix), w0.drew = f i0 ∧ (∀ n, Below w0.heap.size w0 (f n)) ∧ (∀ n w'', Below (f n).heap.size (f n) w'' → ∃ m, w'' = f m) := ⟨{w' // Below w0.heap.size w0 w'}, Subtype.val, ⟨w0.drew, ⟨rfl, rfl, rfl, Nat.le_refl _, fun _ _ => rfl⟩⟩, rfl, fun n => n.2, fun n w'' h => ⟨⟨w'', next n.2 h⟩, rfl⟩⟩
      have HCn := Lib.hid hCn'
      have Hstep := Lib.hid hstep'
      clear hCn' hstep'
      haveI : Nonempty Ix := ⟨i0⟩
      have k0 : ∀ m, (f m).cell? ⟨w.heap.size, 0, none⟩ = some (.bool six) := fun m => (HR.out.next (HCn.out m)).cell 0
      have k1 : ∀ m, (f m).cell? ⟨w.heap.size, 1, none⟩ = some (.int .u64 (hi : Int)) := fun m => (HR.out.next (HCn.out m)).cell 1
      have k2 : ∀ m, (f m).cell? ⟨w.heap.size, 2, none⟩ = some (.int .u64 (lo : Int)) := fun m => (HR.out.next (HCn.out m)).cell 2
      have k3 : ∀ m, (f m).cell? ⟨w.heap.size, 3, none⟩ = some (.int .i64 n) := fun m => (HR.out.next (HCn.out m)).cell 3
      have l0 : ∀ m, (f m).cell? ⟨w.heap.size + 1, 0, none⟩ = some (.bool s) := fun m => (HA.out.next (HCn.out m)).cell 0
      have l1 : ∀ m, (f m).cell? ⟨w.heap.size + 1, 1, none⟩ = some (.int .u64 (ah : Int)) := fun m => (HA.out.next (HCn.out m)).cell 1
      have l2 : ∀ m, (f m).cell? ⟨w.heap.size + 1, 2, none⟩ = some (.int .u64 (al : Int)) := fun m => (HA.out.next (HCn.out m)).cell 2
      have V0 := Lib.hid (fun n => (HM.out (f n)).mono (fun _ _ h => (⟨h.1, Hstep.out n _ h.2⟩ : _ ∧ ∃ m, _ = f m)))
      have V1 := Lib.hid (fun n => (HC.out (f n)).mono (fun _ _ h => (⟨h.1, Hstep.out n _ h.2⟩ : _ ∧ ∃ m, _ = f m)))
      refine wp_region_class f (by kernel_rfl) (lexB_of (by kernel_rfl) (by as_aux_lemma => kernel_rfl)) i0 hf0 ?_
      clear hf0
      repeat (go_big_quiet_step (first | (with_reducible exact V0.out _) | (with_reducible exact V1.out _)))
      all_goals
        refine wpQuiet_nil ?_
        intro _ hw'
        obtain ⟨nE, hw''⟩ := hw'
        subst hw''
        have hbE := next HB0.out (HCn.out nE)
        go_wp2
        go_ret
        exact ⟨by rw [HE.out]; rfl, hbE⟩
  · rw [decide_eq_false e1] at HM
    have HE : Hid (hasR (six, hi, lo) n (s, ah, al) = false) := Lib.hid (by unfold hasR; simp [e1])
    clear e1 h1 h2 h3 h4
    go_enter Tryd.func104, Tryd.ntmps104
    go_wp2
    rw [← hw0]
    clear hw0
    obtain ⟨Ix, f, i0, hf0, hCn', hstep'⟩ : ∃ (Ix : Type) (f : Ix → World) (i0 : Ix), w0.drew = f i0 ∧ (∀ n, Below w0.heap.size w0 (f n)) ∧ (∀ n w'', Below (f n).heap.size (f n) w'' → ∃ m, w'' = f m) := ⟨{w' // Below w0.heap.size w0 w'}, Subtype.val, ⟨w0.drew, ⟨rfl, rfl, rfl, Nat.le_refl _, fun _ _ => rfl⟩⟩, rfl, fun n => n.2, fun n w'' h => ⟨⟨w'', next n.2 h⟩, rfl⟩⟩
    have HCn := Lib.hid hCn'
    have Hstep := Lib.hid hstep'
    clear hCn' hstep'
    haveI : Nonempty Ix := ⟨i0⟩
    have k0 : ∀ m, (f m).cell? ⟨w.heap.size, 0, none⟩ = some (.bool six) := fun m => (HR.out.next (HCn.out m)).cell 0
    have k1 : ∀ m, (f m).cell? ⟨w.heap.size, 1, none⟩ = some (.int .u64 (hi : Int)) := fun m => (HR.out.next (HCn.out m)).cell 1
    have k2 : ∀ m, (f m).cell? ⟨w.heap.size, 2, none⟩ = some (.int .u64 (lo : Int)) := fun m => (HR.out.next (HCn.out m)).cell 2
    have k3 : ∀ m, (f m).cell? ⟨w.heap.size, 3, none⟩ = some (.int .i64 n) := fun m => (HR.out.next (HCn.out m)).cell 3
    have l0 : ∀ m, (f m).cell? ⟨w.heap.size + 1, 0, none⟩ = some (.bool s) := fun m => (HA.out.next (HCn.out m)).cell 0
    have l1 : ∀ m, (f m).cell? ⟨w.heap.size + 1, 1, none⟩ = some (.int .u64 (ah : Int)) := fun m => (HA.out.next (HCn.out m)).cell 1
    have l2 : ∀ m, (f m).cell? ⟨w.heap.size + 1, 2, none⟩ = some (.int .u64 (al : Int)) := fun m => (HA.out.next (HCn.out m)).cell 2
    have V0 := Lib.hid (fun n => (HM.out (f n)).mono (fun _ _ h => (⟨h.1, Hstep.out n _ h.2⟩ : _ ∧ ∃ m, _ = f m)))
    have V1 := Lib.hid (fun n => (HC.out (f n)).mono (fun _ _ h => (⟨h.1, Hstep.out n _ h.2⟩ : _ ∧ ∃ m, _ = f m)))
    refine wp_region_class f (by kernel_rfl) (lexB_of (by kernel_rfl) (by as_aux_lemma => kernel_rfl)) i0 hf0 ?_
    clear hf0
    repeat (go_big_quiet_step (first | (with_reducible exact V0.out _) | (with_reducible exact V1.out _)))
    all_goals
      refine wpQuiet_nil ?_
      intro _ hw'
      obtain ⟨nE, hw''⟩ := hw'
      subst hw''
      have hbE := next HB0.out (HCn.out nE)
      go_wp2
      go_ret
      exact ⟨by rw [HE.out]; rfl, hbE⟩
end Go.Proofs.YthlabpbplikjbaaDoor
namespace Go.Proofs.YthlabpbplikjbaaDoor
open Go.RowKit
set_option linter.unusedVariables false

/-- Two ranges' boxes lie. -/
def RR2 (w wr : World) (six : Bool) (hi lo : Nat) (n : Int) (s : Bool) (ah al : Nat) (m : Int) : Prop :=
  Lies wr w.heap.size 31 #[.bool six, .int .u64 (hi : Int), .int .u64 (lo : Int), .int .i64 n] ∧ Lies wr (w.heap.size + 1) 31 #[.bool s, .int .u64 (ah : Int), .int .u64 (al : Int), .int .i64 m] ∧ Below w.heap.size w wr
theorem RR2.next {w wr w' : World} {six : Bool} {hi lo : Nat} {n : Int} {s : Bool} {ah al : Nat} {m : Int} (r : RR2 w wr six hi lo n s ah al m) (hb : Below wr.heap.size wr w') : RR2 w w' six hi lo n s ah al m :=
  ⟨r.1.next hb, r.2.1.next hb, r.2.2.trans (hb.mono r.2.2.size)⟩
theorem RR2.cells {w wr : World} {six : Bool} {hi lo : Nat} {n : Int} {s : Bool} {ah al : Nat} {m : Int} (r : RR2 w wr six hi lo n s ah al m) :
    (wr.cell? ⟨w.heap.size, 0, none⟩ = some (.bool six) ∧ wr.cell? ⟨w.heap.size, 1, none⟩ = some (.int .u64 (hi : Int)) ∧ wr.cell? ⟨w.heap.size, 2, none⟩ = some (.int .u64 (lo : Int)) ∧ wr.cell? ⟨w.heap.size, 3, none⟩ = some (.int .i64 n)) ∧
    wr.cell? ⟨w.heap.size + 1, 0, none⟩ = some (.bool s) ∧ wr.cell? ⟨w.heap.size + 1, 1, none⟩ = some (.int .u64 (ah : Int)) ∧ wr.cell? ⟨w.heap.size + 1, 2, none⟩ = some (.int .u64 (al : Int)) ∧ wr.cell? ⟨w.heap.size + 1, 3, none⟩ = some (.int .i64 m) :=
  ⟨⟨r.1.cell 0, r.1.cell 1, r.1.cell 2, r.1.cell 3⟩, r.2.1.cell 0, r.2.1.cell 1, r.2.1.cell 2, r.2.1.cell 3⟩
theorem RR2.start {w : World} {six : Bool} {hi lo : Nat} {n : Int} {s : Bool} {ah al : Nat} {m : Int} : RR2 w ((w.alloc (.cells #[.bool six, .int .u64 (hi : Int), .int .u64 (lo : Int), .int .i64 n] 31)).alloc (.cells #[.bool s, .int .u64 (ah : Int), .int .u64 (al : Int), .int .i64 m] 31)) six hi lo n s ah al m := by
  have := Lies.new (w.alloc (.cells #[.bool six, .int .u64 (hi : Int), .int .u64 (lo : Int), .int .i64 n] 31)) 31 #[.bool s, .int .u64 (ah : Int), .int .u64 (al : Int), .int .i64 m]
  rw [show (w.alloc (.cells #[.bool six, .int .u64 (hi : Int), .int .u64 (lo : Int), .int .i64 n] 31)).heap.size = w.heap.size + 1 by simp] at this
  exact ⟨(Lies.new w _ _).alloc _, this, ((Below.refl _ _).alloc (Nat.le_refl _) _).alloc (by simp) _⟩
set_option maxHeartbeats 2000000 in
theorem rMeet_any (six : Bool) (hi lo : Nat) (n : Int) (s : Bool) (ah al : Nat) (m : Int) (w : World) (h1 : hi < 18446744073709551616) (h2 : lo < 18446744073709551616) (h3 : ah < 18446744073709551616) (h4 : al < 18446744073709551616) :
    Calls Tryd.prog 85 #[.agg #[.bool six, .int .u64 (hi : Int), .int .u64 (lo : Int), .int .i64 n], .agg #[.bool s, .int .u64 (ah : Int), .int .u64 (al : Int), .int .i64 m]] w fun e w' => e = .returned (.bool (meetR (six, hi, lo) n (s, ah, al) m)) ∧ Below w.heap.size w w' := by
  have HM1 := Lib.hid (fun wx => rgMayBe_any six hi lo n wx h1 h2)
  have HM2 := Lib.hid (fun wx => rgMayBe_any s ah al m wx h3 h4)
  have HH1 := Lib.hid (fun wx => rHas_any six hi lo n s ah al wx h1 h2 h3 h4)
  have HH2 := Lib.hid (fun wx => rHas_any s ah al m six hi lo wx h3 h4 h1 h2)
  obtain ⟨p, hp⟩ : ∃ p, p = decide (chkR (six, hi, lo) n = 0) := ⟨_, rfl⟩
  obtain ⟨q, hq⟩ : ∃ q, q = decide (chkR (s, ah, al) m = 0) := ⟨_, rfl⟩
  obtain ⟨x, hx⟩ : ∃ x, x = hasR (six, hi, lo) n (s, ah, al) := ⟨_, rfl⟩
  obtain ⟨y, hy⟩ : ∃ y, y = hasR (s, ah, al) m (six, hi, lo) := ⟨_, rfl⟩
  have he : meetR (six, hi, lo) n (s, ah, al) m = (p && (q && (x || y))) := by
    unfold meetR
    rw [hp, hq, hx, hy]
    simp only [Bool.decide_and, Bool.decide_or, Bool.decide_eq_true]
  rw [← hp] at HM1
  rw [← hq] at HM2
  rw [← hx] at HH1
  rw [← hy] at HH2
  rw [he]
  have HS := Lib.hid (RR2.start (w := w) (six := six) (hi := hi) (lo := lo) (n := n) (s := s) (ah := ah) (al := al) (m := m))
  clear hp hq hx hy he h1 h2 h3 h4
  rcases p with _ | _ <;> rcases q with _ | _ <;> rcases x with _ | _ <;> rcases y with _ | _
  all_goals
    go_enter Tryd.func85, Tryd.ntmps85
    go_wp2_with (first | (go_at_call 83; (first | (with_reducible refine (HM1.out _).mono ?_) | (with_reducible refine (HM2.out _).mono ?_)); rintro e w1 ⟨rfl, hb⟩; replace HS := Lib.hid (HS.out.next hb); obtain ⟨⟨a0, a1, a2, a3⟩, b0, b1, b2, b3⟩ := HS.out.cells; clear hb) | (go_at_call 104; (first | (with_reducible refine (HH1.out _).mono ?_) | (with_reducible refine (HH2.out _).mono ?_)); rintro e w1 ⟨rfl, hb⟩; replace HS := Lib.hid (HS.out.next hb); obtain ⟨⟨a0, a1, a2, a3⟩, b0, b1, b2, b3⟩ := HS.out.cells; clear hb))
    go_ret
    exact ⟨rfl, HS.out.2.2⟩
end Go.Proofs.YthlabpbplikjbaaDoor
