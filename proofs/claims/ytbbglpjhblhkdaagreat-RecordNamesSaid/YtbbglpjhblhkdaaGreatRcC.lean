/-
  Records and questions: held against one another, counted: the walks of record.SameQuestion, Same, Size. Conditions: Go can have them.
-/
import Derived.Test.YtbbglpjhblhkdaaGreatRcM1
import Derived.Test.YtbbglpjhblhkdaaGreatQui
import Derived.Laws.StructEq
import Derived.ChangeKeysEq
namespace Go.Proofs.YtbbglpjhblhkdaaGreat
open Go.RowKit Go.Maps
set_option linter.unusedVariables false
set_option maxRecDepth 100000

theorem q_eql (a b : MQ) (w : World) : (Op.equalIn 10000 38 (questV a) (questV b)).run Tryz.prog w = .ok (sameQ a b) w := by
  have hS : Tryz.prog.underlying 38 = some (.struct (Tryz.prog.fieldsOf 38)) := by kernel_rfl
  have hp : Tryz.prog.stoodInHeld 38 = false := by kernel_rfl
  unfold questV cellsQ
  rw [show (10000 : Nat) = 9999 + 1 from rfl, run_equalIn_agg w 9999 38 _ _ hS hp]
  simp only [Program.fieldsOf, Tryz.underlying38]
  clear hS hp
  go_simp
  unfold sameQ
  simp only [bs_toList]
  by_cases h0 : bs a.n = bs b.n
  · by_cases h1 : a.t = b.t
    · by_cases h2 : a.c = b.c
      · simp [h0, h1, h2]
      · simp [h0, h1, h2]
    · simp [h0, h1]
  · simp [h0]
theorem rcSameQ_any (a b : MQ) (w : World) : Calls Tryz.prog 14 #[questV a, questV b] w (Told w (.bool (sameQ a b))) := by
  have HE := q_eql a b
  have HB : Hid (∀ o p : Obj, Below w.heap.size w ((w.alloc o).alloc p)) := Lib.hid fun o p => ((Below.refl _ _).alloc (Nat.le_refl _) o).alloc (by simp) p
  obtain ⟨c, hc⟩ : ∃ x, sameQ a b = x := ⟨_, rfl⟩
  rw [hc] at HE ⊢
  clear hc
  unfold questV cellsQ at *
  go_enter Tryz.func14, Tryz.ntmps14
  go_wp2
  go_ret
  exact ⟨rfl, HB.out _ _⟩
set_option maxHeartbeats 4000000 in
theorem rcSame_0 (a b : MR) (ta tb : Value) (w : World) (fa : FitR w a ta) (fb : FitR w b tb) (z0 : sameQ a.q b.q = false) : Calls Tryz.prog 20 #[recV a ta, recV b tb] w (Told w (.bool (sameR a b))) := by
  obtain ⟨W, hW⟩ : ∃ W, W = (w.alloc (.cells (cellsR a ta) 33)).alloc (.cells (cellsR b tb) 33) := ⟨_, rfl⟩
  have hB : Below w.heap.size w W := by rw [hW]; exact ((Below.refl _ w).alloc (Nat.le_refl _) _).alloc (by simp) _
  have hL1 : Lies W w.heap.size 33 (cellsR a ta) := by rw [hW]; exact (Lies.new w _ _).alloc _
  have hL2 : Lies W (w.heap.size + 1) 33 (cellsR b tb) := by
    rw [hW]
    have := Lies.new (w.alloc (.cells (cellsR a ta) 33)) 33 (cellsR b tb)
    rwa [show (w.alloc (.cells (cellsR a ta) 33)).heap.size = w.heap.size + 1 from by simp] at this
  obtain ⟨A, ca, hta, _, _⟩ := fa.d.row.shape
  obtain ⟨B, cb, htb, _, _⟩ := fb.d.row.shape
  obtain ⟨na, hta⟩ : ∃ n, ta = Value.slice A n ca := ⟨_, hta⟩
  obtain ⟨nb, htb⟩ : ∃ n, tb = Value.slice B n cb := ⟨_, htb⟩
  have hHa := fun wx => head_any a ta wx ⟨A, na, ca, hta⟩
  have hHb := fun wx => head_any b tb wx ⟨B, nb, cb, htb⟩
  have hQ := fun wx => rcSameQ_any a.q b.q wx
  have hS := fun wx (hb : Below W.heap.size W wx) => Same_any a.d b.d ta tb wx ((fa.d.next hB).next hb) ((fb.d.next hB).next hb)
  have HV : Hid (sameR a b = (sameQ a.q b.q && decide (a.x = b.x) && sameD a.d b.d)) := Lib.hid rfl
  obtain ⟨sd, hsd⟩ : ∃ x, sameD a.d b.d = x := ⟨_, rfl⟩
  rw [z0] at hQ HV
  rw [hsd] at hS HV
  obtain ⟨Ix, f, i0, hf0, hCn', hstep'⟩ := class_ofC W
  have HCn := Lib.hid hCn'
  have Hst := Lib.hid hstep'
  haveI : Nonempty Ix := ⟨i0⟩
  have x0 := fun n => (lies16 (hL1.next (hCn' n))).1
  have x1 := fun n => (lies16 (hL1.next (hCn' n))).2.1
  have x2 := fun n => (lies16 (hL1.next (hCn' n))).2.2.1
  have x3 := fun n => (lies16 (hL1.next (hCn' n))).2.2.2.1
  have x4 := fun n => (lies16 (hL1.next (hCn' n))).2.2.2.2.1
  have x5 := fun n => (lies16 (hL1.next (hCn' n))).2.2.2.2.2.1
  have x6 := fun n => (lies16 (hL1.next (hCn' n))).2.2.2.2.2.2.1
  have x7 := fun n => (lies16 (hL1.next (hCn' n))).2.2.2.2.2.2.2.1
  have x8 := fun n => (lies16 (hL1.next (hCn' n))).2.2.2.2.2.2.2.2.1
  have x9 := fun n => (lies16 (hL1.next (hCn' n))).2.2.2.2.2.2.2.2.2.1
  have x10 := fun n => (lies16 (hL1.next (hCn' n))).2.2.2.2.2.2.2.2.2.2.1
  have x11 := fun n => (lies16 (hL1.next (hCn' n))).2.2.2.2.2.2.2.2.2.2.2.1
  have x12 := fun n => (lies16 (hL1.next (hCn' n))).2.2.2.2.2.2.2.2.2.2.2.2.1
  have x13 := fun n => (lies16 (hL1.next (hCn' n))).2.2.2.2.2.2.2.2.2.2.2.2.2.1
  have x14 := fun n => (lies16 (hL1.next (hCn' n))).2.2.2.2.2.2.2.2.2.2.2.2.2.2.1
  have x15 := fun n => (lies16 (hL1.next (hCn' n))).2.2.2.2.2.2.2.2.2.2.2.2.2.2.2
  have y0 := fun n => (lies16 (hL2.next (hCn' n))).1
  have y1 := fun n => (lies16 (hL2.next (hCn' n))).2.1
  have y2 := fun n => (lies16 (hL2.next (hCn' n))).2.2.1
  have y3 := fun n => (lies16 (hL2.next (hCn' n))).2.2.2.1
  have y4 := fun n => (lies16 (hL2.next (hCn' n))).2.2.2.2.1
  have y5 := fun n => (lies16 (hL2.next (hCn' n))).2.2.2.2.2.1
  have y6 := fun n => (lies16 (hL2.next (hCn' n))).2.2.2.2.2.2.1
  have y7 := fun n => (lies16 (hL2.next (hCn' n))).2.2.2.2.2.2.2.1
  have y8 := fun n => (lies16 (hL2.next (hCn' n))).2.2.2.2.2.2.2.2.1
  have y9 := fun n => (lies16 (hL2.next (hCn' n))).2.2.2.2.2.2.2.2.2.1
  have y10 := fun n => (lies16 (hL2.next (hCn' n))).2.2.2.2.2.2.2.2.2.2.1
  have y11 := fun n => (lies16 (hL2.next (hCn' n))).2.2.2.2.2.2.2.2.2.2.2.1
  have y12 := fun n => (lies16 (hL2.next (hCn' n))).2.2.2.2.2.2.2.2.2.2.2.2.1
  have y13 := fun n => (lies16 (hL2.next (hCn' n))).2.2.2.2.2.2.2.2.2.2.2.2.2.1
  have y14 := fun n => (lies16 (hL2.next (hCn' n))).2.2.2.2.2.2.2.2.2.2.2.2.2.2.1
  have y15 := fun n => (lies16 (hL2.next (hCn' n))).2.2.2.2.2.2.2.2.2.2.2.2.2.2.2
  have HZ := Lib.hid (fun n => hB.trans ((hCn' n).mono hB.size))
  have V0 : Hid (∀ n, Calls Tryz.prog 31 #[recV a ta] (f n) fun e w'' => e = .returned (questV a.q) ∧ ∃ m, w'' = f m) := Lib.hid fun n => (hHa (f n)).mono fun _ _ h => ⟨h.1, hstep' n _ h.2⟩
  have V1 : Hid (∀ n, Calls Tryz.prog 31 #[recV b tb] (f n) fun e w'' => e = .returned (questV b.q) ∧ ∃ m, w'' = f m) := Lib.hid fun n => (hHb (f n)).mono fun _ _ h => ⟨h.1, hstep' n _ h.2⟩
  have V2 := Lib.hid (fun n => (hQ (f n)).mono (fun _ _ h => (⟨h.1, hstep' n _ h.2⟩ : _ ∧ ∃ m, _ = f m)))
  have V3 := Lib.hid (fun n => (hS (f n) (hCn' n)).mono (fun _ _ h => (⟨h.1, hstep' n _ h.2⟩ : _ ∧ ∃ m, _ = f m)))
  clear hHa hHb hQ hS hL1 hL2 hB z0 hsd fa fb hCn' hstep' HCn Hst
  subst hta htb
  unfold dataV cellsD recV cellsR questV cellsQ at *
  go_enter Tryz.func20, Tryz.ntmps20
  go_upto_region 1 with (fail)
  rw [← hW]
  clear hW
  refine wp_region_class f (by kernel_rfl) (lexB_of (by kernel_rfl) (by as_aux_lemma => kernel_rfl)) i0 hf0 ?_
  clear hf0
  repeat (go_big_quiet_step (first | (with_reducible exact V0.out _) | (with_reducible exact V1.out _) | (with_reducible exact V2.out _) | (with_reducible exact V3.out _)))
  all_goals
    refine wpQuiet_nil ?_
    intro _ hw'
    obtain ⟨nE, hw''⟩ := hw'
    subst hw''
    have hbE := HZ.out nE
    go_wp2
    go_ret
    rw [HV.out]
    exact ⟨rfl, hbE⟩
set_option maxHeartbeats 4000000 in
theorem rcSame_1 (a b : MR) (ta tb : Value) (w : World) (fa : FitR w a ta) (fb : FitR w b tb) (z0 : sameQ a.q b.q = true) (hx : ¬ a.x = b.x) : Calls Tryz.prog 20 #[recV a ta, recV b tb] w (Told w (.bool (sameR a b))) := by
  obtain ⟨W, hW⟩ : ∃ W, W = (w.alloc (.cells (cellsR a ta) 33)).alloc (.cells (cellsR b tb) 33) := ⟨_, rfl⟩
  have hB : Below w.heap.size w W := by rw [hW]; exact ((Below.refl _ w).alloc (Nat.le_refl _) _).alloc (by simp) _
  have hL1 : Lies W w.heap.size 33 (cellsR a ta) := by rw [hW]; exact (Lies.new w _ _).alloc _
  have hL2 : Lies W (w.heap.size + 1) 33 (cellsR b tb) := by
    rw [hW]
    have := Lies.new (w.alloc (.cells (cellsR a ta) 33)) 33 (cellsR b tb)
    rwa [show (w.alloc (.cells (cellsR a ta) 33)).heap.size = w.heap.size + 1 from by simp] at this
  obtain ⟨A, ca, hta, _, _⟩ := fa.d.row.shape
  obtain ⟨B, cb, htb, _, _⟩ := fb.d.row.shape
  obtain ⟨na, hta⟩ : ∃ n, ta = Value.slice A n ca := ⟨_, hta⟩
  obtain ⟨nb, htb⟩ : ∃ n, tb = Value.slice B n cb := ⟨_, htb⟩
  have hHa := fun wx => head_any a ta wx ⟨A, na, ca, hta⟩
  have hHb := fun wx => head_any b tb wx ⟨B, nb, cb, htb⟩
  have hQ := fun wx => rcSameQ_any a.q b.q wx
  have hS := fun wx (hb : Below W.heap.size W wx) => Same_any a.d b.d ta tb wx ((fa.d.next hB).next hb) ((fb.d.next hB).next hb)
  have HV : Hid (sameR a b = (sameQ a.q b.q && decide (a.x = b.x) && sameD a.d b.d)) := Lib.hid rfl
  obtain ⟨sd, hsd⟩ : ∃ x, sameD a.d b.d = x := ⟨_, rfl⟩
  rw [z0] at hQ HV
  rw [hsd] at hS HV
  obtain ⟨Ix, f, i0, hf0, hCn', hstep'⟩ := class_ofC W
  have HCn := Lib.hid hCn'
  have Hst := Lib.hid hstep'
  haveI : Nonempty Ix := ⟨i0⟩
  have x0 := fun n => (lies16 (hL1.next (hCn' n))).1
  have x1 := fun n => (lies16 (hL1.next (hCn' n))).2.1
  have x2 := fun n => (lies16 (hL1.next (hCn' n))).2.2.1
  have x3 := fun n => (lies16 (hL1.next (hCn' n))).2.2.2.1
  have x4 := fun n => (lies16 (hL1.next (hCn' n))).2.2.2.2.1
  have x5 := fun n => (lies16 (hL1.next (hCn' n))).2.2.2.2.2.1
  have x6 := fun n => (lies16 (hL1.next (hCn' n))).2.2.2.2.2.2.1
  have x7 := fun n => (lies16 (hL1.next (hCn' n))).2.2.2.2.2.2.2.1
  have x8 := fun n => (lies16 (hL1.next (hCn' n))).2.2.2.2.2.2.2.2.1
  have x9 := fun n => (lies16 (hL1.next (hCn' n))).2.2.2.2.2.2.2.2.2.1
  have x10 := fun n => (lies16 (hL1.next (hCn' n))).2.2.2.2.2.2.2.2.2.2.1
  have x11 := fun n => (lies16 (hL1.next (hCn' n))).2.2.2.2.2.2.2.2.2.2.2.1
  have x12 := fun n => (lies16 (hL1.next (hCn' n))).2.2.2.2.2.2.2.2.2.2.2.2.1
  have x13 := fun n => (lies16 (hL1.next (hCn' n))).2.2.2.2.2.2.2.2.2.2.2.2.2.1
  have x14 := fun n => (lies16 (hL1.next (hCn' n))).2.2.2.2.2.2.2.2.2.2.2.2.2.2.1
  have x15 := fun n => (lies16 (hL1.next (hCn' n))).2.2.2.2.2.2.2.2.2.2.2.2.2.2.2
  have y0 := fun n => (lies16 (hL2.next (hCn' n))).1
  have y1 := fun n => (lies16 (hL2.next (hCn' n))).2.1
  have y2 := fun n => (lies16 (hL2.next (hCn' n))).2.2.1
  have y3 := fun n => (lies16 (hL2.next (hCn' n))).2.2.2.1
  have y4 := fun n => (lies16 (hL2.next (hCn' n))).2.2.2.2.1
  have y5 := fun n => (lies16 (hL2.next (hCn' n))).2.2.2.2.2.1
  have y6 := fun n => (lies16 (hL2.next (hCn' n))).2.2.2.2.2.2.1
  have y7 := fun n => (lies16 (hL2.next (hCn' n))).2.2.2.2.2.2.2.1
  have y8 := fun n => (lies16 (hL2.next (hCn' n))).2.2.2.2.2.2.2.2.1
  have y9 := fun n => (lies16 (hL2.next (hCn' n))).2.2.2.2.2.2.2.2.2.1
  have y10 := fun n => (lies16 (hL2.next (hCn' n))).2.2.2.2.2.2.2.2.2.2.1
  have y11 := fun n => (lies16 (hL2.next (hCn' n))).2.2.2.2.2.2.2.2.2.2.2.1
  have y12 := fun n => (lies16 (hL2.next (hCn' n))).2.2.2.2.2.2.2.2.2.2.2.2.1
  have y13 := fun n => (lies16 (hL2.next (hCn' n))).2.2.2.2.2.2.2.2.2.2.2.2.2.1
  have y14 := fun n => (lies16 (hL2.next (hCn' n))).2.2.2.2.2.2.2.2.2.2.2.2.2.2.1
  have y15 := fun n => (lies16 (hL2.next (hCn' n))).2.2.2.2.2.2.2.2.2.2.2.2.2.2.2
  have HZ := Lib.hid (fun n => hB.trans ((hCn' n).mono hB.size))
  have V0 : Hid (∀ n, Calls Tryz.prog 31 #[recV a ta] (f n) fun e w'' => e = .returned (questV a.q) ∧ ∃ m, w'' = f m) := Lib.hid fun n => (hHa (f n)).mono fun _ _ h => ⟨h.1, hstep' n _ h.2⟩
  have V1 : Hid (∀ n, Calls Tryz.prog 31 #[recV b tb] (f n) fun e w'' => e = .returned (questV b.q) ∧ ∃ m, w'' = f m) := Lib.hid fun n => (hHb (f n)).mono fun _ _ h => ⟨h.1, hstep' n _ h.2⟩
  have V2 := Lib.hid (fun n => (hQ (f n)).mono (fun _ _ h => (⟨h.1, hstep' n _ h.2⟩ : _ ∧ ∃ m, _ = f m)))
  have V3 := Lib.hid (fun n => (hS (f n) (hCn' n)).mono (fun _ _ h => (⟨h.1, hstep' n _ h.2⟩ : _ ∧ ∃ m, _ = f m)))
  clear hHa hHb hQ hS hL1 hL2 hB z0 hsd fa fb hCn' hstep' HCn Hst
  subst hta htb
  unfold dataV cellsD recV cellsR questV cellsQ at *
  have hxe : decide (a.x = b.x) = false := decide_eq_false hx
  have hxi : (((a.x : Nat) : Int) == ((b.x : Nat) : Int)) = false := by rw [beq_eq_false_iff_ne]; omega
  have hxd : decide (((a.x : Nat) : Int) = ((b.x : Nat) : Int)) = false := decide_eq_false (by omega)
  rw [hxe] at HV
  clear hx
  go_enter Tryz.func20, Tryz.ntmps20
  go_upto_region 1 with (fail)
  rw [← hW]
  clear hW
  refine wp_region_class f (by kernel_rfl) (lexB_of (by kernel_rfl) (by as_aux_lemma => kernel_rfl)) i0 hf0 ?_
  clear hf0
  repeat (go_big_quiet_step (first | (with_reducible exact V0.out _) | (with_reducible exact V1.out _) | (with_reducible exact V2.out _) | (with_reducible exact V3.out _)))
  all_goals
    refine wpQuiet_nil ?_
    intro _ hw'
    obtain ⟨nE, hw''⟩ := hw'
    subst hw''
    have hbE := HZ.out nE
    go_wp2
    go_ret
    rw [HV.out]
    exact ⟨rfl, hbE⟩
set_option maxHeartbeats 4000000 in
theorem rcSame_2 (a b : MR) (ta tb : Value) (w : World) (fa : FitR w a ta) (fb : FitR w b tb) (z0 : sameQ a.q b.q = true) (hx : a.x = b.x) : Calls Tryz.prog 20 #[recV a ta, recV b tb] w (Told w (.bool (sameR a b))) := by
  obtain ⟨W, hW⟩ : ∃ W, W = (w.alloc (.cells (cellsR a ta) 33)).alloc (.cells (cellsR b tb) 33) := ⟨_, rfl⟩
  have hB : Below w.heap.size w W := by rw [hW]; exact ((Below.refl _ w).alloc (Nat.le_refl _) _).alloc (by simp) _
  have hL1 : Lies W w.heap.size 33 (cellsR a ta) := by rw [hW]; exact (Lies.new w _ _).alloc _
  have hL2 : Lies W (w.heap.size + 1) 33 (cellsR b tb) := by
    rw [hW]
    have := Lies.new (w.alloc (.cells (cellsR a ta) 33)) 33 (cellsR b tb)
    rwa [show (w.alloc (.cells (cellsR a ta) 33)).heap.size = w.heap.size + 1 from by simp] at this
  obtain ⟨A, ca, hta, _, _⟩ := fa.d.row.shape
  obtain ⟨B, cb, htb, _, _⟩ := fb.d.row.shape
  obtain ⟨na, hta⟩ : ∃ n, ta = Value.slice A n ca := ⟨_, hta⟩
  obtain ⟨nb, htb⟩ : ∃ n, tb = Value.slice B n cb := ⟨_, htb⟩
  have hHa := fun wx => head_any a ta wx ⟨A, na, ca, hta⟩
  have hHb := fun wx => head_any b tb wx ⟨B, nb, cb, htb⟩
  have hQ := fun wx => rcSameQ_any a.q b.q wx
  have hS := fun wx (hb : Below W.heap.size W wx) => Same_any a.d b.d ta tb wx ((fa.d.next hB).next hb) ((fb.d.next hB).next hb)
  have HV : Hid (sameR a b = (sameQ a.q b.q && decide (a.x = b.x) && sameD a.d b.d)) := Lib.hid rfl
  obtain ⟨sd, hsd⟩ : ∃ x, sameD a.d b.d = x := ⟨_, rfl⟩
  rw [z0] at hQ HV
  rw [hsd] at hS HV
  obtain ⟨Ix, f, i0, hf0, hCn', hstep'⟩ := class_ofC W
  have HCn := Lib.hid hCn'
  have Hst := Lib.hid hstep'
  haveI : Nonempty Ix := ⟨i0⟩
  have x0 := fun n => (lies16 (hL1.next (hCn' n))).1
  have x1 := fun n => (lies16 (hL1.next (hCn' n))).2.1
  have x2 := fun n => (lies16 (hL1.next (hCn' n))).2.2.1
  have x3 := fun n => (lies16 (hL1.next (hCn' n))).2.2.2.1
  have x4 := fun n => (lies16 (hL1.next (hCn' n))).2.2.2.2.1
  have x5 := fun n => (lies16 (hL1.next (hCn' n))).2.2.2.2.2.1
  have x6 := fun n => (lies16 (hL1.next (hCn' n))).2.2.2.2.2.2.1
  have x7 := fun n => (lies16 (hL1.next (hCn' n))).2.2.2.2.2.2.2.1
  have x8 := fun n => (lies16 (hL1.next (hCn' n))).2.2.2.2.2.2.2.2.1
  have x9 := fun n => (lies16 (hL1.next (hCn' n))).2.2.2.2.2.2.2.2.2.1
  have x10 := fun n => (lies16 (hL1.next (hCn' n))).2.2.2.2.2.2.2.2.2.2.1
  have x11 := fun n => (lies16 (hL1.next (hCn' n))).2.2.2.2.2.2.2.2.2.2.2.1
  have x12 := fun n => (lies16 (hL1.next (hCn' n))).2.2.2.2.2.2.2.2.2.2.2.2.1
  have x13 := fun n => (lies16 (hL1.next (hCn' n))).2.2.2.2.2.2.2.2.2.2.2.2.2.1
  have x14 := fun n => (lies16 (hL1.next (hCn' n))).2.2.2.2.2.2.2.2.2.2.2.2.2.2.1
  have x15 := fun n => (lies16 (hL1.next (hCn' n))).2.2.2.2.2.2.2.2.2.2.2.2.2.2.2
  have y0 := fun n => (lies16 (hL2.next (hCn' n))).1
  have y1 := fun n => (lies16 (hL2.next (hCn' n))).2.1
  have y2 := fun n => (lies16 (hL2.next (hCn' n))).2.2.1
  have y3 := fun n => (lies16 (hL2.next (hCn' n))).2.2.2.1
  have y4 := fun n => (lies16 (hL2.next (hCn' n))).2.2.2.2.1
  have y5 := fun n => (lies16 (hL2.next (hCn' n))).2.2.2.2.2.1
  have y6 := fun n => (lies16 (hL2.next (hCn' n))).2.2.2.2.2.2.1
  have y7 := fun n => (lies16 (hL2.next (hCn' n))).2.2.2.2.2.2.2.1
  have y8 := fun n => (lies16 (hL2.next (hCn' n))).2.2.2.2.2.2.2.2.1
  have y9 := fun n => (lies16 (hL2.next (hCn' n))).2.2.2.2.2.2.2.2.2.1
  have y10 := fun n => (lies16 (hL2.next (hCn' n))).2.2.2.2.2.2.2.2.2.2.1
  have y11 := fun n => (lies16 (hL2.next (hCn' n))).2.2.2.2.2.2.2.2.2.2.2.1
  have y12 := fun n => (lies16 (hL2.next (hCn' n))).2.2.2.2.2.2.2.2.2.2.2.2.1
  have y13 := fun n => (lies16 (hL2.next (hCn' n))).2.2.2.2.2.2.2.2.2.2.2.2.2.1
  have y14 := fun n => (lies16 (hL2.next (hCn' n))).2.2.2.2.2.2.2.2.2.2.2.2.2.2.1
  have y15 := fun n => (lies16 (hL2.next (hCn' n))).2.2.2.2.2.2.2.2.2.2.2.2.2.2.2
  have HZ := Lib.hid (fun n => hB.trans ((hCn' n).mono hB.size))
  have V0 : Hid (∀ n, Calls Tryz.prog 31 #[recV a ta] (f n) fun e w'' => e = .returned (questV a.q) ∧ ∃ m, w'' = f m) := Lib.hid fun n => (hHa (f n)).mono fun _ _ h => ⟨h.1, hstep' n _ h.2⟩
  have V1 : Hid (∀ n, Calls Tryz.prog 31 #[recV b tb] (f n) fun e w'' => e = .returned (questV b.q) ∧ ∃ m, w'' = f m) := Lib.hid fun n => (hHb (f n)).mono fun _ _ h => ⟨h.1, hstep' n _ h.2⟩
  have V2 := Lib.hid (fun n => (hQ (f n)).mono (fun _ _ h => (⟨h.1, hstep' n _ h.2⟩ : _ ∧ ∃ m, _ = f m)))
  have V3 := Lib.hid (fun n => (hS (f n) (hCn' n)).mono (fun _ _ h => (⟨h.1, hstep' n _ h.2⟩ : _ ∧ ∃ m, _ = f m)))
  clear hHa hHb hQ hS hL1 hL2 hB z0 hsd fa fb hCn' hstep' HCn Hst
  subst hta htb
  unfold dataV cellsD recV cellsR questV cellsQ at *
  have hxe : decide (a.x = b.x) = true := decide_eq_true hx
  have hxi : (((a.x : Nat) : Int) == ((b.x : Nat) : Int)) = true := by rw [beq_iff_eq]; omega
  have hxd : decide (((a.x : Nat) : Int) = ((b.x : Nat) : Int)) = true := decide_eq_true (by omega)
  rw [hxe] at HV
  clear hx
  go_enter Tryz.func20, Tryz.ntmps20
  go_upto_region 1 with (fail)
  rw [← hW]
  clear hW
  refine wp_region_class f (by kernel_rfl) (lexB_of (by kernel_rfl) (by as_aux_lemma => kernel_rfl)) i0 hf0 ?_
  clear hf0
  repeat (go_big_quiet_step (first | (with_reducible exact V0.out _) | (with_reducible exact V1.out _) | (with_reducible exact V2.out _) | (with_reducible exact V3.out _)))
  all_goals
    refine wpQuiet_nil ?_
    intro _ hw'
    obtain ⟨nE, hw''⟩ := hw'
    subst hw''
    have hbE := HZ.out nE
    go_wp2
    go_ret
    rw [HV.out]
    exact ⟨rfl, hbE⟩
theorem rcSame_any (a b : MR) (ta tb : Value) (w : World) (fa : FitR w a ta) (fb : FitR w b tb) : Calls Tryz.prog 20 #[recV a ta, recV b tb] w (Told w (.bool (sameR a b))) := by
  cases z0 : sameQ a.q b.q
  · exact rcSame_0 a b ta tb w fa fb z0
  · by_cases hx : a.x = b.x
    · exact rcSame_2 a b ta tb w fa fb z0 hx
    · exact rcSame_1 a b ta tb w fa fb z0 hx
end Go.Proofs.YtbbglpjhblhkdaaGreat
