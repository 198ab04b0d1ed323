/-
  Records and questions: held against one another, counted: the walks of record.SameQuestion, Same, Size. Conditions: Go can have them. A record's octets are counted: the walk of record.Size; the law's own lives. Condition: Go can have the record. The tenth stage's own example (lives) comes out true, whatever the memory. No condition. What is put does not hang on what octets stand ahead, but on how many; data that are put are read back, whatever stands behind: plain mathematics. Conditions as stated. Data, questions, records that are put are read back, whatever stands behind: plain mathematics. Conditions as stated. Questions and records that are put are read back, whatever stands behind: plain mathematics. Conditions as stated. The walk of the law's own light; unlike records have unlike octets. Conditions: as each theorem names them.
-/
import Derived.Test.YtadeflehdfmilaaGreatZk34
import Derived.Test.YtadeflehdfmilaaGreatQui
import Derived.Laws.StructEq
import Derived.ChangeKeysEq
import Derived.Test.YtadeflehdfmilaaGreatZk35
import Derived.Test.YtadeflehdfmilaaGreatZk33
namespace Go.Proofs.YtadeflehdfmilaaGreat
open Go.RowKit Go.Maps
set_option linter.unusedVariables false
set_option maxRecDepth 100000

theorem q_eql (a b : MQ) (w : World) : (Op.equalIn 10000 84 (questV a) (questV b)).run Tryz.prog w = .ok (sameQ a b) w := by
  have hS : Tryz.prog.underlying 84 = some (.struct (Tryz.prog.fieldsOf 84)) := by kernel_rfl
  have hp : Tryz.prog.stoodInHeld 84 = false := by kernel_rfl
  unfold questV cellsQ
  rw [show (10000 : Nat) = 9999 + 1 from rfl, run_equalIn_agg w 9999 84 _ _ hS hp]
  simp only [Program.fieldsOf, Tryz.underlying84]
  clear hS hp
  go_simp
  unfold sameQ
  simp only [bs_toList]
  by_cases h0 : bs a.n = bs b.n
  · by_cases h1 : a.t = b.t
    · by_cases h2 : a.c = b.c
      · simp [h0, h1, h2]
      · simp [h0, h1, h2]
    · simp [h0, h1]
  · simp [h0]
theorem rcSameQ_any (a b : MQ) (w : World) : Calls Tryz.prog 68 #[questV a, questV b] w (Told w (.bool (sameQ a b))) := by
  have HE := q_eql a b
  have HB : Hid (∀ o p : Obj, Below w.heap.size w ((w.alloc o).alloc p)) := Lib.hid fun o p => ((Below.refl _ _).alloc (Nat.le_refl _) o).alloc (by simp) p
  obtain ⟨c, hc⟩ : ∃ x, sameQ a b = x := ⟨_, rfl⟩
  rw [hc] at HE ⊢
  clear hc
  unfold questV cellsQ at *
  go_enter Tryz.func68, Tryz.ntmps68
  go_wp2
  go_ret
  exact ⟨rfl, HB.out _ _⟩
set_option maxHeartbeats 4000000 in
theorem rcSame_0 (a b : MR) (ta tb : Value) (w : World) (fa : FitR w a ta) (fb : FitR w b tb) (z0 : sameQ a.q b.q = false) : Calls Tryz.prog 70 #[recV a ta, recV b tb] w (Told w (.bool (sameR a b))) := by
  obtain ⟨W, hW⟩ : ∃ W, W = (w.alloc (.cells (cellsR a ta) 32)).alloc (.cells (cellsR b tb) 32) := ⟨_, rfl⟩
  have hB : Below w.heap.size w W := by rw [hW]; exact ((Below.refl _ w).alloc (Nat.le_refl _) _).alloc (by simp) _
  have hL1 : Lies W w.heap.size 32 (cellsR a ta) := by rw [hW]; exact (Lies.new w _ _).alloc _
  have hL2 : Lies W (w.heap.size + 1) 32 (cellsR b tb) := by
    rw [hW]
    have := Lies.new (w.alloc (.cells (cellsR a ta) 32)) 32 (cellsR b tb)
    rwa [show (w.alloc (.cells (cellsR a ta) 32)).heap.size = w.heap.size + 1 from by simp] at this
  obtain ⟨A, ca, hta, _, _⟩ := fa.d.row.shape
  obtain ⟨B, cb, htb, _, _⟩ := fb.d.row.shape
  obtain ⟨na, hta⟩ : ∃ n, ta = Value.slice A n ca := ⟨_, hta⟩
  obtain ⟨nb, htb⟩ : ∃ n, tb = Value.slice B n cb := ⟨_, htb⟩
  have hHa := fun wx => head_any a ta wx ⟨A, na, ca, hta⟩
  have hHb := fun wx => head_any b tb wx ⟨B, nb, cb, htb⟩
  have hQ := fun wx => rcSameQ_any a.q b.q wx
  have hS := fun wx (hb : Below W.heap.size W wx) => Same_any a.d b.d ta tb wx ((fa.d.next hB).next hb) ((fb.d.next hB).next hb)
  have HV : Hid (sameR a b = (sameQ a.q b.q && decide (a.x = b.x) && sameD a.d b.d)) := Lib.hid rfl
  obtain ⟨sd, hsd⟩ : ∃ x, sameD a.d b.d = x := ⟨_, rfl⟩
  rw [z0] at hQ HV
  rw [hsd] at hS HV
  obtain ⟨Ix, f, i0, hf0, hCn', hstep'⟩ := class_ofC W
  have HCn := Lib.hid hCn'
  have Hst := Lib.hid hstep'
  haveI : Nonempty Ix := ⟨i0⟩
  have x0 := fun n => (lies16 (hL1.next (hCn' n))).1
  have x1 := fun n => (lies16 (hL1.next (hCn' n))).2.1
  have x2 := fun n => (lies16 (hL1.next (hCn' n))).2.2.1
  have x3 := fun n => (lies16 (hL1.next (hCn' n))).2.2.2.1
  have x4 := fun n => (lies16 (hL1.next (hCn' n))).2.2.2.2.1
  have x5 := fun n => (lies16 (hL1.next (hCn' n))).2.2.2.2.2.1
  have x6 := fun n => (lies16 (hL1.next (hCn' n))).2.2.2.2.2.2.1
  have x7 := fun n => (lies16 (hL1.next (hCn' n))).2.2.2.2.2.2.2.1
  have x8 := fun n => (lies16 (hL1.next (hCn' n))).2.2.2.2.2.2.2.2.1
  have x9 := fun n => (lies16 (hL1.next (hCn' n))).2.2.2.2.2.2.2.2.2.1
  have x10 := fun n => (lies16 (hL1.next (hCn' n))).2.2.2.2.2.2.2.2.2.2.1
  have x11 := fun n => (lies16 (hL1.next (hCn' n))).2.2.2.2.2.2.2.2.2.2.2.1
  have x12 := fun n => (lies16 (hL1.next (hCn' n))).2.2.2.2.2.2.2.2.2.2.2.2.1
  have x13 := fun n => (lies16 (hL1.next (hCn' n))).2.2.2.2.2.2.2.2.2.2.2.2.2.1
  have x14 := fun n => (lies16 (hL1.next (hCn' n))).2.2.2.2.2.2.2.2.2.2.2.2.2.2.1
  have x15 := fun n => (lies16 (hL1.next (hCn' n))).2.2.2.2.2.2.2.2.2.2.2.2.2.2.2
  have y0 := fun n => (lies16 (hL2.next (hCn' n))).1
  have y1 := fun n => (lies16 (hL2.next (hCn' n))).2.1
  have y2 := fun n => (lies16 (hL2.next (hCn' n))).2.2.1
  have y3 := fun n => (lies16 (hL2.next (hCn' n))).2.2.2.1
  have y4 := fun n => (lies16 (hL2.next (hCn' n))).2.2.2.2.1
  have y5 := fun n => (lies16 (hL2.next (hCn' n))).2.2.2.2.2.1
  have y6 := fun n => (lies16 (hL2.next (hCn' n))).2.2.2.2.2.2.1
  have y7 := fun n => (lies16 (hL2.next (hCn' n))).2.2.2.2.2.2.2.1
  have y8 := fun n => (lies16 (hL2.next (hCn' n))).2.2.2.2.2.2.2.2.1
  have y9 := fun n => (lies16 (hL2.next (hCn' n))).2.2.2.2.2.2.2.2.2.1
  have y10 := fun n => (lies16 (hL2.next (hCn' n))).2.2.2.2.2.2.2.2.2.2.1
  have y11 := fun n => (lies16 (hL2.next (hCn' n))).2.2.2.2.2.2.2.2.2.2.2.1
  have y12 := fun n => (lies16 (hL2.next (hCn' n))).2.2.2.2.2.2.2.2.2.2.2.2.1
  have y13 := fun n => (lies16 (hL2.next (hCn' n))).2.2.2.2.2.2.2.2.2.2.2.2.2.1
  have y14 := fun n => (lies16 (hL2.next (hCn' n))).2.2.2.2.2.2.2.2.2.2.2.2.2.2.1
  have y15 := fun n => (lies16 (hL2.next (hCn' n))).2.2.2.2.2.2.2.2.2.2.2.2.2.2.2
  have HZ := Lib.hid (fun n => hB.trans ((hCn' n).mono hB.size))
  have V0 : Hid (∀ n, Calls Tryz.prog 38 #[recV a ta] (f n) fun e w'' => e = .returned (questV a.q) ∧ ∃ m, w'' = f m) := Lib.hid fun n => (hHa (f n)).mono fun _ _ h => ⟨h.1, hstep' n _ h.2⟩
  have V1 : Hid (∀ n, Calls Tryz.prog 38 #[recV b tb] (f n) fun e w'' => e = .returned (questV b.q) ∧ ∃ m, w'' = f m) := Lib.hid fun n => (hHb (f n)).mono fun _ _ h => ⟨h.1, hstep' n _ h.2⟩
  have V2 := Lib.hid (fun n => (hQ (f n)).mono (fun _ _ h => (⟨h.1, hstep' n _ h.2⟩ : _ ∧ ∃ m, _ = f m)))
  have V3 := Lib.hid (fun n => (hS (f n) (hCn' n)).mono (fun _ _ h => (⟨h.1, hstep' n _ h.2⟩ : _ ∧ ∃ m, _ = f m)))
  clear hHa hHb hQ hS hL1 hL2 hB z0 hsd fa fb hCn' hstep' HCn Hst
  subst hta htb
  unfold dataV cellsD recV cellsR questV cellsQ at *
  go_enter Tryz.func70, Tryz.ntmps70
  go_upto_region 1 with (fail)
  rw [← hW]
  clear hW
  refine wp_region_class f (by kernel_rfl) (lexB_of (by kernel_rfl) (by as_aux_lemma => kernel_rfl)) i0 hf0 ?_
  clear hf0
  repeat (go_big_quiet_step (first | (with_reducible exact V0.out _) | (with_reducible exact V1.out _) | (with_reducible exact V2.out _) | (with_reducible exact V3.out _)))
  all_goals
    refine wpQuiet_nil ?_
    intro _ hw'
    obtain ⟨nE, hw''⟩ := hw'
    subst hw''
    have hbE := HZ.out nE
    go_wp2
    go_ret
    rw [HV.out]
    exact ⟨rfl, hbE⟩
set_option maxHeartbeats 4000000 in
theorem rcSame_1 (a b : MR) (ta tb : Value) (w : World) (fa : FitR w a ta) (fb : FitR w b tb) (z0 : sameQ a.q b.q = true) (hx : ¬ a.x = b.x) : Calls Tryz.prog 70 #[recV a ta, recV b tb] w (Told w (.bool (sameR a b))) := by
  obtain ⟨W, hW⟩ : ∃ W, W = (w.alloc (.cells (cellsR a ta) 32)).alloc (.cells (cellsR b tb) 32) := ⟨_, rfl⟩
  have hB : Below w.heap.size w W := by rw [hW]; exact ((Below.refl _ w).alloc (Nat.le_refl _) _).alloc (by simp) _
  have hL1 : Lies W w.heap.size 32 (cellsR a ta) := by rw [hW]; exact (Lies.new w _ _).alloc _
  have hL2 : Lies W (w.heap.size + 1) 32 (cellsR b tb) := by
    rw [hW]
    have := Lies.new (w.alloc (.cells (cellsR a ta) 32)) 32 (cellsR b tb)
    rwa [show (w.alloc (.cells (cellsR a ta) 32)).heap.size = w.heap.size + 1 from by simp] at this
  obtain ⟨A, ca, hta, _, _⟩ := fa.d.row.shape
  obtain ⟨B, cb, htb, _, _⟩ := fb.d.row.shape
  obtain ⟨na, hta⟩ : ∃ n, ta = Value.slice A n ca := ⟨_, hta⟩
  obtain ⟨nb, htb⟩ : ∃ n, tb = Value.slice B n cb := ⟨_, htb⟩
  have hHa := fun wx => head_any a ta wx ⟨A, na, ca, hta⟩
  have hHb := fun wx => head_any b tb wx ⟨B, nb, cb, htb⟩
  have hQ := fun wx => rcSameQ_any a.q b.q wx
  have hS := fun wx (hb : Below W.heap.size W wx) => Same_any a.d b.d ta tb wx ((fa.d.next hB).next hb) ((fb.d.next hB).next hb)
  have HV : Hid (sameR a b = (sameQ a.q b.q && decide (a.x = b.x) && sameD a.d b.d)) := Lib.hid rfl
  obtain ⟨sd, hsd⟩ : ∃ x, sameD a.d b.d = x := ⟨_, rfl⟩
  rw [z0] at hQ HV
  rw [hsd] at hS HV
  obtain ⟨Ix, f, i0, hf0, hCn', hstep'⟩ := class_ofC W
  have HCn := Lib.hid hCn'
  have Hst := Lib.hid hstep'
  haveI : Nonempty Ix := ⟨i0⟩
  have x0 := fun n => (lies16 (hL1.next (hCn' n))).1
  have x1 := fun n => (lies16 (hL1.next (hCn' n))).2.1
  have x2 := fun n => (lies16 (hL1.next (hCn' n))).2.2.1
  have x3 := fun n => (lies16 (hL1.next (hCn' n))).2.2.2.1
  have x4 := fun n => (lies16 (hL1.next (hCn' n))).2.2.2.2.1
  have x5 := fun n => (lies16 (hL1.next (hCn' n))).2.2.2.2.2.1
  have x6 := fun n => (lies16 (hL1.next (hCn' n))).2.2.2.2.2.2.1
  have x7 := fun n => (lies16 (hL1.next (hCn' n))).2.2.2.2.2.2.2.1
  have x8 := fun n => (lies16 (hL1.next (hCn' n))).2.2.2.2.2.2.2.2.1
  have x9 := fun n => (lies16 (hL1.next (hCn' n))).2.2.2.2.2.2.2.2.2.1
  have x10 := fun n => (lies16 (hL1.next (hCn' n))).2.2.2.2.2.2.2.2.2.2.1
  have x11 := fun n => (lies16 (hL1.next (hCn' n))).2.2.2.2.2.2.2.2.2.2.2.1
  have x12 := fun n => (lies16 (hL1.next (hCn' n))).2.2.2.2.2.2.2.2.2.2.2.2.1
  have x13 := fun n => (lies16 (hL1.next (hCn' n))).2.2.2.2.2.2.2.2.2.2.2.2.2.1
  have x14 := fun n => (lies16 (hL1.next (hCn' n))).2.2.2.2.2.2.2.2.2.2.2.2.2.2.1
  have x15 := fun n => (lies16 (hL1.next (hCn' n))).2.2.2.2.2.2.2.2.2.2.2.2.2.2.2
  have y0 := fun n => (lies16 (hL2.next (hCn' n))).1
  have y1 := fun n => (lies16 (hL2.next (hCn' n))).2.1
  have y2 := fun n => (lies16 (hL2.next (hCn' n))).2.2.1
  have y3 := fun n => (lies16 (hL2.next (hCn' n))).2.2.2.1
  have y4 := fun n => (lies16 (hL2.next (hCn' n))).2.2.2.2.1
  have y5 := fun n => (lies16 (hL2.next (hCn' n))).2.2.2.2.2.1
  have y6 := fun n => (lies16 (hL2.next (hCn' n))).2.2.2.2.2.2.1
  have y7 := fun n => (lies16 (hL2.next (hCn' n))).2.2.2.2.2.2.2.1
  have y8 := fun n => (lies16 (hL2.next (hCn' n))).2.2.2.2.2.2.2.2.1
  have y9 := fun n => (lies16 (hL2.next (hCn' n))).2.2.2.2.2.2.2.2.2.1
  have y10 := fun n => (lies16 (hL2.next (hCn' n))).2.2.2.2.2.2.2.2.2.2.1
  have y11 := fun n => (lies16 (hL2.next (hCn' n))).2.2.2.2.2.2.2.2.2.2.2.1
  have y12 := fun n => (lies16 (hL2.next (hCn' n))).2.2.2.2.2.2.2.2.2.2.2.2.1
  have y13 := fun n => (lies16 (hL2.next (hCn' n))).2.2.2.2.2.2.2.2.2.2.2.2.2.1
  have y14 := fun n => (lies16 (hL2.next (hCn' n))).2.2.2.2.2.2.2.2.2.2.2.2.2.2.1
  have y15 := fun n => (lies16 (hL2.next (hCn' n))).2.2.2.2.2.2.2.2.2.2.2.2.2.2.2
  have HZ := Lib.hid (fun n => hB.trans ((hCn' n).mono hB.size))
  have V0 : Hid (∀ n, Calls Tryz.prog 38 #[recV a ta] (f n) fun e w'' => e = .returned (questV a.q) ∧ ∃ m, w'' = f m) := Lib.hid fun n => (hHa (f n)).mono fun _ _ h => ⟨h.1, hstep' n _ h.2⟩
  have V1 : Hid (∀ n, Calls Tryz.prog 38 #[recV b tb] (f n) fun e w'' => e = .returned (questV b.q) ∧ ∃ m, w'' = f m) := Lib.hid fun n => (hHb (f n)).mono fun _ _ h => ⟨h.1, hstep' n _ h.2⟩
  have V2 := Lib.hid (fun n => (hQ (f n)).mono (fun _ _ h => (⟨h.1, hstep' n _ h.2⟩ : _ ∧ ∃ m, _ = f m)))
  have V3 := Lib.hid (fun n => (hS (f n) (hCn' n)).mono (fun _ _ h => (⟨h.1, hstep' n _ h.2⟩ : _ ∧ ∃ m, _ = f m)))
  clear hHa hHb hQ hS hL1 hL2 hB z0 hsd fa fb hCn' hstep' HCn Hst
  subst hta htb
  unfold dataV cellsD recV cellsR questV cellsQ at *
  have hxe : decide (a.x = b.x) = false := decide_eq_false hx
  have hxi : (((a.x : Nat) : Int) == ((b.x : Nat) : Int)) = false := by rw [beq_eq_false_iff_ne]; omega
  have hxd : decide (((a.x : Nat) : Int) = ((b.x : Nat) : Int)) = false := decide_eq_false (by omega)
  rw [hxe] at HV
  clear hx
  go_enter Tryz.func70, Tryz.ntmps70
  go_upto_region 1 with (fail)
  rw [← hW]
  clear hW
  refine wp_region_class f (by kernel_rfl) (lexB_of (by kernel_rfl) (by as_aux_lemma => kernel_rfl)) i0 hf0 ?_
  clear hf0
  repeat (go_big_quiet_step (first | (with_reducible exact V0.out _) | (with_reducible exact V1.out _) | (with_reducible exact V2.out _) | (with_reducible exact V3.out _)))
  all_goals
    refine wpQuiet_nil ?_
    intro _ hw'
    obtain ⟨nE, hw''⟩ := hw'
    subst hw''
    have hbE := HZ.out nE
    go_wp2
    go_ret
    rw [HV.out]
    exact ⟨rfl, hbE⟩
set_option maxHeartbeats 4000000 in
theorem rcSame_2 (a b : MR) (ta tb : Value) (w : World) (fa : FitR w a ta) (fb : FitR w b tb) (z0 : sameQ a.q b.q = true) (hx : a.x = b.x) : Calls Tryz.prog 70 #[recV a ta, recV b tb] w (Told w (.bool (sameR a b))) := by
  obtain ⟨W, hW⟩ : ∃ W, W = (w.alloc (.cells (cellsR a ta) 32)).alloc (.cells (cellsR b tb) 32) := ⟨_, rfl⟩
  have hB : Below w.heap.size w W := by rw [hW]; exact ((Below.refl _ w).alloc (Nat.le_refl _) _).alloc (by simp) _
  have hL1 : Lies W w.heap.size 32 (cellsR a ta) := by rw [hW]; exact (Lies.new w _ _).alloc _
  have hL2 : Lies W (w.heap.size + 1) 32 (cellsR b tb) := by
    rw [hW]
    have := Lies.new (w.alloc (.cells (cellsR a ta) 32)) 32 (cellsR b tb)
    rwa [show (w.alloc (.cells (cellsR a ta) 32)).heap.size = w.heap.size + 1 from by simp] at this
  obtain ⟨A, ca, hta, _, _⟩ := fa.d.row.shape
  obtain ⟨B, cb, htb, _, _⟩ := fb.d.row.shape
  obtain ⟨na, hta⟩ : ∃ n, ta = Value.slice A n ca := ⟨_, hta⟩
  obtain ⟨nb, htb⟩ : ∃ n, tb = Value.slice B n cb := ⟨_, htb⟩
  have hHa := fun wx => head_any a ta wx ⟨A, na, ca, hta⟩
  have hHb := fun wx => head_any b tb wx ⟨B, nb, cb, htb⟩
  have hQ := fun wx => rcSameQ_any a.q b.q wx
  have hS := fun wx (hb : Below W.heap.size W wx) => Same_any a.d b.d ta tb wx ((fa.d.next hB).next hb) ((fb.d.next hB).next hb)
  have HV : Hid (sameR a b = (sameQ a.q b.q && decide (a.x = b.x) && sameD a.d b.d)) := Lib.hid rfl
  obtain ⟨sd, hsd⟩ : ∃ x, sameD a.d b.d = x := ⟨_, rfl⟩
  rw [z0] at hQ HV
  rw [hsd] at hS HV
  obtain ⟨Ix, f, i0, hf0, hCn', hstep'⟩ := class_ofC W
  have HCn := Lib.hid hCn'
  have Hst := Lib.hid hstep'
  haveI : Nonempty Ix := ⟨i0⟩
  have x0 := fun n => (lies16 (hL1.next (hCn' n))).1
  have x1 := fun n => (lies16 (hL1.next (hCn' n))).2.1
  have x2 := fun n => (lies16 (hL1.next (hCn' n))).2.2.1
  have x3 := fun n => (lies16 (hL1.next (hCn' n))).2.2.2.1
  have x4 := fun n => (lies16 (hL1.next (hCn' n))).2.2.2.2.1
  have x5 := fun n => (lies16 (hL1.next (hCn' n))).2.2.2.2.2.1
  have x6 := fun n => (lies16 (hL1.next (hCn' n))).2.2.2.2.2.2.1
  have x7 := fun n => (lies16 (hL1.next (hCn' n))).2.2.2.2.2.2.2.1
  have x8 := fun n => (lies16 (hL1.next (hCn' n))).2.2.2.2.2.2.2.2.1
  have x9 := fun n => (lies16 (hL1.next (hCn' n))).2.2.2.2.2.2.2.2.2.1
  have x10 := fun n => (lies16 (hL1.next (hCn' n))).2.2.2.2.2.2.2.2.2.2.1
  have x11 := fun n => (lies16 (hL1.next (hCn' n))).2.2.2.2.2.2.2.2.2.2.2.1
  have x12 := fun n => (lies16 (hL1.next (hCn' n))).2.2.2.2.2.2.2.2.2.2.2.2.1
  have x13 := fun n => (lies16 (hL1.next (hCn' n))).2.2.2.2.2.2.2.2.2.2.2.2.2.1
  have x14 := fun n => (lies16 (hL1.next (hCn' n))).2.2.2.2.2.2.2.2.2.2.2.2.2.2.1
  have x15 := fun n => (lies16 (hL1.next (hCn' n))).2.2.2.2.2.2.2.2.2.2.2.2.2.2.2
  have y0 := fun n => (lies16 (hL2.next (hCn' n))).1
  have y1 := fun n => (lies16 (hL2.next (hCn' n))).2.1
  have y2 := fun n => (lies16 (hL2.next (hCn' n))).2.2.1
  have y3 := fun n => (lies16 (hL2.next (hCn' n))).2.2.2.1
  have y4 := fun n => (lies16 (hL2.next (hCn' n))).2.2.2.2.1
  have y5 := fun n => (lies16 (hL2.next (hCn' n))).2.2.2.2.2.1
  have y6 := fun n => (lies16 (hL2.next (hCn' n))).2.2.2.2.2.2.1
  have y7 := fun n => (lies16 (hL2.next (hCn' n))).2.2.2.2.2.2.2.1
  have y8 := fun n => (lies16 (hL2.next (hCn' n))).2.2.2.2.2.2.2.2.1
  have y9 := fun n => (lies16 (hL2.next (hCn' n))).2.2.2.2.2.2.2.2.2.1
  have y10 := fun n => (lies16 (hL2.next (hCn' n))).2.2.2.2.2.2.2.2.2.2.1
  have y11 := fun n => (lies16 (hL2.next (hCn' n))).2.2.2.2.2.2.2.2.2.2.2.1
  have y12 := fun n => (lies16 (hL2.next (hCn' n))).2.2.2.2.2.2.2.2.2.2.2.2.1
  have y13 := fun n => (lies16 (hL2.next (hCn' n))).2.2.2.2.2.2.2.2.2.2.2.2.2.1
  have y14 := fun n => (lies16 (hL2.next (hCn' n))).2.2.2.2.2.2.2.2.2.2.2.2.2.2.1
  have y15 := fun n => (lies16 (hL2.next (hCn' n))).2.2.2.2.2.2.2.2.2.2.2.2.2.2.2
  have HZ := Lib.hid (fun n => hB.trans ((hCn' n).mono hB.size))
  have V0 : Hid (∀ n, Calls Tryz.prog 38 #[recV a ta] (f n) fun e w'' => e = .returned (questV a.q) ∧ ∃ m, w'' = f m) := Lib.hid fun n => (hHa (f n)).mono fun _ _ h => ⟨h.1, hstep' n _ h.2⟩
  have V1 : Hid (∀ n, Calls Tryz.prog 38 #[recV b tb] (f n) fun e w'' => e = .returned (questV b.q) ∧ ∃ m, w'' = f m) := Lib.hid fun n => (hHb (f n)).mono fun _ _ h => ⟨h.1, hstep' n _ h.2⟩
  have V2 := Lib.hid (fun n => (hQ (f n)).mono (fun _ _ h => (⟨h.1, hstep' n _ h.2⟩ : _ ∧ ∃ m, _ = f m)))
  have V3 := Lib.hid (fun n => (hS (f n) (hCn' n)).mono (fun _ _ h => (⟨h.1, hstep' n _ h.2⟩ : _ ∧ ∃ m, _ = f m)))
  clear hHa hHb hQ hS hL1 hL2 hB z0 hsd fa fb hCn' hstep' HCn Hst
  subst hta htb
  unfold dataV cellsD recV cellsR questV cellsQ at *
  have hxe : decide (a.x = b.x) = true := decide_eq_true hx
  have hxi : (((a.x : Nat) : Int) == ((b.x : Nat) : Int)) = true := by rw [beq_iff_eq]; omega
  have hxd : decide (((a.x : Nat) : Int) = ((b.x : Nat) : Int)) = true := decide_eq_true (by omega)
  rw [hxe] at HV
  clear hx
  go_enter Tryz.func70, Tryz.ntmps70
  go_upto_region 1 with (fail)
  rw [← hW]
  clear hW
  refine wp_region_class f (by kernel_rfl) (lexB_of (by kernel_rfl) (by as_aux_lemma => kernel_rfl)) i0 hf0 ?_
  clear hf0
  repeat (go_big_quiet_step (first | (with_reducible exact V0.out _) | (with_reducible exact V1.out _) | (with_reducible exact V2.out _) | (with_reducible exact V3.out _)))
  all_goals
    refine wpQuiet_nil ?_
    intro _ hw'
    obtain ⟨nE, hw''⟩ := hw'
    subst hw''
    have hbE := HZ.out nE
    go_wp2
    go_ret
    rw [HV.out]
    exact ⟨rfl, hbE⟩
theorem rcSame_any (a b : MR) (ta tb : Value) (w : World) (fa : FitR w a ta) (fb : FitR w b tb) : Calls Tryz.prog 70 #[recV a ta, recV b tb] w (Told w (.bool (sameR a b))) := by
  cases z0 : sameQ a.q b.q
  · exact rcSame_0 a b ta tb w fa fb z0
  · by_cases hx : a.x = b.x
    · exact rcSame_2 a b ta tb w fa fb z0 hx
    · exact rcSame_1 a b ta tb w fa fb z0 hx
end Go.Proofs.YtadeflehdfmilaaGreat
namespace Go.Proofs.YtadeflehdfmilaaGreat
open Go.RowKit Go.Maps
set_option linter.unusedVariables false
set_option maxRecDepth 100000

theorem sizeN_most (x : List UInt8) : sizeN x ≤ 255 := by
  unfold sizeN
  split
  · rename_i h
    have := (chkN_iff.1 h).1
    omega
  · exact Nat.zero_le _
theorem sizeD_most {t : Int} {d : MD} (h : checkD t d = 0) : sizeD t d ≤ 65535 := by
  unfold checkD at h
  unfold sizeD
  split
  · rename_i ht
    rw [if_pos ht] at h
    unfold allK at h
    split
    · exact Nat.zero_le _
    · rename_i hp
      rw [if_neg hp] at h
      split at h
      · cases h
      · omega
  · exact Nat.zero_le _
set_option maxHeartbeats 2000000 in
theorem rcSize_any (r : MR) (tv : Value) (w : World) (hf : FitR w r tv) : Calls Tryz.prog 34 #[recV r tv] w (Told w (.int .i64 (sizeR r : Nat))) := by
  obtain ⟨A, cap, htv, _, _⟩ := hf.d.row.shape
  have htv' : ∃ n, tv = Value.slice A n cap := ⟨_, htv⟩
  clear htv
  obtain ⟨n, htv⟩ := htv'
  obtain ⟨W, hW⟩ : ∃ W, W = w.alloc (.cells (cellsR r tv) 32) := ⟨_, rfl⟩
  have hB := boxR w r tv
  rw [← hW] at hB
  have hL : Lies W w.heap.size 32 (cellsR r tv) := by rw [hW]; exact Lies.new w _ _
  have HC := Lib.hid (rcCheck_any r tv W (hf.next hB))
  have HA := Lib.hid fun w' (hb : Below W.heap.size W w') => lies16 (hL.next hb)
  have HW := Lib.hid fun w' (hb : Below W.heap.size W w') => hB.trans (hb.mono hB.size)
  have HN := Lib.hid fun w' (hb : Below W.heap.size W w') => pSize_any r.n w' hf.n
  have HD := Lib.hid fun w' (hb : Below W.heap.size W w') => Size_anyD r.t r.d tv w' ((hf.d.next hB).next hb)
  by_cases h0 : checkR r = 0
  · have HV : Hid (sizeR r = sizeN (bs r.n) + 10 + sizeD r.t r.d) := Lib.hid (by unfold sizeR; rw [if_neg (fun h => h h0)])
    have hs1 := sizeN_most (bs r.n)
    have hs2 := sizeD_most (checkR_zero h0).2
    obtain ⟨a, ha⟩ : ∃ a, sizeN (bs r.n) = a := ⟨_, rfl⟩
    obtain ⟨b, hb⟩ : ∃ a, sizeD r.t r.d = a := ⟨_, rfl⟩
    rw [ha] at HN HV hs1
    rw [hb] at HD HV hs2
    rw [h0] at HC
    have w1 : IntKind.i64.wrap ((a : Int) + 10) = (a : Int) + 10 := IntWalk.i64_in _ (by omega)
    have w2 : IntKind.i64.wrap ((a : Int) + 10 + (b : Int)) = (a : Int) + 10 + (b : Int) := IntWalk.i64_in _ (by omega)
    clear ha hb hL hf hB h0
    subst htv
    unfold dataV cellsD recV cellsR at *
    go_enter Tryz.func34, Tryz.ntmps34
    go_wp2_with fail
    rw [← hW]
    refine HC.out.mono ?_
    rintro e w1' ⟨rfl, hb1⟩
    have HB1 := Lib.hid hb1
    clear hb1 hW
    go_upto_region 3 with (fail)
    obtain ⟨Ix, f, i0, hf0, hCn, hstep⟩ := class_ofC w1'
    haveI : Nonempty Ix := ⟨i0⟩
    have hbn := fun n => HB1.out.trans ((hCn n).mono HB1.out.size)
    have x0 := fun n => (HA.out _ (hbn n)).1
    have x1 := fun n => (HA.out _ (hbn n)).2.1
    have x4 := fun n => (HA.out _ (hbn n)).2.2.2.2.1
    have x5 := fun n => (HA.out _ (hbn n)).2.2.2.2.2.1
    have x6 := fun n => (HA.out _ (hbn n)).2.2.2.2.2.2.1
    have x7 := fun n => (HA.out _ (hbn n)).2.2.2.2.2.2.2.1
    have x8 := fun n => (HA.out _ (hbn n)).2.2.2.2.2.2.2.2.1
    have x9 := fun n => (HA.out _ (hbn n)).2.2.2.2.2.2.2.2.2.1
    have x10 := fun n => (HA.out _ (hbn n)).2.2.2.2.2.2.2.2.2.2.1
    have x11 := fun n => (HA.out _ (hbn n)).2.2.2.2.2.2.2.2.2.2.2.1
    have x12 := fun n => (HA.out _ (hbn n)).2.2.2.2.2.2.2.2.2.2.2.2.1
    have x13 := fun n => (HA.out _ (hbn n)).2.2.2.2.2.2.2.2.2.2.2.2.2.1
    have x14 := fun n => (HA.out _ (hbn n)).2.2.2.2.2.2.2.2.2.2.2.2.2.2.1
    have x15 := fun n => (HA.out _ (hbn n)).2.2.2.2.2.2.2.2.2.2.2.2.2.2.2
    have V0 := Lib.hid (fun n => (HN.out _ (hbn n)).mono (fun _ _ h => (⟨h.1, hstep n _ h.2⟩ : _ ∧ ∃ m, _ = f m)))
    have V1 := Lib.hid (fun n => (HD.out _ (hbn n)).mono (fun _ _ h => (⟨h.1, hstep n _ h.2⟩ : _ ∧ ∃ m, _ = f m)))
    have HZ := Lib.hid fun n => HW.out _ (hbn n)
    clear hbn hCn hstep HN HD HC
    refine wp_region_class f (by kernel_rfl) (lexB_of (by kernel_rfl) (by as_aux_lemma => kernel_rfl)) i0 hf0 ?_
    clear hf0
    repeat (go_big_quiet_step (first | (with_reducible exact V0.out _) | (with_reducible exact V1.out _)))
    all_goals
      refine wpQuiet_nil ?_
      intro _ hw'
      obtain ⟨nE, hw''⟩ := hw'
      subst hw''
      have hbE := HZ.out nE
      go_wp2
      go_ret
      rw [HV.out]
      exact ⟨rfl, hbE⟩
  · have HV : Hid (sizeR r = 0) := Lib.hid (if_pos h0)
    obtain ⟨a, ha⟩ : ∃ a, checkR r = a := ⟨_, rfl⟩
    rw [ha] at HC h0
    have hne : (((a : Nat) : Int) != 0) = true := by rw [bne_iff_ne]; omega
    clear ha hL hf hB h0 HA
    subst htv
    unfold recV cellsR at *
    go_enter Tryz.func34, Tryz.ntmps34
    go_wp2_with fail
    rw [← hW]
    refine HC.out.mono ?_
    rintro e w1' ⟨rfl, hb1⟩
    have HB1 := Lib.hid hb1
    clear hb1 hW
    go_wp2
    go_ret
    rw [HV.out]
    exact ⟨rfl, HW.out _ HB1.out⟩
end Go.Proofs.YtadeflehdfmilaaGreat
namespace Go.Proofs.YtadeflehdfmilaaGreat
open Go.RowKit Go.Maps
set_option linter.unusedVariables false
set_option maxRecDepth 100000

end Go.Proofs.YtadeflehdfmilaaGreat
namespace Go.Proofs.YtadeflehdfmilaaGreat
open Go.RowKit
set_option linter.unusedVariables false

def lay (s : PS) (l : List UInt8) : PS := { s with l := l }
/-- F adds octets, which do not hang on those ahead. -/
def Sw (F : PS → Nat × PS) : Prop := ∀ s l', l'.length = s.l.length → ∃ y, (F s).2.l = s.l ++ y ∧ (F s).2.o = s.o ∧ F (lay s l') = ((F s).1, lay (F s).2 (l' ++ y))
/-- One behind the other. -/
theorem Sw.seq {F G : PS → Nat × PS} (hF : Sw F) (hG : Sw G) : Sw fun s => if (F s).1 = 0 then G (F s).2 else F s := by
  intro s l' h
  obtain ⟨y, h1, h2, h3⟩ := hF s l' h
  by_cases hz : (F s).1 = 0
  · obtain ⟨y', g1, g2, g3⟩ := hG (F s).2 (l' ++ y) (by rw [h1, List.length_append, List.length_append, h])
    refine ⟨y ++ y', ?_⟩
    simp only [hz, if_true, h3]
    exact ⟨by rw [g1, h1, List.append_assoc], by rw [g2, h2], by rw [g3, List.append_assoc]⟩
  · refine ⟨y, ?_⟩
    simp only [hz, if_false, h3]
    exact ⟨h1, h2, trivial⟩
theorem keep_l (s : PS) (r : List UInt8) (a : Nat) : (keepS s r a).l = s.l ∧ (keepS s r a).o = s.o := by
  unfold keepS
  split <;> exact ⟨rfl, rfl⟩
end Go.Proofs.YtadeflehdfmilaaGreat
namespace Go.Proofs.YtadeflehdfmilaaGreat
open Go.RowKit
set_option linter.unusedVariables false

end Go.Proofs.YtadeflehdfmilaaGreat
namespace Go.Proofs.YtadeflehdfmilaaGreat
open Go.RowKit
set_option linter.unusedVariables false
set_option maxRecDepth 10000

theorem GoodR.begun {s : PS} (h : GoodR s) (o : List Nat) (h1 : ∀ a ∈ o, a + 2 ≤ s.l.length) (h2 : o.length ≤ s.l.length) : GoodR { s with o := o } :=
  ⟨⟨h.good.f, h.good.marks⟩, ⟨h.inv.le, h.inv.most, h.inv.mark, h1, h2⟩, h.marks⟩
end Go.Proofs.YtadeflehdfmilaaGreat
namespace Go.Proofs.YtadeflehdfmilaaGreat
open Go.RowKit Go.Maps
set_option linter.unusedVariables false
set_option maxRecDepth 100000

/-! ### Unlike records, unlike octets -/
end Go.Proofs.YtadeflehdfmilaaGreat
