/-
  The walk of the law RdataUnlike. Conditions: the data can be read.
-/
import Derived.Test.YtjollpgkmcinjaaGreatRdM9
import Derived.Test.YtjollpgkmcinjaaGreatRdM8
import Derived.Test.YtjollpgkmcinjaaGreatPkLives
import Derived.Test.YtjollpgkmcinjaaGreatQui
namespace Go.Proofs.YtjollpgkmcinjaaGreat
open Go.RowKit Go.Maps
set_option linter.unusedVariables false

theorem blk_lt {w : World} {v : Value} {L : List ByteArray} (h : SRow w v L) : ∀ j, blk v = some j → j < w.heap.size := by
  rcases h with ⟨rfl, _⟩ | ⟨g, off, cap, rfl, h2, _⟩
  · exact fun j hj => nomatch hj
  · intro j hj
    injection hj with hj
    exact hj ▸ h2
theorem class_ofR (W : World) : ∃ (Ix : Type) (f : Ix → World) (i0 : Ix), W.drew = f i0 ∧ (∀ n, Below W.heap.size W (f n)) ∧ (∀ n w'', Below (f n).heap.size (f n) w'' → ∃ m, w'' = f m) :=
  ⟨{w' // Below W.heap.size W w'}, Subtype.val, ⟨W.drew, ⟨rfl, rfl, rfl, Nat.le_refl _, fun _ _ => rfl⟩⟩, rfl, fun n => n.2, fun n w'' h => ⟨⟨w'', n.2.trans (h.mono n.2.size)⟩, rfl⟩⟩
set_option maxHeartbeats 4000000 in
set_option maxRecDepth 100000 in
theorem RdataUnlike_walk (t : Int) (a : MD) (ta : Value) (b : MD) (tb : Value) (ht : (Lit.int .i64 t).wf = true) (w : World) (fa : Fit w a ta) (fb : Fit w b tb) :
    Calls Tryz.prog 5 #[.int .i64 t, dataV a ta, dataV b tb] w fun e w' => e = .returned (.bool true) ∧ Below w.heap.size w w' := by
  obtain ⟨W, hW⟩ : ∃ W, W = (w.alloc (.cells (cellsD a ta) 30)).alloc (.cells (cellsD b tb) 30) := ⟨_, rfl⟩
  have hB : Below w.heap.size w W := by rw [hW]; exact ((Below.refl _ w).alloc (Nat.le_refl _) _).alloc (by simp) _
  have hL1 : Lies W w.heap.size 30 (cellsD a ta) := by rw [hW]; exact (Lies.new w _ _).alloc _
  have hL2 : Lies W (w.heap.size + 1) 30 (cellsD b tb) := by
    rw [hW]
    have := Lies.new (w.alloc (.cells (cellsD a ta) 30)) 30 (cellsD b tb)
    rwa [show (w.alloc (.cells (cellsD a ta) 30)).heap.size = w.heap.size + 1 from by simp] at this
  have HA := Lib.hid fun w' (hb : Below W.heap.size W w') => And.intro (lies12 (hL1.next hb)) (lies12 (hL2.next hb))
  have HFa := Lib.hid fun w' (hb : Below W.heap.size W w') => (fa.next hB).next hb
  have HFb := Lib.hid fun w' (hb : Below W.heap.size W w') => (fb.next hB).next hb
  have HBw := Lib.hid fun w' (hb : Below W.heap.size W w') => hB.trans (hb.mono hB.size)
  have HSz := Lib.hid hB.size
  have HBa := Lib.hid (blk_lt (fa.next hB).row)
  have HBb := Lib.hid (blk_lt (fb.next hB).row)
  have f1 : Fit64 a := ⟨fa.hi, fa.lo⟩
  have f2 : Fit64 b := ⟨fb.hi, fb.lo⟩
  obtain ⟨A, ca, hta, _, _⟩ := fa.row.shape
  obtain ⟨B, cb, htb, _, _⟩ := fb.row.shape
  obtain ⟨na, hta⟩ : ∃ n, ta = Value.slice A n ca := ⟨_, hta⟩
  obtain ⟨nb, htb⟩ : ∃ n, tb = Value.slice B n cb := ⟨_, htb⟩
  have HNew : Hid (∀ wx, Calls Tryz.prog 9 #[.int .i64 65535] wx (NewP wx 65535)) := Lib.hid fun wx => pNew_any 65535 wx (by decide)
  have HLv := Lib.hid lives9
  have HLa := Lib.hid fun w' (hb : Below W.heap.size W w') => Light_any a ta w' (HFa.out w' hb)
  have HLb := Lib.hid fun w' (hb : Below W.heap.size W w') => Light_any b tb w' (HFb.out w' hb)
  have HSm := Lib.hid fun w' (hb : Below W.heap.size W w') => Same_any a b ta tb w' (HFa.out w' hb) (HFb.out w' hb)
  have hun := unlike_any (t := t) f1 f2
  have HPa := Lib.hid fun wx F g b0 (hp : PK wx b0 F g 65535 ps0) (hle : W.heap.size ≤ b0) (hb : Below W.heap.size W wx) => Put_anyD t a ta wx hp (by decide) (HFa.out wx hb) (fun j hj => Nat.lt_of_lt_of_le (HBa.out j hj) hle)
  have HPb := Lib.hid fun wx F g b0 (hp : PK wx b0 F g 65535 ps0) (hle : W.heap.size ≤ b0) (hb : Below W.heap.size W wx) => Put_anyD t b tb wx hp (by decide) (HFb.out wx hb) (fun j hj => Nat.lt_of_lt_of_le (HBb.out j hj) hle)
  obtain ⟨qa, hqa⟩ : ∃ q, putD 65535 t a ps0 = q := ⟨_, rfl⟩
  obtain ⟨qb, hqb⟩ : ∃ q, putD 65535 t b ps0 = q := ⟨_, rfl⟩
  rw [hqa] at HPa hun
  rw [hqb] at HPb hun
  obtain ⟨sm, hsm⟩ : ∃ q, sameD a b = q := ⟨_, rfl⟩
  rw [hsm] at HSm hun
  have HU := Lib.hid hun
  clear fa fb hL1 hL2 hB hqa hqb hsm hun f1 f2 HFa HFb HBa HBb
  subst hta htb
  unfold dataV cellsD at *
  go_enter Tryz.func5, Tryz.ntmps5
  go_wp2_with fail
  rw [← hW]
  refine (HLv.out _).mono ?_
  rintro e w1 ⟨rfl, hb1⟩
  obtain ⟨⟨x0, x1, x2, x3, x4, x5, x6, x7, x8, x9, x10, x11⟩, y0, y1, y2, y3, y4, y5, y6, y7, y8, y9, y10, y11⟩ := HA.out w1 hb1
  have HB1 := Lib.hid hb1
  clear hb1
  go_wp2_with fail
  refine (HLa.out _ HB1.out).mono ?_
  rintro e w2 ⟨la, rfl, hb⟩
  have HB2 := Lib.hid (HB1.out.trans (hb.mono HB1.out.size))
  clear hb x0 x1 x2 x3 x4 x5 x6 x7 x8 x9 x10 x11 y0 y1 y2 y3 y4 y5 y6 y7 y8 y9 y10 y11
  cases la
  · go_wp2
    go_ret
    exact ⟨rfl, HBw.out _ HB2.out⟩
  · obtain ⟨⟨x0, x1, x2, x3, x4, x5, x6, x7, x8, x9, x10, x11⟩, y0, y1, y2, y3, y4, y5, y6, y7, y8, y9, y10, y11⟩ := HA.out w2 HB2.out
    go_wp2_with fail
    refine (HLb.out _ HB2.out).mono ?_
    rintro e w3 ⟨lb, rfl, hb⟩
    have HB3 := Lib.hid (HB2.out.trans (hb.mono HB2.out.size))
    clear hb x0 x1 x2 x3 x4 x5 x6 x7 x8 x9 x10 x11 y0 y1 y2 y3 y4 y5 y6 y7 y8 y9 y10 y11 HB1 HB2
    cases lb
    · go_wp2
      go_ret
      exact ⟨rfl, HBw.out _ HB3.out⟩
    · go_wp2_with fail
      refine (HNew.out _).mono ?_
      rintro e w4 ⟨g1, F1, rfl, hp4, hb⟩
      have hB4 := HB3.out.trans (hb.mono HB3.out.size)
      have hz1 := HB3.out.size
      clear hb
      go_wp2_with fail
      refine (HNew.out _).mono ?_
      rintro e w5 ⟨g2, F2, rfl, hq5, hb⟩
      have hB5 := hB4.trans (hb.mono hB4.size)
      have hz2 := hB4.size
      have hap := apart_new hp4 hq5 (Nat.le_refl _)
      have hp5 := hp4.next hb
      have HP := Lib.hid hp5
      have HQ := Lib.hid hq5
      have HAp := Lib.hid hap
      have HB5 := Lib.hid hB5
      obtain ⟨⟨x0, x1, x2, x3, x4, x5, x6, x7, x8, x9, x10, x11⟩, y0, y1, y2, y3, y4, y5, y6, y7, y8, y9, y10, y11⟩ := HA.out w5 hB5
      clear hb hp4 hp5 hq5 hap hB5 hB4 HNew HLv HLa HLb
      go_wp2_with fail
      refine (HPa.out _ _ _ _ HP.out hz1 HB5.out).mono ?_
      rintro e w6 ⟨rfl, F1', hp6, hk6⟩
      have HP6 := Lib.hid hp6
      have HQ6 := Lib.hid (HQ.out.other hk6 (apart_symm HAp.out))
      have HAp6 := Lib.hid (apart_next HAp.out hk6 HQ.out)
      have HB6 := Lib.hid (HB5.out.trans (hk6.below.mono hz1))
      clear hp6 hk6 HP HQ HAp HPa x0 x1 x2 x3 x4 x5 x6 x7 x8 x9 x10 x11 y0 y1 y2 y3 y4 y5 y6 y7 y8 y9 y10 y11
      by_cases c1 : qa.1 = 0
      · have n1 : (((qa.1 : Nat) : Int) != 0) = false := by rw [c1]; rfl
        have n1' : (((qa.1 : Nat) : Int) == 0) = true := by rw [c1]; rfl
        obtain ⟨⟨x0, x1, x2, x3, x4, x5, x6, x7, x8, x9, x10, x11⟩, y0, y1, y2, y3, y4, y5, y6, y7, y8, y9, y10, y11⟩ := HA.out w6 HB6.out
        go_wp2_with fail
        refine (HPb.out _ _ _ _ HQ6.out hz2 HB6.out).mono ?_
        rintro e w7 ⟨rfl, F2', hq7, hk7⟩
        have HQ7 := Lib.hid hq7
        have HP7 := Lib.hid (HP6.out.other hk7 HAp6.out)
        have HB7 := Lib.hid (HB6.out.trans (hk7.below.mono hz2))
        clear hq7 hk7 HQ6 HP6 HAp6 x0 x1 x2 x3 x4 x5 x6 x7 x8 x9 x10 x11 y0 y1 y2 y3 y4 y5 y6 y7 y8 y9 y10 y11 HPb
        by_cases c2 : qb.1 = 0
        · have n2 : (((qb.1 : Nat) : Int) != 0) = false := by rw [c2]; rfl
          have n2' : (((qb.1 : Nat) : Int) == 0) = true := by rw [c2]; rfl
          have hu := HU.out (c1) (c2)
          go_upto_region 8 with (fail)
          obtain ⟨Ix, f, i0, hf0, hCn', hstep'⟩ := class_ofR w7
          have HCn := Lib.hid hCn'
          have Hst := Lib.hid hstep'
          clear hCn' hstep'
          haveI : Nonempty Ix := ⟨i0⟩
          have hbn := fun n => HB7.out.trans ((HCn.out n).mono HB7.out.size)
          have kk := fun n => HA.out (f n) (hbn n)
          have x0 := fun n => (kk n).1.1
          have x1 := fun n => (kk n).1.2.1
          have x2 := fun n => (kk n).1.2.2.1
          have x3 := fun n => (kk n).1.2.2.2.1
          have x4 := fun n => (kk n).1.2.2.2.2.1
          have x5 := fun n => (kk n).1.2.2.2.2.2.1
          have x6 := fun n => (kk n).1.2.2.2.2.2.2.1
          have x7 := fun n => (kk n).1.2.2.2.2.2.2.2.1
          have x8 := fun n => (kk n).1.2.2.2.2.2.2.2.2.1
          have x9 := fun n => (kk n).1.2.2.2.2.2.2.2.2.2.1
          have x10 := fun n => (kk n).1.2.2.2.2.2.2.2.2.2.2.1
          have x11 := fun n => (kk n).1.2.2.2.2.2.2.2.2.2.2.2
          have y0 := fun n => (kk n).2.1
          have y1 := fun n => (kk n).2.2.1
          have y2 := fun n => (kk n).2.2.2.1
          have y3 := fun n => (kk n).2.2.2.2.1
          have y4 := fun n => (kk n).2.2.2.2.2.1
          have y5 := fun n => (kk n).2.2.2.2.2.2.1
          have y6 := fun n => (kk n).2.2.2.2.2.2.2.1
          have y7 := fun n => (kk n).2.2.2.2.2.2.2.2.1
          have y8 := fun n => (kk n).2.2.2.2.2.2.2.2.2.1
          have y9 := fun n => (kk n).2.2.2.2.2.2.2.2.2.2.1
          have y10 := fun n => (kk n).2.2.2.2.2.2.2.2.2.2.2.1
          have y11 := fun n => (kk n).2.2.2.2.2.2.2.2.2.2.2.2
          have HZ := Lib.hid hbn
          obtain ⟨X, hX⟩ : ∃ X : ByteArray, X = ⟨qa.2.l.toArray⟩ := ⟨_, rfl⟩
          obtain ⟨Y, hY⟩ : ∃ Y : ByteArray, Y = ⟨qb.2.l.toArray⟩ := ⟨_, rfl⟩
          have hxy : X = Y ↔ sm = true := by
            rw [← hu, hX, hY]
            constructor
            · intro h
              have := congrArg bs h
              rwa [bs_mk, bs_mk] at this
            · intro h
              rw [h]
          have V0 : Hid (∀ n, Calls Tryz.prog 14 #[pp g1] (f n) fun e w'' => e = .returned (.string X) ∧ ∃ m, w'' = f m) := Lib.hid fun n => (pText_any (HP7.out.next (HCn.out n))).mono fun _ _ h => ⟨by rw [hX]; exact h.1, n, h.2.symm⟩
          have V1 : Hid (∀ n, Calls Tryz.prog 14 #[pp g2] (f n) fun e w'' => e = .returned (.string Y) ∧ ∃ m, w'' = f m) := Lib.hid fun n => (pText_any (HQ7.out.next (HCn.out n))).mono fun _ _ h => ⟨by rw [hY]; exact h.1, n, h.2.symm⟩
          have V2 := Lib.hid (fun n => (HSm.out (f n) (hbn n)).mono (fun _ _ h => (⟨h.1, Hst.out n _ h.2⟩ : _ ∧ ∃ m, _ = f m)))
          clear hbn kk hu hX hY HA HSm HU n1 n1' n2 n2' c1 c2 HQ7 HP7
          cases sm
          · have hne : X ≠ Y := fun h => by have := hxy.1 h; cases this
            have hne2 : (X.toList == Y.toList) = false := beq_eq_false_iff_ne.2 (fun e => hne (bs_inj (by rw [← bs_toList, ← bs_toList]; exact e)))
            clear hxy
            refine wp_region_class f (by kernel_rfl) (lexB_of (by kernel_rfl) (by as_aux_lemma => kernel_rfl)) i0 hf0 ?_
            clear hf0
            repeat (go_big_quiet_step (first | (with_reducible exact V0.out _) | (with_reducible exact V1.out _) | (with_reducible exact V2.out _)))
            all_goals
              refine wpQuiet_nil ?_
              intro _ hw'
              obtain ⟨nE, hw''⟩ := hw'
              subst hw''
              have hbE := HZ.out nE
              go_wp2
              go_ret
              exact ⟨rfl, HBw.out _ hbE⟩
          · have heq := hxy.2 rfl
            subst heq
            clear hxy
            refine wp_region_class f (by kernel_rfl) (lexB_of (by kernel_rfl) (by as_aux_lemma => kernel_rfl)) i0 hf0 ?_
            clear hf0
            repeat (go_big_quiet_step (first | (with_reducible exact V0.out _) | (with_reducible exact V1.out _) | (with_reducible exact V2.out _)))
            all_goals
              refine wpQuiet_nil ?_
              intro _ hw'
              obtain ⟨nE, hw''⟩ := hw'
              subst hw''
              have hbE := HZ.out nE
              go_wp2
              go_ret
              exact ⟨rfl, HBw.out _ hbE⟩
        · have n2 : (((qb.1 : Nat) : Int) != 0) = true := by rw [bne_iff_ne]; omega
          have n2' : (((qb.1 : Nat) : Int) == 0) = false := by rw [beq_eq_false_iff_ne]; omega
          go_wp2
          go_ret
          exact ⟨rfl, HBw.out _ HB7.out⟩
      · have n1 : (((qa.1 : Nat) : Int) != 0) = true := by rw [bne_iff_ne]; omega
        have n1' : (((qa.1 : Nat) : Int) == 0) = false := by rw [beq_eq_false_iff_ne]; omega
        go_wp2
        go_ret
        exact ⟨rfl, HBw.out _ HB6.out⟩
end Go.Proofs.YtjollpgkmcinjaaGreat
