/-
  Records and questions: held against one another, counted: the walks of record.SameQuestion, Same, Size. Conditions: Go can have them. A record's octets are counted: the walk of record.Size; the law's own lives. Condition: Go can have the record. The tenth stage's own example (lives) comes out true, whatever the memory. No condition.
-/
import Derived.Test.YtodedbokeodmkaaGreatZk43
import Derived.Test.YtodedbokeodmkaaGreatQui
import Derived.Laws.StructEq
import Derived.ChangeKeysEq
import Derived.Test.YtodedbokeodmkaaGreatZk42
namespace Go.Proofs.YtodedbokeodmkaaGreat
open Go.RowKit Go.Maps
set_option linter.unusedVariables false
set_option maxRecDepth 100000

end Go.Proofs.YtodedbokeodmkaaGreat
namespace Go.Proofs.YtodedbokeodmkaaGreat
open Go.RowKit Go.Maps
set_option linter.unusedVariables false
set_option maxRecDepth 100000

theorem sizeN_most (x : List UInt8) : sizeN x ≤ 255 := by
  unfold sizeN
  split
  · rename_i h
    have := (chkN_iff.1 h).1
    omega
  · exact Nat.zero_le _
theorem sizeD_most {t : Int} {d : MD} (h : checkD t d = 0) : sizeD t d ≤ 65535 := by
  unfold checkD at h
  unfold sizeD
  split
  · rename_i ht
    rw [if_pos ht] at h
    unfold allK at h
    split
    · exact Nat.zero_le _
    · rename_i hp
      rw [if_neg hp] at h
      split at h
      · cases h
      · omega
  · exact Nat.zero_le _
set_option maxHeartbeats 2000000 in
theorem rcSize_any (r : MR) (tv : Value) (w : World) (hf : FitR w r tv) : Calls Tryz.prog 29 #[recV r tv] w (Told w (.int .i64 (sizeR r : Nat))) := by
  obtain ⟨A, cap, htv, _, _⟩ := hf.d.row.shape
  have htv' : ∃ n, tv = Value.slice A n cap := ⟨_, htv⟩
  clear htv
  obtain ⟨n, htv⟩ := htv'
  obtain ⟨W, hW⟩ : ∃ W, W = w.alloc (.cells (cellsR r tv) 32) := ⟨_, rfl⟩
  have hB := boxR w r tv
  rw [← hW] at hB
  have hL : Lies W w.heap.size 32 (cellsR r tv) := by rw [hW]; exact Lies.new w _ _
  have HC := Lib.hid (rcCheck_any r tv W (hf.next hB))
  have HA := Lib.hid fun w' (hb : Below W.heap.size W w') => lies16 (hL.next hb)
  have HW := Lib.hid fun w' (hb : Below W.heap.size W w') => hB.trans (hb.mono hB.size)
  have HN := Lib.hid fun w' (hb : Below W.heap.size W w') => pSize_any r.n w' hf.n
  have HD := Lib.hid fun w' (hb : Below W.heap.size W w') => Size_anyD r.t r.d tv w' ((hf.d.next hB).next hb)
  by_cases h0 : checkR r = 0
  · have HV : Hid (sizeR r = sizeN (bs r.n) + 10 + sizeD r.t r.d) := Lib.hid (by unfold sizeR; rw [if_neg (fun h => h h0)])
    have hs1 := sizeN_most (bs r.n)
    have hs2 := sizeD_most (checkR_zero h0).2
    obtain ⟨a, ha⟩ : ∃ a, sizeN (bs r.n) = a := ⟨_, rfl⟩
    obtain ⟨b, hb⟩ : ∃ a, sizeD r.t r.d = a := ⟨_, rfl⟩
    rw [ha] at HN HV hs1
    rw [hb] at HD HV hs2
    rw [h0] at HC
    have w1 : IntKind.i64.wrap ((a : Int) + 10) = (a : Int) + 10 := IntWalk.i64_in _ (by omega)
    have w2 : IntKind.i64.wrap ((a : Int) + 10 + (b : Int)) = (a : Int) + 10 + (b : Int) := IntWalk.i64_in _ (by omega)
    clear ha hb hL hf hB h0
    subst htv
    unfold dataV cellsD recV cellsR at *
    go_enter Tryz.func29, Tryz.ntmps29
    go_wp2_with fail
    rw [← hW]
    refine HC.out.mono ?_
    rintro e w1' ⟨rfl, hb1⟩
    have HB1 := Lib.hid hb1
    clear hb1 hW
    go_upto_region 3 with (fail)
    obtain ⟨Ix, f, i0, hf0, hCn, hstep⟩ := class_ofC w1'
    haveI : Nonempty Ix := ⟨i0⟩
    have hbn := fun n => HB1.out.trans ((hCn n).mono HB1.out.size)
    have x0 := fun n => (HA.out _ (hbn n)).1
    have x1 := fun n => (HA.out _ (hbn n)).2.1
    have x4 := fun n => (HA.out _ (hbn n)).2.2.2.2.1
    have x5 := fun n => (HA.out _ (hbn n)).2.2.2.2.2.1
    have x6 := fun n => (HA.out _ (hbn n)).2.2.2.2.2.2.1
    have x7 := fun n => (HA.out _ (hbn n)).2.2.2.2.2.2.2.1
    have x8 := fun n => (HA.out _ (hbn n)).2.2.2.2.2.2.2.2.1
    have x9 := fun n => (HA.out _ (hbn n)).2.2.2.2.2.2.2.2.2.1
    have x10 := fun n => (HA.out _ (hbn n)).2.2.2.2.2.2.2.2.2.2.1
    have x11 := fun n => (HA.out _ (hbn n)).2.2.2.2.2.2.2.2.2.2.2.1
    have x12 := fun n => (HA.out _ (hbn n)).2.2.2.2.2.2.2.2.2.2.2.2.1
    have x13 := fun n => (HA.out _ (hbn n)).2.2.2.2.2.2.2.2.2.2.2.2.2.1
    have x14 := fun n => (HA.out _ (hbn n)).2.2.2.2.2.2.2.2.2.2.2.2.2.2.1
    have x15 := fun n => (HA.out _ (hbn n)).2.2.2.2.2.2.2.2.2.2.2.2.2.2.2
    have V0 := Lib.hid (fun n => (HN.out _ (hbn n)).mono (fun _ _ h => (⟨h.1, hstep n _ h.2⟩ : _ ∧ ∃ m, _ = f m)))
    have V1 := Lib.hid (fun n => (HD.out _ (hbn n)).mono (fun _ _ h => (⟨h.1, hstep n _ h.2⟩ : _ ∧ ∃ m, _ = f m)))
    have HZ := Lib.hid fun n => HW.out _ (hbn n)
    clear hbn hCn hstep HN HD HC
    refine wp_region_class f (by kernel_rfl) (lexB_of (by kernel_rfl) (by as_aux_lemma => kernel_rfl)) i0 hf0 ?_
    clear hf0
    repeat (go_big_quiet_step (first | (with_reducible exact V0.out _) | (with_reducible exact V1.out _)))
    all_goals
      refine wpQuiet_nil ?_
      intro _ hw'
      obtain ⟨nE, hw''⟩ := hw'
      subst hw''
      have hbE := HZ.out nE
      go_wp2
      go_ret
      rw [HV.out]
      exact ⟨rfl, hbE⟩
  · have HV : Hid (sizeR r = 0) := Lib.hid (if_pos h0)
    obtain ⟨a, ha⟩ : ∃ a, checkR r = a := ⟨_, rfl⟩
    rw [ha] at HC h0
    have hne : (((a : Nat) : Int) != 0) = true := by rw [bne_iff_ne]; omega
    clear ha hL hf hB h0 HA
    subst htv
    unfold recV cellsR at *
    go_enter Tryz.func29, Tryz.ntmps29
    go_wp2_with fail
    rw [← hW]
    refine HC.out.mono ?_
    rintro e w1' ⟨rfl, hb1⟩
    have HB1 := Lib.hid hb1
    clear hb1 hW
    go_wp2
    go_ret
    rw [HV.out]
    exact ⟨rfl, HW.out _ HB1.out⟩
end Go.Proofs.YtodedbokeodmkaaGreat
namespace Go.Proofs.YtodedbokeodmkaaGreat
open Go.RowKit Go.Maps
set_option linter.unusedVariables false
set_option maxRecDepth 100000

def lvX : MR := ⟨⟨#[1, 97, 1, 98]⟩, 1, 1, 5, { md0 with lo := 16909060 }⟩
theorem lvX_put : (putR 99 lvX ps0).1 = 0 ∧ (putR 99 lvX ps0).2.l = [1, 97, 1, 98, 0, 0, 1, 0, 1, 0, 0, 0, 5, 0, 4, 1, 2, 3, 4] := by constructor <;> kernel_rfl
theorem lvX_size : sizeR lvX = 19 := by kernel_rfl
theorem lvX_fit (w : World) : FitR w lvX nilS := ⟨by decide, by decide, fit_nil w _ rfl nobS nobS nobS (by decide) (by decide) (by decide) (by decide) (by decide) (by decide) (by decide)⟩
theorem lvX_rec : recV lvX nilS = .agg #[.string ⟨#[1, 97, 1, 98]⟩, .int .i64 1, .int .i64 1, .int .u32 5, .bool false, .int .u64 0, .int .u64 16909060, .string ⟨#[]⟩, .string ⟨#[]⟩, .int .u32 0, .int .u32 0, .int .u32 0, .int .u32 0, .int .u32 0, .slice none 0 0, .string ⟨#[]⟩] := rfl
theorem lv10_put (wx : World) (b0 : Nat) (F : Nat → Prop) (g : Nat) (hp : PK wx b0 F g 99 ps0) : Calls Tryz.prog 9 #[pp g, .agg #[.string ⟨#[1, 97, 1, 98]⟩, .int .i64 1, .int .i64 1, .int .u32 5, .bool false, .int .u64 0, .int .u64 16909060, .string ⟨#[]⟩, .string ⟨#[]⟩, .int .u32 0, .int .u32 0, .int .u32 0, .int .u32 0, .int .u32 0, .slice none 0 0, .string ⟨#[]⟩]] wx (Pkr wx b0 F g 99 (putR 99 lvX ps0).2 (.int .i64 0)) := by
  have h := rcPut_any lvX nilS wx hp (lvX_fit wx) (fun j hj => nomatch hj)
  rw [lvX_put.1, lvX_rec] at h
  exact h
theorem lv10_size (wx : World) : Calls Tryz.prog 29 #[.agg #[.string ⟨#[1, 97, 1, 98]⟩, .int .i64 1, .int .i64 1, .int .u32 5, .bool false, .int .u64 0, .int .u64 16909060, .string ⟨#[]⟩, .string ⟨#[]⟩, .int .u32 0, .int .u32 0, .int .u32 0, .int .u32 0, .int .u32 0, .slice none 0 0, .string ⟨#[]⟩]] wx (Told wx (.int .i64 19)) := by
  have h := rcSize_any lvX nilS wx (lvX_fit wx)
  rw [lvX_size, lvX_rec] at h
  exact h
set_option maxHeartbeats 1000000 in
theorem lives10 (w : World) : Calls Tryz.prog 6 #[] w (Told w (.bool true)) := by
  obtain ⟨W, hW⟩ : ∃ W, W = w.alloc (.cells #[.string ⟨#[1, 97, 1, 98]⟩, .int .i64 1, .int .i64 1, .int .u32 5, .bool false, .int .u64 0, .int .u64 16909060, .string ⟨#[]⟩, .string ⟨#[]⟩, .int .u32 0, .int .u32 0, .int .u32 0, .int .u32 0, .int .u32 0, .slice none 0 0, .string ⟨#[]⟩] 32) := ⟨_, rfl⟩
  have hB : Below w.heap.size w W := by rw [hW]; exact (Below.refl _ _).alloc (Nat.le_refl _) _
  have hL : Lies W w.heap.size 32 (cellsR lvX nilS) := by rw [hW]; exact Lies.new w _ _
  have HN : Hid (∀ wx, Calls Tryz.prog 8 #[.int .i64 99] wx (NewP wx 99)) := Lib.hid fun wx => pNew_any 99 wx (by decide)
  have HP := Lib.hid lv10_put
  have HS := Lib.hid lv10_size
  have HT : Hid (∀ wx b0 F g, PK wx b0 F g 99 (putR 99 lvX ps0).2 → Calls Tryz.prog 11 #[pp g] wx fun e w' => e = .returned (.string ⟨#[1, 97, 1, 98, 0, 0, 1, 0, 1, 0, 0, 0, 5, 0, 4, 1, 2, 3, 4]⟩) ∧ wx = w') := Lib.hid fun wx b0 F g h => by
    have := pText_any h
    rw [lvX_put.2] at this
    exact this
  obtain ⟨q, hq⟩ : ∃ q, (putR 99 lvX ps0).2 = q := ⟨_, rfl⟩
  rw [hq] at HP HT
  clear hq
  have HA := Lib.hid fun w' (hb : Below W.heap.size W w') => lies16 (hL.next hb)
  have HW := Lib.hid fun w' (hb : Below W.heap.size W w') => hB.trans (hb.mono hB.size)
  clear hL hB
  unfold lvX md0 nob at HA
  go_enter Tryz.func6, Tryz.ntmps6
  go_wp2_with fail
  rw [← hW]
  clear hW
  refine (HN.out W).mono ?_
  rintro e w1 ⟨g, F, rfl, hp, hb⟩
  have HP1 := Lib.hid hp
  have HB1 := Lib.hid hb
  obtain ⟨x0, x1, x2, x3, x4, x5, x6, x7, x8, x9, x10, x11, x12, x13, x14, x15⟩ := HA.out w1 hb
  clear hp hb
  go_wp2_with fail
  refine (HP.out _ _ _ _ HP1.out).mono ?_
  rintro e w2 ⟨rfl, F2, hp2, hk2⟩
  have hb2 := HB1.out.trans hk2.below
  have HP2 := Lib.hid hp2
  have HB2 := Lib.hid hb2
  clear x0 x1 x2 x3 x4 x5 x6 x7 x8 x9 x10 x11 x12 x13 x14 x15
  obtain ⟨x0, x1, x2, x3, x4, x5, x6, x7, x8, x9, x10, x11, x12, x13, x14, x15⟩ := HA.out w2 hb2
  clear hp2 hk2 hb2
  go_wp2_with fail
  refine (HS.out _).mono ?_
  rintro e w3 ⟨rfl, hb3⟩
  have HP3 := Lib.hid (HP2.out.next hb3)
  have HB3 := Lib.hid (HB2.out.trans (hb3.mono HB2.out.size))
  clear hb3 x0 x1 x2 x3 x4 x5 x6 x7 x8 x9 x10 x11 x12 x13 x14 x15
  go_wp2_with fail
  refine (HT.out _ _ _ _ HP3.out).mono ?_
  rintro e w4 ⟨rfl, rfl⟩
  go_wp2
  go_ret
  exact ⟨rfl, HW.out _ HB3.out⟩
end Go.Proofs.YtodedbokeodmkaaGreat
