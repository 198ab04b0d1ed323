/-
  The walk of the law RecordNames. No condition.
-/
import Derived.Test.YtbbglpjhblhkdaaGreatRcM3
namespace Go.Proofs.YtbbglpjhblhkdaaGreat
open Go.RowKit Go.Maps
set_option linter.unusedVariables false
set_option maxRecDepth 100000

def RN (w : World) (x : Int) (e : Ending) (w' : World) : Prop := ∃ A n cap, e = .returned (.tuple #[.agg #[.string ⟨#[]⟩, .int .i64 0, .int .i64 0, .int .u32 0, .bool false, .int .u64 0, .int .u64 0, .string ⟨#[]⟩, .string ⟨#[]⟩, .int .u32 0, .int .u32 0, .int .u32 0, .int .u32 0, .int .u32 0, .slice A n cap, .string ⟨#[]⟩], .int .i64 0, .int .i64 x]) ∧ Below w.heap.size w w'
theorem rn_read0 (w : World) : Calls Tryz.prog 8 #[.string ⟨#[0, 0, 1, 0, 1, 0, 0, 0, 5, 0, 5, 1, 2, 3, 4]⟩, .int .i64 0] w (RN w 8) := by
  have h := rcRead_any ⟨#[0, 0, 1, 0, 1, 0, 0, 0, 5, 0, 5, 1, 2, 3, 4]⟩ 0 w (by decide)
  have hv : rdR (bs ⟨#[0, 0, 1, 0, 1, 0, 0, 0, 5, 0, 5, 1, 2, 3, 4]⟩) 0 = ⟨8, 0, mr0⟩ := by kernel_rfl
  rw [hv] at h
  refine h.mono ?_
  rintro e w' ⟨tv, rfl, _, ⟨A, n, cap, rfl⟩, _, hb⟩
  exact ⟨A, n, cap, rfl, hb⟩
theorem rn_read1 (w : World) : Calls Tryz.prog 8 #[.string ⟨#[0, 0, 1, 0, 1, 0, 0, 0, 5, 0, 5, 1, 2, 3, 4, 5]⟩, .int .i64 0] w (RN w 4) := by
  have h := rcRead_any ⟨#[0, 0, 1, 0, 1, 0, 0, 0, 5, 0, 5, 1, 2, 3, 4, 5]⟩ 0 w (by decide)
  have hv : rdR (bs ⟨#[0, 0, 1, 0, 1, 0, 0, 0, 5, 0, 5, 1, 2, 3, 4, 5]⟩) 0 = ⟨4, 0, mr0⟩ := by kernel_rfl
  rw [hv] at h
  refine h.mono ?_
  rintro e w' ⟨tv, rfl, _, ⟨A, n, cap, rfl⟩, _, hb⟩
  exact ⟨A, n, cap, rfl, hb⟩
theorem rn_read2 (w : World) : Calls Tryz.prog 8 #[.string ⟨#[0, 0, 1, 0, 1, 0, 0, 0, 5, 0]⟩, .int .i64 0] w (RN w 8) := by
  have h := rcRead_any ⟨#[0, 0, 1, 0, 1, 0, 0, 0, 5, 0]⟩ 0 w (by decide)
  have hv : rdR (bs ⟨#[0, 0, 1, 0, 1, 0, 0, 0, 5, 0]⟩) 0 = ⟨8, 0, mr0⟩ := by kernel_rfl
  rw [hv] at h
  refine h.mono ?_
  rintro e w' ⟨tv, rfl, _, ⟨A, n, cap, rfl⟩, _, hb⟩
  exact ⟨A, n, cap, rfl, hb⟩
theorem rn_q0 (w : World) : Calls Tryz.prog 9 #[.string ⟨#[120, 1, 97, 0, 0, 28, 0, 1]⟩, .int .i64 1] w (Told w (.tuple #[.agg #[.string ⟨#[1, 97]⟩, .int .i64 28, .int .i64 1], .int .i64 8, .int .i64 0])) := by
  have h := rcReadQ_any ⟨#[120, 1, 97, 0, 0, 28, 0, 1]⟩ 1 w (by decide)
  have hv : rdQ (bs ⟨#[120, 1, 97, 0, 0, 28, 0, 1]⟩) 1 = ⟨0, 8, ⟨⟨#[1, 97]⟩, 28, 1⟩⟩ := by kernel_rfl
  rw [hv] at h
  exact h
theorem rn_q1 (w : World) : Calls Tryz.prog 9 #[.string ⟨#[0, 0, 28, 0]⟩, .int .i64 0] w (Told w (.tuple #[.agg #[.string ⟨#[]⟩, .int .i64 0, .int .i64 0], .int .i64 0, .int .i64 8])) := by
  have h := rcReadQ_any ⟨#[0, 0, 28, 0]⟩ 0 w (by decide)
  have hv : rdQ (bs ⟨#[0, 0, 28, 0]⟩) 0 = ⟨8, 0, ⟨⟨#[]⟩, 0, 0⟩⟩ := by kernel_rfl
  rw [hv] at h
  exact h
theorem rn_put (w : World) : Calls Tryz.prog 10 #[.pointer none, .agg #[.string ⟨#[]⟩, .int .i64 0, .int .i64 0, .int .u32 0, .bool false, .int .u64 0, .int .u64 0, .string ⟨#[]⟩, .string ⟨#[]⟩, .int .u32 0, .int .u32 0, .int .u32 0, .int .u32 0, .int .u32 0, .slice none 0 0, .string ⟨#[]⟩]] w (Told w (.int .i64 1)) := rcPut_nil ⟨⟨#[]⟩, 0, 0, 0, md0⟩ nilS w ⟨(by decide), (by decide), fit_nil w _ rfl nobS nobS nobS (by decide) (by decide) (by decide) (by decide) (by decide) (by decide) (by decide)⟩
theorem rn_putq (w : World) : Calls Tryz.prog 11 #[.pointer none, .agg #[.string ⟨#[1, 97]⟩, .int .i64 28, .int .i64 1]] w (Told w (.int .i64 1)) := rcPutQ_nil ⟨⟨#[1, 97]⟩, 28, 1⟩ w (by decide)
theorem rn_check0 (w : World) : Calls Tryz.prog 12 #[.agg #[.string ⟨#[]⟩, .int .i64 65536, .int .i64 0, .int .u32 0, .bool false, .int .u64 0, .int .u64 0, .string ⟨#[]⟩, .string ⟨#[]⟩, .int .u32 0, .int .u32 0, .int .u32 0, .int .u32 0, .int .u32 0, .slice none 0 0, .string ⟨#[]⟩]] w (Told w (.int .i64 2)) := by
  have h := rcCheck_any ⟨⟨#[]⟩, 65536, 0, 0, md0⟩ nilS w ⟨(by decide), (by decide), fit_nil w _ rfl nobS nobS nobS (by decide) (by decide) (by decide) (by decide) (by decide) (by decide) (by decide)⟩
  have hv : checkR ⟨⟨#[]⟩, 65536, 0, 0, md0⟩ = 2 := by kernel_rfl
  rw [hv] at h
  exact h
theorem rn_check1 (w : World) : Calls Tryz.prog 12 #[.agg #[.string ⟨#[0]⟩, .int .i64 0, .int .i64 0, .int .u32 0, .bool false, .int .u64 0, .int .u64 0, .string ⟨#[]⟩, .string ⟨#[]⟩, .int .u32 0, .int .u32 0, .int .u32 0, .int .u32 0, .int .u32 0, .slice none 0 0, .string ⟨#[]⟩]] w (Told w (.int .i64 4)) := by
  have h := rcCheck_any ⟨⟨#[0]⟩, 0, 0, 0, md0⟩ nilS w ⟨(by decide), (by decide), fit_nil w _ rfl nobS nobS nobS (by decide) (by decide) (by decide) (by decide) (by decide) (by decide) (by decide)⟩
  have hv : checkR ⟨⟨#[0]⟩, 0, 0, 0, md0⟩ = 4 := by kernel_rfl
  rw [hv] at h
  exact h
theorem rn_checkq (w : World) : Calls Tryz.prog 13 #[.agg #[.string ⟨#[]⟩, .int .i64 0, .int .i64 (-1)]] w (Told w (.int .i64 2)) := by
  have h := CheckQuestion_any ⟨⟨#[]⟩, 0, (-1)⟩ w (by decide)
  have hv : checkQ ⟨⟨#[]⟩, 0, (-1)⟩ = 2 := by kernel_rfl
  rw [hv] at h
  exact h
theorem rn_same0 (w : World) : Calls Tryz.prog 14 #[.agg #[.string ⟨#[1, 97]⟩, .int .i64 28, .int .i64 1], .agg #[.string ⟨#[1, 97]⟩, .int .i64 28, .int .i64 1]] w (Told w (.bool true)) := by
  have h := rcSameQ_any ⟨⟨#[1, 97]⟩, 28, 1⟩ ⟨⟨#[1, 97]⟩, 28, 1⟩ w
  have hv : sameQ ⟨⟨#[1, 97]⟩, 28, 1⟩ ⟨⟨#[1, 97]⟩, 28, 1⟩ = true := by kernel_rfl
  rw [hv] at h
  exact h
theorem rn_same1 (w : World) : Calls Tryz.prog 14 #[.agg #[.string ⟨#[1, 97]⟩, .int .i64 28, .int .i64 1], .agg #[.string ⟨#[1, 65]⟩, .int .i64 28, .int .i64 1]] w (Told w (.bool false)) := by
  have h := rcSameQ_any ⟨⟨#[1, 97]⟩, 28, 1⟩ ⟨⟨#[1, 65]⟩, 28, 1⟩ w
  have hv : sameQ ⟨⟨#[1, 97]⟩, 28, 1⟩ ⟨⟨#[1, 65]⟩, 28, 1⟩ = false := by kernel_rfl
  rw [hv] at h
  exact h
theorem rn_eql (w : World) : (Op.equalIn 10000 38 (.agg #[.string ⟨#[1, 97]⟩, .int .i64 28, .int .i64 1]) (.agg #[.string ⟨#[1, 97]⟩, .int .i64 28, .int .i64 1])).run Tryz.prog w = .ok true w := by
  have h := q_eql ⟨⟨#[1, 97]⟩, 28, 1⟩ ⟨⟨#[1, 97]⟩, 28, 1⟩ w
  have hv : sameQ ⟨⟨#[1, 97]⟩, 28, 1⟩ ⟨⟨#[1, 97]⟩, 28, 1⟩ = true := by kernel_rfl
  rw [hv] at h
  exact h
theorem rn_size (w : World) : Calls Tryz.prog 15 #[.agg #[.string ⟨#[]⟩, .int .i64 (-1), .int .i64 0, .int .u32 0, .bool false, .int .u64 0, .int .u64 0, .string ⟨#[]⟩, .string ⟨#[]⟩, .int .u32 0, .int .u32 0, .int .u32 0, .int .u32 0, .int .u32 0, .slice none 0 0, .string ⟨#[]⟩]] w (Told w (.int .i64 0)) := by
  have h := rcSize_any ⟨⟨#[]⟩, (-1), 0, 0, md0⟩ nilS w ⟨(by decide), (by decide), fit_nil w _ rfl nobS nobS nobS (by decide) (by decide) (by decide) (by decide) (by decide) (by decide) (by decide)⟩
  have hv : sizeR ⟨⟨#[]⟩, (-1), 0, 0, md0⟩ = 0 := by kernel_rfl
  rw [hv] at h
  exact h
set_option maxHeartbeats 4000000 in
theorem RecordNames_walk (w : World) : Calls Tryz.prog 3 #[] w fun e w' => e = .returned (.bool true) ∧ Below w.heap.size w w' := by
  have HL := Lib.hid lives10
  have R0 := Lib.hid rn_read0
  have R1 := Lib.hid rn_read1
  have R2 := Lib.hid rn_read2
  have Q0 := Lib.hid rn_q0
  have Q1 := Lib.hid rn_q1
  have he := rn_eql
  have V0 := Lib.hid rn_put
  have V1 := Lib.hid rn_putq
  have V2 := Lib.hid rn_check0
  have V3 := Lib.hid rn_check1
  have V4 := Lib.hid rn_checkq
  have V5 := Lib.hid rn_same0
  have V6 := Lib.hid rn_same1
  have V7 := Lib.hid rn_size
  go_enter Tryz.func3, Tryz.ntmps3
  go_wp2_with fail
  refine (HL.out _).mono ?_
  rintro e w1 ⟨rfl, hb1⟩
  have HB1 := Lib.hid hb1
  clear hb1
  go_wp2_with fail
  refine (R0.out _).mono ?_
  rintro e w2 ⟨A0, n0, c0, rfl, hb⟩
  have HB2 := Lib.hid (HB1.out.trans (hb.mono HB1.out.size))
  clear hb
  have HB2a : Hid (∀ o : Obj, Below w.heap.size w (w2.alloc o)) := Lib.hid fun o => HB2.out.alloc HB2.out.size o
  go_wp2_with fail
  refine (R1.out _).mono ?_
  rintro e w3 ⟨A1, n1, c1, rfl, hb⟩
  have HB3 := Lib.hid ((HB2a.out _).trans (hb.mono (HB2a.out _).size))
  clear hb
  have HB3a : Hid (∀ o : Obj, Below w.heap.size w (w3.alloc o)) := Lib.hid fun o => HB3.out.alloc HB3.out.size o
  go_wp2_with fail
  refine (R2.out _).mono ?_
  rintro e w4 ⟨A2, n2, c2, rfl, hb⟩
  have HB4 := Lib.hid ((HB3a.out _).trans (hb.mono (HB3a.out _).size))
  clear hb
  have HB4a : Hid (∀ o : Obj, Below w.heap.size w (w4.alloc o)) := Lib.hid fun o => HB4.out.alloc HB4.out.size o
  go_wp2_with fail
  refine (Q0.out _).mono ?_
  rintro e w5 ⟨rfl, hb⟩
  have HB5 := Lib.hid ((HB4a.out _).trans (hb.mono (HB4a.out _).size))
  have HQ5 := Lib.hid (Lies.new w5 38 #[.string ⟨#[1, 97]⟩, .int .i64 28, .int .i64 1])
  have HB5a := Lib.hid (HB5.out.alloc HB5.out.size (.cells #[.string ⟨#[1, 97]⟩, .int .i64 28, .int .i64 1] 38))
  clear hb
  go_wp2_with fail
  refine (Q1.out _).mono ?_
  rintro e w6 ⟨rfl, hb⟩
  have HQ6 := Lib.hid ((HQ5.out.next hb).alloc (.cells #[.string ⟨#[]⟩, .int .i64 0, .int .i64 0] 38))
  have HB6 := Lib.hid (HB5a.out.trans (hb.mono HB5a.out.size))
  have HB6a := Lib.hid (HB6.out.alloc HB6.out.size (.cells #[.string ⟨#[]⟩, .int .i64 0, .int .i64 0] 38))
  clear hb
  have x0 : (w6.alloc (.cells #[.string ⟨#[]⟩, .int .i64 0, .int .i64 0] 38)).cell? ⟨w5.heap.size, 0, none⟩ = some (.string ⟨#[1, 97]⟩) := HQ6.out.cell 0
  have x1 : (w6.alloc (.cells #[.string ⟨#[]⟩, .int .i64 0, .int .i64 0] 38)).cell? ⟨w5.heap.size, 1, none⟩ = some (.int .i64 28) := HQ6.out.cell 1
  have x2 : (w6.alloc (.cells #[.string ⟨#[]⟩, .int .i64 0, .int .i64 0] 38)).cell? ⟨w5.heap.size, 2, none⟩ = some (.int .i64 1) := HQ6.out.cell 2
  go_wp2_with fail
  refine (V0.out _).mono ?_
  rintro e w7 ⟨rfl, hb⟩
  have HQ7 := Lib.hid (HQ6.out.next hb)
  have HB7 := Lib.hid (HB6a.out.trans (hb.mono HB6a.out.size))
  clear hb x0 x1 x2
  have x0 : w7.cell? ⟨w5.heap.size, 0, none⟩ = some (.string ⟨#[1, 97]⟩) := HQ7.out.cell 0
  have x1 : w7.cell? ⟨w5.heap.size, 1, none⟩ = some (.int .i64 28) := HQ7.out.cell 1
  have x2 : w7.cell? ⟨w5.heap.size, 2, none⟩ = some (.int .i64 1) := HQ7.out.cell 2
  go_wp2_with fail
  refine (V1.out _).mono ?_
  rintro e w8 ⟨rfl, hb⟩
  have HQ8 := Lib.hid (HQ7.out.next hb)
  have HB8 := Lib.hid (HB7.out.trans (hb.mono HB7.out.size))
  clear hb x0 x1 x2
  have x0 : w8.cell? ⟨w5.heap.size, 0, none⟩ = some (.string ⟨#[1, 97]⟩) := HQ8.out.cell 0
  have x1 : w8.cell? ⟨w5.heap.size, 1, none⟩ = some (.int .i64 28) := HQ8.out.cell 1
  have x2 : w8.cell? ⟨w5.heap.size, 2, none⟩ = some (.int .i64 1) := HQ8.out.cell 2
  go_wp2_with fail
  refine (V2.out _).mono ?_
  rintro e w9 ⟨rfl, hb⟩
  have HQ9 := Lib.hid (HQ8.out.next hb)
  have HB9 := Lib.hid (HB8.out.trans (hb.mono HB8.out.size))
  clear hb x0 x1 x2
  have x0 : w9.cell? ⟨w5.heap.size, 0, none⟩ = some (.string ⟨#[1, 97]⟩) := HQ9.out.cell 0
  have x1 : w9.cell? ⟨w5.heap.size, 1, none⟩ = some (.int .i64 28) := HQ9.out.cell 1
  have x2 : w9.cell? ⟨w5.heap.size, 2, none⟩ = some (.int .i64 1) := HQ9.out.cell 2
  go_wp2_with fail
  refine (V3.out _).mono ?_
  rintro e w10 ⟨rfl, hb⟩
  have HQ10 := Lib.hid (HQ9.out.next hb)
  have HB10 := Lib.hid (HB9.out.trans (hb.mono HB9.out.size))
  clear hb x0 x1 x2
  have x0 : w10.cell? ⟨w5.heap.size, 0, none⟩ = some (.string ⟨#[1, 97]⟩) := HQ10.out.cell 0
  have x1 : w10.cell? ⟨w5.heap.size, 1, none⟩ = some (.int .i64 28) := HQ10.out.cell 1
  have x2 : w10.cell? ⟨w5.heap.size, 2, none⟩ = some (.int .i64 1) := HQ10.out.cell 2
  go_wp2_with fail
  refine (V4.out _).mono ?_
  rintro e w11 ⟨rfl, hb⟩
  have HQ11 := Lib.hid (HQ10.out.next hb)
  have HB11 := Lib.hid (HB10.out.trans (hb.mono HB10.out.size))
  clear hb x0 x1 x2
  have x0 : w11.cell? ⟨w5.heap.size, 0, none⟩ = some (.string ⟨#[1, 97]⟩) := HQ11.out.cell 0
  have x1 : w11.cell? ⟨w5.heap.size, 1, none⟩ = some (.int .i64 28) := HQ11.out.cell 1
  have x2 : w11.cell? ⟨w5.heap.size, 2, none⟩ = some (.int .i64 1) := HQ11.out.cell 2
  go_wp2_with fail
  refine (V5.out _).mono ?_
  rintro e w12 ⟨rfl, hb⟩
  have HQ12 := Lib.hid (HQ11.out.next hb)
  have HB12 := Lib.hid (HB11.out.trans (hb.mono HB11.out.size))
  clear hb x0 x1 x2
  have x0 : w12.cell? ⟨w5.heap.size, 0, none⟩ = some (.string ⟨#[1, 97]⟩) := HQ12.out.cell 0
  have x1 : w12.cell? ⟨w5.heap.size, 1, none⟩ = some (.int .i64 28) := HQ12.out.cell 1
  have x2 : w12.cell? ⟨w5.heap.size, 2, none⟩ = some (.int .i64 1) := HQ12.out.cell 2
  go_wp2_with fail
  refine (V6.out _).mono ?_
  rintro e w13 ⟨rfl, hb⟩
  have HQ13 := Lib.hid (HQ12.out.next hb)
  have HB13 := Lib.hid (HB12.out.trans (hb.mono HB12.out.size))
  clear hb x0 x1 x2
  have x0 : w13.cell? ⟨w5.heap.size, 0, none⟩ = some (.string ⟨#[1, 97]⟩) := HQ13.out.cell 0
  have x1 : w13.cell? ⟨w5.heap.size, 1, none⟩ = some (.int .i64 28) := HQ13.out.cell 1
  have x2 : w13.cell? ⟨w5.heap.size, 2, none⟩ = some (.int .i64 1) := HQ13.out.cell 2
  go_wp2_with fail
  refine (V7.out _).mono ?_
  rintro e w14 ⟨rfl, hb⟩
  have HQ14 := Lib.hid (HQ13.out.next hb)
  have HB14 := Lib.hid (HB13.out.trans (hb.mono HB13.out.size))
  clear hb x0 x1 x2
  have x0 : w14.cell? ⟨w5.heap.size, 0, none⟩ = some (.string ⟨#[1, 97]⟩) := HQ14.out.cell 0
  have x1 : w14.cell? ⟨w5.heap.size, 1, none⟩ = some (.int .i64 28) := HQ14.out.cell 1
  have x2 : w14.cell? ⟨w5.heap.size, 2, none⟩ = some (.int .i64 1) := HQ14.out.cell 2
  go_wp2
  go_ret
  exact ⟨rfl, HB14.out⟩
end Go.Proofs.YtbbglpjhblhkdaaGreat
