/-
  The ninth stage's own example (lives) comes out true, whatever the memory. No condition.
-/
import Derived.Test.YtjollpgkmcinjaaGreatRdM7
import Derived.Test.YtjollpgkmcinjaaGreatPkLives
namespace Go.Proofs.YtjollpgkmcinjaaGreat
open Go.RowKit Go.Maps
set_option linter.unusedVariables false

def lvR : MD := { md0 with lo := 16909060 }
def lvM : MD := { md0 with n := ⟨#[1, 97, 1, 98]⟩, v0 := 10 }
theorem lvR_read : readD (bs ⟨#[1, 2, 3, 4]⟩) 0 4 1 = (0, lvR) := by kernel_rfl
theorem lvM_size : sizeD 15 lvM = 7 := by kernel_rfl
theorem nobS : nob.size ≤ maxLen := by decide
theorem fit_nil (w : World) (d : MD) (h : d.L = []) (hn : d.n.size ≤ maxLen) (hm : d.m.size ≤ maxLen) (hr : d.r.size ≤ maxLen) (h1 : d.hi < 2 ^ 64) (h2 : d.lo < 2 ^ 64) (v0 : d.v0 < 2 ^ 32) (v1 : d.v1 < 2 ^ 32) (v2 : d.v2 < 2 ^ 32) (v3 : d.v3 < 2 ^ 32) (v4 : d.v4 < 2 ^ 32) : Fit w d nilS := by
  constructor
  all_goals first | assumption | (rw [h]; exact .inl ⟨rfl, rfl⟩) | (rw [h]; exact fun _ h => absurd h List.not_mem_nil) | (rw [h]; exact Nat.zero_le _)
def LvR (w : World) (e : Ending) (w' : World) : Prop :=
  ∃ A n cap, e = .returned (.tuple #[.agg #[.bool false, .int .u64 0, .int .u64 16909060, .string ⟨#[]⟩, .string ⟨#[]⟩, .int .u32 0, .int .u32 0, .int .u32 0, .int .u32 0, .int .u32 0, .slice A n cap, .string ⟨#[]⟩], .int .i64 0]) ∧ Below w.heap.size w w'
theorem lv_read (w : World) : Calls Tryz.prog 15 #[.string ⟨#[1, 2, 3, 4]⟩, .int .i64 0, .int .i64 4, .int .i64 1] w (LvR w) := by
  have h := Read_anyD ⟨#[1, 2, 3, 4]⟩ 0 4 1 w (by decide)
  rw [lvR_read] at h
  refine h.mono ?_
  rintro e w' ⟨tv, rfl, _, ⟨n, cap, A, rfl⟩, _, hb⟩
  exact ⟨A, n, cap, rfl, hb⟩
theorem lv_size (w : World) : Calls Tryz.prog 13 #[.int .i64 15, .agg #[.bool false, .int .u64 0, .int .u64 0, .string ⟨#[1, 97, 1, 98]⟩, .string ⟨#[]⟩, .int .u32 10, .int .u32 0, .int .u32 0, .int .u32 0, .int .u32 0, nilS, .string ⟨#[]⟩]] w (Told w (.int .i64 7)) := by
  have h := Size_anyD 15 lvM nilS w (fit_nil w lvM rfl (by decide) nobS nobS (by decide) (by decide) (by decide) (by decide) (by decide) (by decide) (by decide))
  rw [lvM_size] at h
  exact h
theorem lv_eql (w : World) : (Op.equalIn 10000 24 (.agg #[.bool false, .int .u64 0, .int .u64 16909060]) (.agg #[.bool false, .int .u64 0, .int .u64 16909060])).run Tryz.prog w = .ok true w := ad_eql false 0 16909060 false 0 16909060 w
theorem lives9 (w : World) : Calls Tryz.prog 6 #[] w (Told w (.bool true)) := by
  have HR := Lib.hid (lv_read w)
  have HS := Lib.hid lv_size
  have heq := lv_eql
  go_enter Tryz.func6, Tryz.ntmps6
  go_wp2_with (go_at_call 15; (with_reducible refine HR.out.mono ?_); rintro e w1 ⟨A, n, cap, rfl, hb⟩; have HB := Lib.hid hb; have HL := Lib.hid (Lies.new w1 30 #[.bool false, .int .u64 0, .int .u64 16909060, .string ⟨#[]⟩, .string ⟨#[]⟩, .int .u32 0, .int .u32 0, .int .u32 0, .int .u32 0, .int .u32 0, .slice A n cap, .string ⟨#[]⟩]); clear hb)
  go_wp2_with (go_at_call 13; (with_reducible refine (HS.out _).mono ?_); rintro e w2 ⟨rfl, hb⟩; have HL2 := Lib.hid (HL.out.next hb); have HB2 := Lib.hid ((HB.out.alloc HB.out.size _).trans (hb.mono (by have := HB.out.size; simp; omega))); have k0 : w2.cell? ⟨w1.heap.size, 0, none⟩ = some (.bool false) := HL2.out.cell 0; have k1 : w2.cell? ⟨w1.heap.size, 1, none⟩ = some (.int .u64 0) := HL2.out.cell 1; have k2 : w2.cell? ⟨w1.heap.size, 2, none⟩ = some (.int .u64 16909060) := HL2.out.cell 2; clear hb)
  go_ret
  exact ⟨rfl, HB2.out⟩
end Go.Proofs.YtjollpgkmcinjaaGreat
