/-
  The ninth stage's own example (lives) comes out true, whatever the memory. No condition. The kit's LightData tells something, whatever the data. Conditions: the data can be read.
-/
import Derived.Test.YtbbglpjhblhkdaaGreatRdM7
import Derived.Test.YtbbglpjhblhkdaaGreatPkLives
import Derived.Deep.RegionHeld3
namespace Go.Proofs.YtbbglpjhblhkdaaGreat
open Go.RowKit Go.Maps
set_option linter.unusedVariables false

def lvR : MD := { md0 with lo := 16909060 }
def lvM : MD := { md0 with n := ⟨#[1, 97, 1, 98]⟩, v0 := 10 }
theorem lvR_read : readD (bs ⟨#[1, 2, 3, 4]⟩) 0 4 1 = (0, lvR) := by kernel_rfl
theorem lvM_size : sizeD 15 lvM = 7 := by kernel_rfl
theorem nobS : nob.size ≤ maxLen := by decide
theorem fit_nil (w : World) (d : MD) (h : d.L = []) (hn : d.n.size ≤ maxLen) (hm : d.m.size ≤ maxLen) (hr : d.r.size ≤ maxLen) (h1 : d.hi < 2 ^ 64) (h2 : d.lo < 2 ^ 64) (v0 : d.v0 < 2 ^ 32) (v1 : d.v1 < 2 ^ 32) (v2 : d.v2 < 2 ^ 32) (v3 : d.v3 < 2 ^ 32) (v4 : d.v4 < 2 ^ 32) : Fit w d nilS := by
  constructor
  all_goals first | assumption | (rw [h]; exact .inl ⟨rfl, rfl⟩) | (rw [h]; exact fun _ h => absurd h List.not_mem_nil) | (rw [h]; exact Nat.zero_le _)
def LvR (w : World) (e : Ending) (w' : World) : Prop :=
  ∃ A n cap, e = .returned (.tuple #[.agg #[.bool false, .int .u64 0, .int .u64 16909060, .string ⟨#[]⟩, .string ⟨#[]⟩, .int .u32 0, .int .u32 0, .int .u32 0, .int .u32 0, .int .u32 0, .slice A n cap, .string ⟨#[]⟩], .int .i64 0]) ∧ Below w.heap.size w w'
theorem lv_read (w : World) : Calls Tryz.prog 68 #[.string ⟨#[1, 2, 3, 4]⟩, .int .i64 0, .int .i64 4, .int .i64 1] w (LvR w) := by
  have h := Read_anyD ⟨#[1, 2, 3, 4]⟩ 0 4 1 w (by decide)
  rw [lvR_read] at h
  refine h.mono ?_
  rintro e w' ⟨tv, rfl, _, ⟨n, cap, A, rfl⟩, _, hb⟩
  exact ⟨A, n, cap, rfl, hb⟩
theorem lv_size (w : World) : Calls Tryz.prog 42 #[.int .i64 15, .agg #[.bool false, .int .u64 0, .int .u64 0, .string ⟨#[1, 97, 1, 98]⟩, .string ⟨#[]⟩, .int .u32 10, .int .u32 0, .int .u32 0, .int .u32 0, .int .u32 0, nilS, .string ⟨#[]⟩]] w (Told w (.int .i64 7)) := by
  have h := Size_anyD 15 lvM nilS w (fit_nil w lvM rfl (by decide) nobS nobS (by decide) (by decide) (by decide) (by decide) (by decide) (by decide) (by decide))
  rw [lvM_size] at h
  exact h
theorem lv_eql (w : World) : (Op.equalIn 10000 27 (.agg #[.bool false, .int .u64 0, .int .u64 16909060]) (.agg #[.bool false, .int .u64 0, .int .u64 16909060])).run Tryz.prog w = .ok true w := ad_eql false 0 16909060 false 0 16909060 w
end Go.Proofs.YtbbglpjhblhkdaaGreat
namespace Go.Proofs.YtbbglpjhblhkdaaGreat
open Go.RowKit
set_option linter.unusedVariables false

theorem srow_at {W : World} {A : Option Addr} {cap n : Nat} {L : List ByteArray} (h : SRow W (.slice A n cap) L) {k : Nat} (hk : k < L.length) : ∃ g off, A = some ⟨g, off, none⟩ ∧ W.cell? ⟨g, off + k, none⟩ = some (.string L[k]) := by
  rcases h with ⟨_, rfl⟩ | ⟨g, off, c, h1, _, _, _, h5⟩
  · simp at hk
  · injection h1 with h1
    exact ⟨g, off, h1, h5 k hk⟩
def LightR (w : World) (e : Ending) (w' : World) : Prop := ∃ b, e = .returned (.bool b) ∧ Below w.heap.size w w'
def LiRel (w : World) (C : Array Value) (n : Nat) (vn vi : Value) (wr : World) : Prop :=
  ∃ (k : Nat) (m : Int), vi = .int .i64 k ∧ k ≤ n ∧ vn = .int .i64 m ∧ Below w.heap.size w wr ∧ Lies wr w.heap.size 31 C
set_option maxHeartbeats 2000000 in
set_option maxRecDepth 100000 in
theorem Light_any (d : MD) (tv : Value) (w : World) (hf : Fit w d tv) : Calls Tryz.prog 46 #[dataV d tv] w (LightR w) := by
  obtain ⟨A, cap, rfl, hl, hc⟩ := hf.row.shape
  have HR := Lib.hid hf.row
  have HT := Lib.hid hf.t
  have htl := hf.tl
  have h1 := hf.n
  have h2 := hf.m
  have h3 := hf.r
  unfold maxLen at h1 h2 h3 hc
  have HB0 : Hid (Below w.heap.size w (w.alloc (.cells (cellsD d (.slice A d.L.length cap)) 31))) := Lib.hid ((Below.refl _ w).alloc (Nat.le_refl _) _)
  have HL0 : Hid (Lies (w.alloc (.cells (cellsD d (.slice A d.L.length cap)) 31)) w.heap.size 31 (cellsD d (.slice A d.L.length cap))) := Lib.hid (Lies.new w _ _)
  have c0 := HL0.out.cell 11
  have c1 := HL0.out.cell 3
  have c2 := HL0.out.cell 4
  clear hf
  unfold dataV cellsD
  go_enter Tryz.func46, Tryz.ntmps46
  go_wp2
  go_loopw [3, 4] (fun v3 v4 wr => LiRel w (cellsD d (.slice A d.L.length cap)) d.L.length v3 v4 wr) (fun _ v4 _ => d.L.length - (intOf v4).toNat)
  case atStart => exact ⟨0, _, rfl, Nat.zero_le _, rfl, HB0.out, HL0.out⟩
  case round =>
    clear HB0 HL0 c0 c1 c2
    obtain ⟨k, m, rfl, hk, rfl, hb, hl⟩ := hrel
    have HB := Lib.hid hb
    have HL := Lib.hid hl
    have kc : wr.cell? ⟨w.heap.size, 10, none⟩ = some (.slice A d.L.length cap) := hl.cell 10
    clear hb hl
    rcases Nat.lt_or_ge k d.L.length with hlt | hge
    · obtain ⟨q0, o0, rfl, hcell0⟩ := srow_at (HR.out.below HB.out (Nat.le_refl _)) hlt
      have hltI : (k : Int) < (d.L.length : Int) := by omega
      have hkk : k + 1 ≤ d.L.length := hlt
      have hxs := HT.out _ (List.getElem_mem hlt)
      unfold maxLen at hxs
      go_wp2
      go_roundw
      case rel => exact ⟨k + 1, _, by go_num, hkk, rfl, HB.out, HL.out⟩
      case measure => simp [intOf]; omega
    · obtain rfl : k = d.L.length := by omega
      go_wp2
      go_ret
      exact ⟨_, rfl, HB.out⟩
end Go.Proofs.YtbbglpjhblhkdaaGreat
