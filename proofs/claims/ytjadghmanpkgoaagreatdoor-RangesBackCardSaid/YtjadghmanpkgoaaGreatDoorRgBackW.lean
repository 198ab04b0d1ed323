/-
  The walk of the law RangesBack. Conditions: the laid tables' cells and errors (Ground), the addresses' numbers such as their types bear.
-/
import Derived.Test.YtjadghmanpkgoaaGreatDoorRgBackM
import Derived.Test.YtjadghmanpkgoaaGreatDoorBx
namespace Go.Proofs.YtjadghmanpkgoaaGreatDoor
open Go.RowKit
set_option linter.unusedVariables false

set_option maxRecDepth 100000 in
theorem rg_equal (s : Bool) (h l : Nat) (n : Int) (w : World) : (Op.equalIn 10000 49 (.agg #[.bool s, .int .u64 (h : Int), .int .u64 (l : Int), .int .i64 n]) (.agg #[.bool s, .int .u64 (h : Int), .int .u64 (l : Int), .int .i64 n])).run Tryz.prog w = .ok true w := by
  have hS : Tryz.prog.underlying 49 = some (.struct (Tryz.prog.fieldsOf 49)) := by kernel_rfl
  have hp : Tryz.prog.stoodInHeld 49 = false := by kernel_rfl
  have hS2 : Tryz.prog.underlying 24 = some (.struct (Tryz.prog.fieldsOf 24)) := by kernel_rfl
  have hp2 : Tryz.prog.stoodInHeld 24 = false := by kernel_rfl
  have inner : (Op.equalIn 9999 24 (.agg #[.bool s, .int .u64 (h : Int), .int .u64 (l : Int)]) (.agg #[.bool s, .int .u64 (h : Int), .int .u64 (l : Int)])).run Tryz.prog w = .ok true w := by
    rw [show (9999 : Nat) = 9998 + 1 from rfl, run_equalIn_agg w 9998 24 _ _ hS2 hp2]
    simp only [Program.fieldsOf, Tryz.underlying24]
    go_simp
  rw [show (10000 : Nat) = 9999 + 1 from rfl, run_equalIn_agg w 9999 49 _ _ hS hp]
  simp only [Program.fieldsOf, Tryz.underlying49]
  clear hS hp hS2 hp2
  go_simp
theorem add_fit (a : Ad) (n : Nat) : fitA (addA a n).1 := by
  unfold addA
  split
  · exact ⟨by decide, by decide⟩
  · split
    · exact ⟨by decide, by decide⟩
    · exact ⟨Nat.mod_lt _ (by decide), Nat.mod_lt _ (by decide)⟩
set_option maxHeartbeats 4000000 in
set_option maxRecDepth 100000 in
theorem RangesBack_bad (six : Bool) (hi lo : Nat) (n : Int) (i : Int) (hf : fitA (six, hi, lo)) (hc : chkR (six, hi, lo) n ≠ 0) (w : World) (hG : Ground w) :
    Calls Tryz.prog 8 #[.agg #[.bool six, .int .u64 (hi : Int), .int .u64 (lo : Int), .int .i64 n], .int .i64 i] w fun e w' => e = .returned (.bool true) ∧ Below w.heap.size w w' := by
  have HG := Lib.hid (fun wx (hb : Below w.heap.size w wx) => hG.next hb)
  have GL := Lib.hid lives5
  obtain ⟨c, hce⟩ : ∃ c, c = chkR (six, hi, lo) n := ⟨_, rfl⟩
  have GT := Lib.hid (show GG 34 #[.agg #[.bool six, .int .u64 (hi : Int), .int .u64 (lo : Int), .int .i64 n]] (.tuple #[.string ⟨#[]⟩, .int .i64 (c : Int)]) from gTr (s := ⟨#[]⟩) (e := c) hf ((tx_bad hc).trans (by rw [hce]; rfl)))
  have GC := Lib.hid (gCr hf hce.symm)
  have GS := Lib.hid (show GG 38 #[.agg #[.bool six, .int .u64 (hi : Int), .int .u64 (lo : Int), .int .i64 n]] (.int .i64 0) from gSr (z := 0) hf (size_bad hc))
  have GH := Lib.hid (gHr (n := n) (b := false) hf hf (hasR_bad (six, hi, lo) hc))
  rw [← hce] at hc
  have hcb : ((c : Int) != 0) = true := by rw [bne_iff_ne]; omega
  have hcc : ((c : Int) == (c : Int)) = true := by rw [beq_iff_eq]
  have HS : Hid (Bx w (w.alloc (.cells #[.bool six, .int .u64 (hi : Int), .int .u64 (lo : Int), .int .i64 n] 49)) [(w.heap.size, 49, #[.bool six, .int .u64 (hi : Int), .int .u64 (lo : Int), .int .i64 n])]) := Lib.hid ((Bx.start w).more 49 _)
  clear hG hf hce hc
  go_enter Tryz.func8, Tryz.ntmps8
  go_wp2_with fail
  (with_reducible refine (GL.out.go _ (HG.out _ HS.out.bel)).mono ?_)
  rintro e w1 ⟨rfl, hb⟩
  replace HS := Lib.hid (HS.out.next hb)
  clear hb
  have r0 : w1.cell? ⟨w.heap.size, 0, none⟩ = some (.bool six) := Lies.cell (HS.out.at List.mem_cons_self) 0
  have r1 : w1.cell? ⟨w.heap.size, 1, none⟩ = some (.int .u64 (hi : Int)) := Lies.cell (HS.out.at List.mem_cons_self) 1
  have r2 : w1.cell? ⟨w.heap.size, 2, none⟩ = some (.int .u64 (lo : Int)) := Lies.cell (HS.out.at List.mem_cons_self) 2
  have r3 : w1.cell? ⟨w.heap.size, 3, none⟩ = some (.int .i64 n) := Lies.cell (HS.out.at List.mem_cons_self) 3
  go_wp2_with fail
  (with_reducible refine (GT.out.go _ (HG.out _ HS.out.bel)).mono ?_)
  rintro e w2 ⟨rfl, hb⟩
  replace HS := Lib.hid (HS.out.next hb)
  clear hb r0 r1 r2 r3
  have r0 : w2.cell? ⟨w.heap.size, 0, none⟩ = some (.bool six) := Lies.cell (HS.out.at List.mem_cons_self) 0
  have r1 : w2.cell? ⟨w.heap.size, 1, none⟩ = some (.int .u64 (hi : Int)) := Lies.cell (HS.out.at List.mem_cons_self) 1
  have r2 : w2.cell? ⟨w.heap.size, 2, none⟩ = some (.int .u64 (lo : Int)) := Lies.cell (HS.out.at List.mem_cons_self) 2
  have r3 : w2.cell? ⟨w.heap.size, 3, none⟩ = some (.int .i64 n) := Lies.cell (HS.out.at List.mem_cons_self) 3
  go_wp2_with fail
  (with_reducible refine (GC.out.go _ (HG.out _ HS.out.bel)).mono ?_)
  rintro e w3 ⟨rfl, hb⟩
  replace HS := Lib.hid (HS.out.next hb)
  clear hb r0 r1 r2 r3
  have r0 : w3.cell? ⟨w.heap.size, 0, none⟩ = some (.bool six) := Lies.cell (HS.out.at List.mem_cons_self) 0
  have r1 : w3.cell? ⟨w.heap.size, 1, none⟩ = some (.int .u64 (hi : Int)) := Lies.cell (HS.out.at List.mem_cons_self) 1
  have r2 : w3.cell? ⟨w.heap.size, 2, none⟩ = some (.int .u64 (lo : Int)) := Lies.cell (HS.out.at List.mem_cons_self) 2
  have r3 : w3.cell? ⟨w.heap.size, 3, none⟩ = some (.int .i64 n) := Lies.cell (HS.out.at List.mem_cons_self) 3
  go_wp2_with fail
  (with_reducible refine (GS.out.go _ (HG.out _ HS.out.bel)).mono ?_)
  rintro e w4 ⟨rfl, hb⟩
  replace HS := Lib.hid (HS.out.next hb)
  clear hb r0 r1 r2 r3
  have r0 : w4.cell? ⟨w.heap.size, 0, none⟩ = some (.bool six) := Lies.cell (HS.out.at List.mem_cons_self) 0
  have r1 : w4.cell? ⟨w.heap.size, 1, none⟩ = some (.int .u64 (hi : Int)) := Lies.cell (HS.out.at List.mem_cons_self) 1
  have r2 : w4.cell? ⟨w.heap.size, 2, none⟩ = some (.int .u64 (lo : Int)) := Lies.cell (HS.out.at List.mem_cons_self) 2
  have r3 : w4.cell? ⟨w.heap.size, 3, none⟩ = some (.int .i64 n) := Lies.cell (HS.out.at List.mem_cons_self) 3
  go_wp2_with fail
  (with_reducible refine (GH.out.go _ (HG.out _ HS.out.bel)).mono ?_)
  rintro e w5 ⟨rfl, hb⟩
  replace HS := Lib.hid (HS.out.next hb)
  clear hb r0 r1 r2 r3
  have r0 : w5.cell? ⟨w.heap.size, 0, none⟩ = some (.bool six) := Lies.cell (HS.out.at List.mem_cons_self) 0
  have r1 : w5.cell? ⟨w.heap.size, 1, none⟩ = some (.int .u64 (hi : Int)) := Lies.cell (HS.out.at List.mem_cons_self) 1
  have r2 : w5.cell? ⟨w.heap.size, 2, none⟩ = some (.int .u64 (lo : Int)) := Lies.cell (HS.out.at List.mem_cons_self) 2
  have r3 : w5.cell? ⟨w.heap.size, 3, none⟩ = some (.int .i64 n) := Lies.cell (HS.out.at List.mem_cons_self) 3
  go_wp2
  go_ret
  exact ⟨rfl, HS.out.bel⟩
set_option maxHeartbeats 8000000 in
set_option maxRecDepth 100000 in
theorem RangesBack_good (six : Bool) (hi lo b : Nat) (i : Int) (hf : fitA (six, hi, lo)) (hc : chkR (six, hi, lo) (b : Int) = 0) (w : World) (hG : Ground w) :
    Calls Tryz.prog 8 #[.agg #[.bool six, .int .u64 (hi : Int), .int .u64 (lo : Int), .int .i64 (b : Int)], .int .i64 i] w fun e w' => e = .returned (.bool true) ∧ Below w.heap.size w w' := by
  have HG := Lib.hid (fun wx (hb : Below w.heap.size w wx) => hG.next hb)
  have GL := Lib.hid lives5
  obtain ⟨S, hS⟩ : ∃ S : ByteArray, S = ⟨(txR (six, hi, lo) (b : Int)).1.toArray⟩ := ⟨_, rfl⟩
  have hSb : bs S = (txR (six, hi, lo) (b : Int)).1 := by rw [hS]; exact bs_mk _
  have hb128 : b ≤ 128 := by
    obtain ⟨_, b', e, hb, _⟩ := chkR_yes hc
    have : widA six ≤ 128 := by cases six <;> decide
    have hb' : b' ≤ widA six := hb
    omega
  have hSs : S.size ≤ 900000 := by rw [← bs_length, hSb]; exact Nat.le_trans (txR_len _ b hb128) (by decide)
  have hz := size_pos hc
  obtain ⟨z, hzz⟩ : ∃ z, z = sizeR (six, hi, lo) (b : Int) := ⟨_, rfl⟩
  have hpr := pick_range (i := i) (n := (z : Int)) (by omega)
  obtain ⟨j, hj⟩ : ∃ j : Nat, pick i (z : Int) = j := ⟨(pick i (z : Int)).toNat, by omega⟩
  have hjz : j < sizeR (six, hi, lo) (b : Int) := by omega
  obtain ⟨y, hy⟩ : ∃ y : Nat, y = z - 1 := ⟨_, rfl⟩
  have hyI : (z : Int) - 1 = (y : Int) := by omega
  obtain ⟨_, fx, x3, x4, _⟩ := place hf hc hjz
  obtain ⟨_, fl, l3, l4, _⟩ := place hf hc (j := y) (by omega)
  simp only at fx x3 x4 fl l3 l4
  have hxx := idx_place hf hc hjz
  have hax := at_place hf hc hjz
  have hal := at_place hf hc (j := y) (by omega)
  have ha0 := at_place hf hc (j := 0) (by omega)
  have han := at_over (r := (six, hi, lo)) (n := (b : Int))
  have hhx : hasR (six, hi, lo) (b : Int) (six, hi, lo + j) = true := (hasR_iff hc).2 ⟨x3, x4⟩
  have hhl : hasR (six, hi, lo) (b : Int) (six, hi, lo + y) = true := (hasR_iff hc).2 ⟨l3, l4⟩
  simp only [Nat.add_zero] at hxx hax hal ha0
  obtain ⟨⟨⟨ns, nh, nl⟩, th⟩, hadd⟩ : ∃ q, q = addA (six, hi, lo + y) 1 := ⟨_, rfl⟩
  have fn : fitA (ns, nh, nl) := by have := add_fit (six, hi, lo + y) 1; rw [← hadd] at this; exact this
  obtain ⟨hv, hhv⟩ : ∃ hv, hv = hasR (six, hi, lo) (b : Int) (ns, nh, nl) := ⟨_, rfl⟩
  have hno : th = true → z ≠ 65536 → hv = false := fun ht hz' => by
    subst ht
    rw [hhv]
    exact next_out hf hc (by rw [← hzz]; exact hz') (by rw [← hzz, ← hy]; exact hadd.symm)
  obtain ⟨X, hX⟩ : ∃ X, X = lo + j := ⟨_, rfl⟩
  obtain ⟨Y, hY⟩ : ∃ Y, Y = lo + y := ⟨_, rfl⟩
  rw [← hX] at hxx hax hhx fx
  rw [← hY] at hal hhl fl hadd
  have GT := Lib.hid (gTr (n := (b : Int)) (s := S) (e := 0) hf (by rw [hSb]; unfold txR; rw [if_neg (by omega)]))
  have GR := Lib.hid (gRr (s := S) (b := b) (e := 0) hSs (by rw [hSb]; exact rd_tx hf hc))
  have GS := Lib.hid (gSr (n := (b : Int)) (z := z) hf hzz.symm)
  have GP := gPk (i := i) (n := (z : Int)) (by omega) (by omega)
  rw [hj] at GP
  replace GP := Lib.hid GP
  have GA := Lib.hid (gAr (n := (b : Int)) hf hax)
  have GI := Lib.hid (gIr (n := (b : Int)) hf fx hxx)
  have GA0 := Lib.hid (show GG 37 #[.agg #[.bool six, .int .u64 (hi : Int), .int .u64 (lo : Int), .int .i64 (b : Int)], .int .i64 0] (.tuple #[.agg #[.bool six, .int .u64 (hi : Int), .int .u64 (lo : Int)], .bool true]) from gAr (n := (b : Int)) (i := 0) hf ha0)
  have GAy := Lib.hid (gAr (n := (b : Int)) (i := (y : Int)) hf hal)
  have GAz := Lib.hid (show GG 37 #[.agg #[.bool six, .int .u64 (hi : Int), .int .u64 (lo : Int), .int .i64 (b : Int)], .int .i64 (z : Int)] (.tuple #[.agg #[.bool false, .int .u64 0, .int .u64 0], .bool false]) from gAr (n := (b : Int)) (i := (z : Int)) (s := false) (ah := 0) (al := 0) (is := false) hf (by rw [hzz]; exact han))
  have GHx := Lib.hid (gHr (n := (b : Int)) hf fx hhx)
  have GHy := Lib.hid (gHr (n := (b : Int)) hf fl hhl)
  have GHn := Lib.hid (gHr (n := (b : Int)) hf fn hhv.symm)
  have GN := Lib.hid (show GG 21 #[.agg #[.bool six, .int .u64 (hi : Int), .int .u64 (Y : Int)], .int .u64 1] (.tuple #[.agg #[.bool ns, .int .u64 (nh : Int), .int .u64 (nl : Int)], .bool th]) from gAd (a := (six, hi, Y)) (n := 1) (b := (ns, nh, nl)) (is := th) fl (by decide) hadd.symm)
  have EQR := rg_equal six hi lo (b : Int)
  have EQA : ∀ wx, (Op.equalIn 10000 24 (.agg #[.bool six, .int .u64 (hi : Int), .int .u64 (lo : Int)]) (.agg #[.bool six, .int .u64 (hi : Int), .int .u64 (lo : Int)])).run Tryz.prog wx = .ok true wx := fun wx => (ad_equal six hi lo six hi lo wx).trans (by rw [decide_eq_true rfl])
  have hz1 : decide ((z : Int) < 1) = false := by simp; omega
  have hz2 : decide ((65536 : Int) < (z : Int)) = false := by simp; omega
  have hz3 : (z : Int) ≤ 65536 := by omega
  have hjj : ((j : Int) != (j : Int)) = false := by rw [bne_eq_false_iff_eq]
  have HNO := Lib.hid hno
  have HZ := Lib.hid hz
  have HS : Hid (Bx w (w.alloc (.cells #[.bool six, .int .u64 (hi : Int), .int .u64 (lo : Int), .int .i64 (b : Int)] 49)) [(w.heap.size, 49, #[.bool six, .int .u64 (hi : Int), .int .u64 (lo : Int), .int .i64 (b : Int)])]) := Lib.hid ((Bx.start w).more 49 _)
  clear hG hf hc hS hSb hSs hb128 hz hzz hpr hj hjz hy fx x3 x4 fl l3 l4 hxx hax hal ha0 han hhx hhl hadd fn hhv hno hX hY
  go_enter Tryz.func8, Tryz.ntmps8
  go_wp2_with fail
  (with_reducible refine (GL.out.go _ (HG.out _ HS.out.bel)).mono ?_)
  rintro e w1 ⟨rfl, hb⟩
  replace HS := Lib.hid (HS.out.next hb)
  clear hb
  have r0 : w1.cell? ⟨w.heap.size, 0, none⟩ = some (.bool six) := Lies.cell (HS.out.at List.mem_cons_self) 0
  have r1 : w1.cell? ⟨w.heap.size, 1, none⟩ = some (.int .u64 (hi : Int)) := Lies.cell (HS.out.at List.mem_cons_self) 1
  have r2 : w1.cell? ⟨w.heap.size, 2, none⟩ = some (.int .u64 (lo : Int)) := Lies.cell (HS.out.at List.mem_cons_self) 2
  have r3 : w1.cell? ⟨w.heap.size, 3, none⟩ = some (.int .i64 (b : Int)) := Lies.cell (HS.out.at List.mem_cons_self) 3
  go_wp2_with fail
  (with_reducible refine (GT.out.go _ (HG.out _ HS.out.bel)).mono ?_)
  rintro e w2 ⟨rfl, hb⟩
  replace HS := Lib.hid (HS.out.next hb)
  clear hb r0 r1 r2 r3
  have r0 : w2.cell? ⟨w.heap.size, 0, none⟩ = some (.bool six) := Lies.cell (HS.out.at List.mem_cons_self) 0
  have r1 : w2.cell? ⟨w.heap.size, 1, none⟩ = some (.int .u64 (hi : Int)) := Lies.cell (HS.out.at List.mem_cons_self) 1
  have r2 : w2.cell? ⟨w.heap.size, 2, none⟩ = some (.int .u64 (lo : Int)) := Lies.cell (HS.out.at List.mem_cons_self) 2
  have r3 : w2.cell? ⟨w.heap.size, 3, none⟩ = some (.int .i64 (b : Int)) := Lies.cell (HS.out.at List.mem_cons_self) 3
  go_wp2_with fail
  (with_reducible refine (GR.out.go _ (HG.out _ HS.out.bel)).mono ?_)
  rintro e w3 ⟨rfl, hb⟩
  replace HS := Lib.hid (HS.out.next hb)
  clear hb r0 r1 r2 r3
  replace HS := Lib.hid (HS.out.more 49 #[.bool six, .int .u64 (hi : Int), .int .u64 (lo : Int), .int .i64 (b : Int)])
  have r0 : (w3.alloc (.cells #[.bool six, .int .u64 (hi : Int), .int .u64 (lo : Int), .int .i64 (b : Int)] 49)).cell? ⟨w.heap.size, 0, none⟩ = some (.bool six) := Lies.cell (HS.out.at (List.mem_cons_of_mem _ List.mem_cons_self)) 0
  have r1 : (w3.alloc (.cells #[.bool six, .int .u64 (hi : Int), .int .u64 (lo : Int), .int .i64 (b : Int)] 49)).cell? ⟨w.heap.size, 1, none⟩ = some (.int .u64 (hi : Int)) := Lies.cell (HS.out.at (List.mem_cons_of_mem _ List.mem_cons_self)) 1
  have r2 : (w3.alloc (.cells #[.bool six, .int .u64 (hi : Int), .int .u64 (lo : Int), .int .i64 (b : Int)] 49)).cell? ⟨w.heap.size, 2, none⟩ = some (.int .u64 (lo : Int)) := Lies.cell (HS.out.at (List.mem_cons_of_mem _ List.mem_cons_self)) 2
  have r3 : (w3.alloc (.cells #[.bool six, .int .u64 (hi : Int), .int .u64 (lo : Int), .int .i64 (b : Int)] 49)).cell? ⟨w.heap.size, 3, none⟩ = some (.int .i64 (b : Int)) := Lies.cell (HS.out.at (List.mem_cons_of_mem _ List.mem_cons_self)) 3
  have p0 : (w3.alloc (.cells #[.bool six, .int .u64 (hi : Int), .int .u64 (lo : Int), .int .i64 (b : Int)] 49)).cell? ⟨w3.heap.size, 0, none⟩ = some (.bool six) := Lies.cell (HS.out.at List.mem_cons_self) 0
  have p1 : (w3.alloc (.cells #[.bool six, .int .u64 (hi : Int), .int .u64 (lo : Int), .int .i64 (b : Int)] 49)).cell? ⟨w3.heap.size, 1, none⟩ = some (.int .u64 (hi : Int)) := Lies.cell (HS.out.at List.mem_cons_self) 1
  have p2 : (w3.alloc (.cells #[.bool six, .int .u64 (hi : Int), .int .u64 (lo : Int), .int .i64 (b : Int)] 49)).cell? ⟨w3.heap.size, 2, none⟩ = some (.int .u64 (lo : Int)) := Lies.cell (HS.out.at List.mem_cons_self) 2
  have p3 : (w3.alloc (.cells #[.bool six, .int .u64 (hi : Int), .int .u64 (lo : Int), .int .i64 (b : Int)] 49)).cell? ⟨w3.heap.size, 3, none⟩ = some (.int .i64 (b : Int)) := Lies.cell (HS.out.at List.mem_cons_self) 3
  go_wp2_with fail
  (with_reducible refine (GS.out.go _ (HG.out _ HS.out.bel)).mono ?_)
  rintro e w4 ⟨rfl, hb⟩
  replace HS := Lib.hid (HS.out.next hb)
  clear hb r0 r1 r2 r3 p0 p1 p2 p3
  have r0 : w4.cell? ⟨w.heap.size, 0, none⟩ = some (.bool six) := Lies.cell (HS.out.at (List.mem_cons_of_mem _ List.mem_cons_self)) 0
  have r1 : w4.cell? ⟨w.heap.size, 1, none⟩ = some (.int .u64 (hi : Int)) := Lies.cell (HS.out.at (List.mem_cons_of_mem _ List.mem_cons_self)) 1
  have r2 : w4.cell? ⟨w.heap.size, 2, none⟩ = some (.int .u64 (lo : Int)) := Lies.cell (HS.out.at (List.mem_cons_of_mem _ List.mem_cons_self)) 2
  have r3 : w4.cell? ⟨w.heap.size, 3, none⟩ = some (.int .i64 (b : Int)) := Lies.cell (HS.out.at (List.mem_cons_of_mem _ List.mem_cons_self)) 3
  have p0 : w4.cell? ⟨w3.heap.size, 0, none⟩ = some (.bool six) := Lies.cell (HS.out.at List.mem_cons_self) 0
  have p1 : w4.cell? ⟨w3.heap.size, 1, none⟩ = some (.int .u64 (hi : Int)) := Lies.cell (HS.out.at List.mem_cons_self) 1
  have p2 : w4.cell? ⟨w3.heap.size, 2, none⟩ = some (.int .u64 (lo : Int)) := Lies.cell (HS.out.at List.mem_cons_self) 2
  have p3 : w4.cell? ⟨w3.heap.size, 3, none⟩ = some (.int .i64 (b : Int)) := Lies.cell (HS.out.at List.mem_cons_self) 3
  go_wp2_with fail
  (with_reducible refine (GP.out.go _ (HG.out _ HS.out.bel)).mono ?_)
  rintro e w5 ⟨rfl, hb⟩
  replace HS := Lib.hid (HS.out.next hb)
  clear hb r0 r1 r2 r3 p0 p1 p2 p3
  have r0 : w5.cell? ⟨w.heap.size, 0, none⟩ = some (.bool six) := Lies.cell (HS.out.at (List.mem_cons_of_mem _ List.mem_cons_self)) 0
  have r1 : w5.cell? ⟨w.heap.size, 1, none⟩ = some (.int .u64 (hi : Int)) := Lies.cell (HS.out.at (List.mem_cons_of_mem _ List.mem_cons_self)) 1
  have r2 : w5.cell? ⟨w.heap.size, 2, none⟩ = some (.int .u64 (lo : Int)) := Lies.cell (HS.out.at (List.mem_cons_of_mem _ List.mem_cons_self)) 2
  have r3 : w5.cell? ⟨w.heap.size, 3, none⟩ = some (.int .i64 (b : Int)) := Lies.cell (HS.out.at (List.mem_cons_of_mem _ List.mem_cons_self)) 3
  have p0 : w5.cell? ⟨w3.heap.size, 0, none⟩ = some (.bool six) := Lies.cell (HS.out.at List.mem_cons_self) 0
  have p1 : w5.cell? ⟨w3.heap.size, 1, none⟩ = some (.int .u64 (hi : Int)) := Lies.cell (HS.out.at List.mem_cons_self) 1
  have p2 : w5.cell? ⟨w3.heap.size, 2, none⟩ = some (.int .u64 (lo : Int)) := Lies.cell (HS.out.at List.mem_cons_self) 2
  have p3 : w5.cell? ⟨w3.heap.size, 3, none⟩ = some (.int .i64 (b : Int)) := Lies.cell (HS.out.at List.mem_cons_self) 3
  go_wp2_with fail
  (with_reducible refine (GA.out.go _ (HG.out _ HS.out.bel)).mono ?_)
  rintro e w6 ⟨rfl, hb⟩
  replace HS := Lib.hid (HS.out.next hb)
  clear hb r0 r1 r2 r3 p0 p1 p2 p3
  replace HS := Lib.hid (HS.out.more 24 #[.bool six, .int .u64 (hi : Int), .int .u64 (X : Int)])
  have r0 : (w6.alloc (.cells #[.bool six, .int .u64 (hi : Int), .int .u64 (X : Int)] 24)).cell? ⟨w.heap.size, 0, none⟩ = some (.bool six) := Lies.cell (HS.out.at (List.mem_cons_of_mem _ (List.mem_cons_of_mem _ List.mem_cons_self))) 0
  have r1 : (w6.alloc (.cells #[.bool six, .int .u64 (hi : Int), .int .u64 (X : Int)] 24)).cell? ⟨w.heap.size, 1, none⟩ = some (.int .u64 (hi : Int)) := Lies.cell (HS.out.at (List.mem_cons_of_mem _ (List.mem_cons_of_mem _ List.mem_cons_self))) 1
  have r2 : (w6.alloc (.cells #[.bool six, .int .u64 (hi : Int), .int .u64 (X : Int)] 24)).cell? ⟨w.heap.size, 2, none⟩ = some (.int .u64 (lo : Int)) := Lies.cell (HS.out.at (List.mem_cons_of_mem _ (List.mem_cons_of_mem _ List.mem_cons_self))) 2
  have r3 : (w6.alloc (.cells #[.bool six, .int .u64 (hi : Int), .int .u64 (X : Int)] 24)).cell? ⟨w.heap.size, 3, none⟩ = some (.int .i64 (b : Int)) := Lies.cell (HS.out.at (List.mem_cons_of_mem _ (List.mem_cons_of_mem _ List.mem_cons_self))) 3
  have p0 : (w6.alloc (.cells #[.bool six, .int .u64 (hi : Int), .int .u64 (X : Int)] 24)).cell? ⟨w3.heap.size, 0, none⟩ = some (.bool six) := Lies.cell (HS.out.at (List.mem_cons_of_mem _ List.mem_cons_self)) 0
  have p1 : (w6.alloc (.cells #[.bool six, .int .u64 (hi : Int), .int .u64 (X : Int)] 24)).cell? ⟨w3.heap.size, 1, none⟩ = some (.int .u64 (hi : Int)) := Lies.cell (HS.out.at (List.mem_cons_of_mem _ List.mem_cons_self)) 1
  have p2 : (w6.alloc (.cells #[.bool six, .int .u64 (hi : Int), .int .u64 (X : Int)] 24)).cell? ⟨w3.heap.size, 2, none⟩ = some (.int .u64 (lo : Int)) := Lies.cell (HS.out.at (List.mem_cons_of_mem _ List.mem_cons_self)) 2
  have p3 : (w6.alloc (.cells #[.bool six, .int .u64 (hi : Int), .int .u64 (X : Int)] 24)).cell? ⟨w3.heap.size, 3, none⟩ = some (.int .i64 (b : Int)) := Lies.cell (HS.out.at (List.mem_cons_of_mem _ List.mem_cons_self)) 3
  have a0 : (w6.alloc (.cells #[.bool six, .int .u64 (hi : Int), .int .u64 (X : Int)] 24)).cell? ⟨w6.heap.size, 0, none⟩ = some (.bool six) := Lies.cell (HS.out.at List.mem_cons_self) 0
  have a1 : (w6.alloc (.cells #[.bool six, .int .u64 (hi : Int), .int .u64 (X : Int)] 24)).cell? ⟨w6.heap.size, 1, none⟩ = some (.int .u64 (hi : Int)) := Lies.cell (HS.out.at List.mem_cons_self) 1
  have a2 : (w6.alloc (.cells #[.bool six, .int .u64 (hi : Int), .int .u64 (X : Int)] 24)).cell? ⟨w6.heap.size, 2, none⟩ = some (.int .u64 (X : Int)) := Lies.cell (HS.out.at List.mem_cons_self) 2
  go_wp2_with fail
  (with_reducible refine (GI.out.go _ (HG.out _ HS.out.bel)).mono ?_)
  rintro e w7 ⟨rfl, hb⟩
  replace HS := Lib.hid (HS.out.next hb)
  clear hb r0 r1 r2 r3 p0 p1 p2 p3 a0 a1 a2
  have r0 : w7.cell? ⟨w.heap.size, 0, none⟩ = some (.bool six) := Lies.cell (HS.out.at (List.mem_cons_of_mem _ (List.mem_cons_of_mem _ List.mem_cons_self))) 0
  have r1 : w7.cell? ⟨w.heap.size, 1, none⟩ = some (.int .u64 (hi : Int)) := Lies.cell (HS.out.at (List.mem_cons_of_mem _ (List.mem_cons_of_mem _ List.mem_cons_self))) 1
  have r2 : w7.cell? ⟨w.heap.size, 2, none⟩ = some (.int .u64 (lo : Int)) := Lies.cell (HS.out.at (List.mem_cons_of_mem _ (List.mem_cons_of_mem _ List.mem_cons_self))) 2
  have r3 : w7.cell? ⟨w.heap.size, 3, none⟩ = some (.int .i64 (b : Int)) := Lies.cell (HS.out.at (List.mem_cons_of_mem _ (List.mem_cons_of_mem _ List.mem_cons_self))) 3
  have p0 : w7.cell? ⟨w3.heap.size, 0, none⟩ = some (.bool six) := Lies.cell (HS.out.at (List.mem_cons_of_mem _ List.mem_cons_self)) 0
  have p1 : w7.cell? ⟨w3.heap.size, 1, none⟩ = some (.int .u64 (hi : Int)) := Lies.cell (HS.out.at (List.mem_cons_of_mem _ List.mem_cons_self)) 1
  have p2 : w7.cell? ⟨w3.heap.size, 2, none⟩ = some (.int .u64 (lo : Int)) := Lies.cell (HS.out.at (List.mem_cons_of_mem _ List.mem_cons_self)) 2
  have p3 : w7.cell? ⟨w3.heap.size, 3, none⟩ = some (.int .i64 (b : Int)) := Lies.cell (HS.out.at (List.mem_cons_of_mem _ List.mem_cons_self)) 3
  have a0 : w7.cell? ⟨w6.heap.size, 0, none⟩ = some (.bool six) := Lies.cell (HS.out.at List.mem_cons_self) 0
  have a1 : w7.cell? ⟨w6.heap.size, 1, none⟩ = some (.int .u64 (hi : Int)) := Lies.cell (HS.out.at List.mem_cons_self) 1
  have a2 : w7.cell? ⟨w6.heap.size, 2, none⟩ = some (.int .u64 (X : Int)) := Lies.cell (HS.out.at List.mem_cons_self) 2
  go_wp2_with fail
  (with_reducible refine (GA0.out.go _ (HG.out _ HS.out.bel)).mono ?_)
  rintro e w8 ⟨rfl, hb⟩
  replace HS := Lib.hid (HS.out.next hb)
  clear hb r0 r1 r2 r3 p0 p1 p2 p3 a0 a1 a2
  replace HS := Lib.hid (HS.out.more 24 #[.bool six, .int .u64 (hi : Int), .int .u64 (lo : Int)])
  have r0 : (w8.alloc (.cells #[.bool six, .int .u64 (hi : Int), .int .u64 (lo : Int)] 24)).cell? ⟨w.heap.size, 0, none⟩ = some (.bool six) := Lies.cell (HS.out.at (List.mem_cons_of_mem _ (List.mem_cons_of_mem _ (List.mem_cons_of_mem _ List.mem_cons_self)))) 0
  have r1 : (w8.alloc (.cells #[.bool six, .int .u64 (hi : Int), .int .u64 (lo : Int)] 24)).cell? ⟨w.heap.size, 1, none⟩ = some (.int .u64 (hi : Int)) := Lies.cell (HS.out.at (List.mem_cons_of_mem _ (List.mem_cons_of_mem _ (List.mem_cons_of_mem _ List.mem_cons_self)))) 1
  have r2 : (w8.alloc (.cells #[.bool six, .int .u64 (hi : Int), .int .u64 (lo : Int)] 24)).cell? ⟨w.heap.size, 2, none⟩ = some (.int .u64 (lo : Int)) := Lies.cell (HS.out.at (List.mem_cons_of_mem _ (List.mem_cons_of_mem _ (List.mem_cons_of_mem _ List.mem_cons_self)))) 2
  have r3 : (w8.alloc (.cells #[.bool six, .int .u64 (hi : Int), .int .u64 (lo : Int)] 24)).cell? ⟨w.heap.size, 3, none⟩ = some (.int .i64 (b : Int)) := Lies.cell (HS.out.at (List.mem_cons_of_mem _ (List.mem_cons_of_mem _ (List.mem_cons_of_mem _ List.mem_cons_self)))) 3
  have p0 : (w8.alloc (.cells #[.bool six, .int .u64 (hi : Int), .int .u64 (lo : Int)] 24)).cell? ⟨w3.heap.size, 0, none⟩ = some (.bool six) := Lies.cell (HS.out.at (List.mem_cons_of_mem _ (List.mem_cons_of_mem _ List.mem_cons_self))) 0
  have p1 : (w8.alloc (.cells #[.bool six, .int .u64 (hi : Int), .int .u64 (lo : Int)] 24)).cell? ⟨w3.heap.size, 1, none⟩ = some (.int .u64 (hi : Int)) := Lies.cell (HS.out.at (List.mem_cons_of_mem _ (List.mem_cons_of_mem _ List.mem_cons_self))) 1
  have p2 : (w8.alloc (.cells #[.bool six, .int .u64 (hi : Int), .int .u64 (lo : Int)] 24)).cell? ⟨w3.heap.size, 2, none⟩ = some (.int .u64 (lo : Int)) := Lies.cell (HS.out.at (List.mem_cons_of_mem _ (List.mem_cons_of_mem _ List.mem_cons_self))) 2
  have p3 : (w8.alloc (.cells #[.bool six, .int .u64 (hi : Int), .int .u64 (lo : Int)] 24)).cell? ⟨w3.heap.size, 3, none⟩ = some (.int .i64 (b : Int)) := Lies.cell (HS.out.at (List.mem_cons_of_mem _ (List.mem_cons_of_mem _ List.mem_cons_self))) 3
  have a0 : (w8.alloc (.cells #[.bool six, .int .u64 (hi : Int), .int .u64 (lo : Int)] 24)).cell? ⟨w6.heap.size, 0, none⟩ = some (.bool six) := Lies.cell (HS.out.at (List.mem_cons_of_mem _ List.mem_cons_self)) 0
  have a1 : (w8.alloc (.cells #[.bool six, .int .u64 (hi : Int), .int .u64 (lo : Int)] 24)).cell? ⟨w6.heap.size, 1, none⟩ = some (.int .u64 (hi : Int)) := Lies.cell (HS.out.at (List.mem_cons_of_mem _ List.mem_cons_self)) 1
  have a2 : (w8.alloc (.cells #[.bool six, .int .u64 (hi : Int), .int .u64 (lo : Int)] 24)).cell? ⟨w6.heap.size, 2, none⟩ = some (.int .u64 (X : Int)) := Lies.cell (HS.out.at (List.mem_cons_of_mem _ List.mem_cons_self)) 2
  have f0 : (w8.alloc (.cells #[.bool six, .int .u64 (hi : Int), .int .u64 (lo : Int)] 24)).cell? ⟨w8.heap.size, 0, none⟩ = some (.bool six) := Lies.cell (HS.out.at List.mem_cons_self) 0
  have f1 : (w8.alloc (.cells #[.bool six, .int .u64 (hi : Int), .int .u64 (lo : Int)] 24)).cell? ⟨w8.heap.size, 1, none⟩ = some (.int .u64 (hi : Int)) := Lies.cell (HS.out.at List.mem_cons_self) 1
  have f2 : (w8.alloc (.cells #[.bool six, .int .u64 (hi : Int), .int .u64 (lo : Int)] 24)).cell? ⟨w8.heap.size, 2, none⟩ = some (.int .u64 (lo : Int)) := Lies.cell (HS.out.at List.mem_cons_self) 2
  go_wp2_with fail
  (with_reducible refine (GAy.out.go _ (HG.out _ HS.out.bel)).mono ?_)
  rintro e w9 ⟨rfl, hb⟩
  replace HS := Lib.hid (HS.out.next hb)
  clear hb r0 r1 r2 r3 p0 p1 p2 p3 a0 a1 a2 f0 f1 f2
  replace HS := Lib.hid (HS.out.more 24 #[.bool six, .int .u64 (hi : Int), .int .u64 (Y : Int)])
  have r0 : (w9.alloc (.cells #[.bool six, .int .u64 (hi : Int), .int .u64 (Y : Int)] 24)).cell? ⟨w.heap.size, 0, none⟩ = some (.bool six) := Lies.cell (HS.out.at (List.mem_cons_of_mem _ (List.mem_cons_of_mem _ (List.mem_cons_of_mem _ (List.mem_cons_of_mem _ List.mem_cons_self))))) 0
  have r1 : (w9.alloc (.cells #[.bool six, .int .u64 (hi : Int), .int .u64 (Y : Int)] 24)).cell? ⟨w.heap.size, 1, none⟩ = some (.int .u64 (hi : Int)) := Lies.cell (HS.out.at (List.mem_cons_of_mem _ (List.mem_cons_of_mem _ (List.mem_cons_of_mem _ (List.mem_cons_of_mem _ List.mem_cons_self))))) 1
  have r2 : (w9.alloc (.cells #[.bool six, .int .u64 (hi : Int), .int .u64 (Y : Int)] 24)).cell? ⟨w.heap.size, 2, none⟩ = some (.int .u64 (lo : Int)) := Lies.cell (HS.out.at (List.mem_cons_of_mem _ (List.mem_cons_of_mem _ (List.mem_cons_of_mem _ (List.mem_cons_of_mem _ List.mem_cons_self))))) 2
  have r3 : (w9.alloc (.cells #[.bool six, .int .u64 (hi : Int), .int .u64 (Y : Int)] 24)).cell? ⟨w.heap.size, 3, none⟩ = some (.int .i64 (b : Int)) := Lies.cell (HS.out.at (List.mem_cons_of_mem _ (List.mem_cons_of_mem _ (List.mem_cons_of_mem _ (List.mem_cons_of_mem _ List.mem_cons_self))))) 3
  have p0 : (w9.alloc (.cells #[.bool six, .int .u64 (hi : Int), .int .u64 (Y : Int)] 24)).cell? ⟨w3.heap.size, 0, none⟩ = some (.bool six) := Lies.cell (HS.out.at (List.mem_cons_of_mem _ (List.mem_cons_of_mem _ (List.mem_cons_of_mem _ List.mem_cons_self)))) 0
  have p1 : (w9.alloc (.cells #[.bool six, .int .u64 (hi : Int), .int .u64 (Y : Int)] 24)).cell? ⟨w3.heap.size, 1, none⟩ = some (.int .u64 (hi : Int)) := Lies.cell (HS.out.at (List.mem_cons_of_mem _ (List.mem_cons_of_mem _ (List.mem_cons_of_mem _ List.mem_cons_self)))) 1
  have p2 : (w9.alloc (.cells #[.bool six, .int .u64 (hi : Int), .int .u64 (Y : Int)] 24)).cell? ⟨w3.heap.size, 2, none⟩ = some (.int .u64 (lo : Int)) := Lies.cell (HS.out.at (List.mem_cons_of_mem _ (List.mem_cons_of_mem _ (List.mem_cons_of_mem _ List.mem_cons_self)))) 2
  have p3 : (w9.alloc (.cells #[.bool six, .int .u64 (hi : Int), .int .u64 (Y : Int)] 24)).cell? ⟨w3.heap.size, 3, none⟩ = some (.int .i64 (b : Int)) := Lies.cell (HS.out.at (List.mem_cons_of_mem _ (List.mem_cons_of_mem _ (List.mem_cons_of_mem _ List.mem_cons_self)))) 3
  have a0 : (w9.alloc (.cells #[.bool six, .int .u64 (hi : Int), .int .u64 (Y : Int)] 24)).cell? ⟨w6.heap.size, 0, none⟩ = some (.bool six) := Lies.cell (HS.out.at (List.mem_cons_of_mem _ (List.mem_cons_of_mem _ List.mem_cons_self))) 0
  have a1 : (w9.alloc (.cells #[.bool six, .int .u64 (hi : Int), .int .u64 (Y : Int)] 24)).cell? ⟨w6.heap.size, 1, none⟩ = some (.int .u64 (hi : Int)) := Lies.cell (HS.out.at (List.mem_cons_of_mem _ (List.mem_cons_of_mem _ List.mem_cons_self))) 1
  have a2 : (w9.alloc (.cells #[.bool six, .int .u64 (hi : Int), .int .u64 (Y : Int)] 24)).cell? ⟨w6.heap.size, 2, none⟩ = some (.int .u64 (X : Int)) := Lies.cell (HS.out.at (List.mem_cons_of_mem _ (List.mem_cons_of_mem _ List.mem_cons_self))) 2
  have f0 : (w9.alloc (.cells #[.bool six, .int .u64 (hi : Int), .int .u64 (Y : Int)] 24)).cell? ⟨w8.heap.size, 0, none⟩ = some (.bool six) := Lies.cell (HS.out.at (List.mem_cons_of_mem _ List.mem_cons_self)) 0
  have f1 : (w9.alloc (.cells #[.bool six, .int .u64 (hi : Int), .int .u64 (Y : Int)] 24)).cell? ⟨w8.heap.size, 1, none⟩ = some (.int .u64 (hi : Int)) := Lies.cell (HS.out.at (List.mem_cons_of_mem _ List.mem_cons_self)) 1
  have f2 : (w9.alloc (.cells #[.bool six, .int .u64 (hi : Int), .int .u64 (Y : Int)] 24)).cell? ⟨w8.heap.size, 2, none⟩ = some (.int .u64 (lo : Int)) := Lies.cell (HS.out.at (List.mem_cons_of_mem _ List.mem_cons_self)) 2
  have l0 : (w9.alloc (.cells #[.bool six, .int .u64 (hi : Int), .int .u64 (Y : Int)] 24)).cell? ⟨w9.heap.size, 0, none⟩ = some (.bool six) := Lies.cell (HS.out.at List.mem_cons_self) 0
  have l1 : (w9.alloc (.cells #[.bool six, .int .u64 (hi : Int), .int .u64 (Y : Int)] 24)).cell? ⟨w9.heap.size, 1, none⟩ = some (.int .u64 (hi : Int)) := Lies.cell (HS.out.at List.mem_cons_self) 1
  have l2 : (w9.alloc (.cells #[.bool six, .int .u64 (hi : Int), .int .u64 (Y : Int)] 24)).cell? ⟨w9.heap.size, 2, none⟩ = some (.int .u64 (Y : Int)) := Lies.cell (HS.out.at List.mem_cons_self) 2
  go_wp2_with fail
  (with_reducible refine (GAz.out.go _ (HG.out _ HS.out.bel)).mono ?_)
  rintro e w10 ⟨rfl, hb⟩
  replace HS := Lib.hid (HS.out.next hb)
  clear hb r0 r1 r2 r3 p0 p1 p2 p3 a0 a1 a2 f0 f1 f2 l0 l1 l2
  replace HS := Lib.hid (HS.out.more 24 #[.bool false, .int .u64 0, .int .u64 0])
  have r0 : (w10.alloc (.cells #[.bool false, .int .u64 0, .int .u64 0] 24)).cell? ⟨w.heap.size, 0, none⟩ = some (.bool six) := Lies.cell (HS.out.at (List.mem_cons_of_mem _ (List.mem_cons_of_mem _ (List.mem_cons_of_mem _ (List.mem_cons_of_mem _ (List.mem_cons_of_mem _ List.mem_cons_self)))))) 0
  have r1 : (w10.alloc (.cells #[.bool false, .int .u64 0, .int .u64 0] 24)).cell? ⟨w.heap.size, 1, none⟩ = some (.int .u64 (hi : Int)) := Lies.cell (HS.out.at (List.mem_cons_of_mem _ (List.mem_cons_of_mem _ (List.mem_cons_of_mem _ (List.mem_cons_of_mem _ (List.mem_cons_of_mem _ List.mem_cons_self)))))) 1
  have r2 : (w10.alloc (.cells #[.bool false, .int .u64 0, .int .u64 0] 24)).cell? ⟨w.heap.size, 2, none⟩ = some (.int .u64 (lo : Int)) := Lies.cell (HS.out.at (List.mem_cons_of_mem _ (List.mem_cons_of_mem _ (List.mem_cons_of_mem _ (List.mem_cons_of_mem _ (List.mem_cons_of_mem _ List.mem_cons_self)))))) 2
  have r3 : (w10.alloc (.cells #[.bool false, .int .u64 0, .int .u64 0] 24)).cell? ⟨w.heap.size, 3, none⟩ = some (.int .i64 (b : Int)) := Lies.cell (HS.out.at (List.mem_cons_of_mem _ (List.mem_cons_of_mem _ (List.mem_cons_of_mem _ (List.mem_cons_of_mem _ (List.mem_cons_of_mem _ List.mem_cons_self)))))) 3
  have p0 : (w10.alloc (.cells #[.bool false, .int .u64 0, .int .u64 0] 24)).cell? ⟨w3.heap.size, 0, none⟩ = some (.bool six) := Lies.cell (HS.out.at (List.mem_cons_of_mem _ (List.mem_cons_of_mem _ (List.mem_cons_of_mem _ (List.mem_cons_of_mem _ List.mem_cons_self))))) 0
  have p1 : (w10.alloc (.cells #[.bool false, .int .u64 0, .int .u64 0] 24)).cell? ⟨w3.heap.size, 1, none⟩ = some (.int .u64 (hi : Int)) := Lies.cell (HS.out.at (List.mem_cons_of_mem _ (List.mem_cons_of_mem _ (List.mem_cons_of_mem _ (List.mem_cons_of_mem _ List.mem_cons_self))))) 1
  have p2 : (w10.alloc (.cells #[.bool false, .int .u64 0, .int .u64 0] 24)).cell? ⟨w3.heap.size, 2, none⟩ = some (.int .u64 (lo : Int)) := Lies.cell (HS.out.at (List.mem_cons_of_mem _ (List.mem_cons_of_mem _ (List.mem_cons_of_mem _ (List.mem_cons_of_mem _ List.mem_cons_self))))) 2
  have p3 : (w10.alloc (.cells #[.bool false, .int .u64 0, .int .u64 0] 24)).cell? ⟨w3.heap.size, 3, none⟩ = some (.int .i64 (b : Int)) := Lies.cell (HS.out.at (List.mem_cons_of_mem _ (List.mem_cons_of_mem _ (List.mem_cons_of_mem _ (List.mem_cons_of_mem _ List.mem_cons_self))))) 3
  have a0 : (w10.alloc (.cells #[.bool false, .int .u64 0, .int .u64 0] 24)).cell? ⟨w6.heap.size, 0, none⟩ = some (.bool six) := Lies.cell (HS.out.at (List.mem_cons_of_mem _ (List.mem_cons_of_mem _ (List.mem_cons_of_mem _ List.mem_cons_self)))) 0
  have a1 : (w10.alloc (.cells #[.bool false, .int .u64 0, .int .u64 0] 24)).cell? ⟨w6.heap.size, 1, none⟩ = some (.int .u64 (hi : Int)) := Lies.cell (HS.out.at (List.mem_cons_of_mem _ (List.mem_cons_of_mem _ (List.mem_cons_of_mem _ List.mem_cons_self)))) 1
  have a2 : (w10.alloc (.cells #[.bool false, .int .u64 0, .int .u64 0] 24)).cell? ⟨w6.heap.size, 2, none⟩ = some (.int .u64 (X : Int)) := Lies.cell (HS.out.at (List.mem_cons_of_mem _ (List.mem_cons_of_mem _ (List.mem_cons_of_mem _ List.mem_cons_self)))) 2
  have f0 : (w10.alloc (.cells #[.bool false, .int .u64 0, .int .u64 0] 24)).cell? ⟨w8.heap.size, 0, none⟩ = some (.bool six) := Lies.cell (HS.out.at (List.mem_cons_of_mem _ (List.mem_cons_of_mem _ List.mem_cons_self))) 0
  have f1 : (w10.alloc (.cells #[.bool false, .int .u64 0, .int .u64 0] 24)).cell? ⟨w8.heap.size, 1, none⟩ = some (.int .u64 (hi : Int)) := Lies.cell (HS.out.at (List.mem_cons_of_mem _ (List.mem_cons_of_mem _ List.mem_cons_self))) 1
  have f2 : (w10.alloc (.cells #[.bool false, .int .u64 0, .int .u64 0] 24)).cell? ⟨w8.heap.size, 2, none⟩ = some (.int .u64 (lo : Int)) := Lies.cell (HS.out.at (List.mem_cons_of_mem _ (List.mem_cons_of_mem _ List.mem_cons_self))) 2
  have l0 : (w10.alloc (.cells #[.bool false, .int .u64 0, .int .u64 0] 24)).cell? ⟨w9.heap.size, 0, none⟩ = some (.bool six) := Lies.cell (HS.out.at (List.mem_cons_of_mem _ List.mem_cons_self)) 0
  have l1 : (w10.alloc (.cells #[.bool false, .int .u64 0, .int .u64 0] 24)).cell? ⟨w9.heap.size, 1, none⟩ = some (.int .u64 (hi : Int)) := Lies.cell (HS.out.at (List.mem_cons_of_mem _ List.mem_cons_self)) 1
  have l2 : (w10.alloc (.cells #[.bool false, .int .u64 0, .int .u64 0] 24)).cell? ⟨w9.heap.size, 2, none⟩ = some (.int .u64 (Y : Int)) := Lies.cell (HS.out.at (List.mem_cons_of_mem _ List.mem_cons_self)) 2
  have o0 : (w10.alloc (.cells #[.bool false, .int .u64 0, .int .u64 0] 24)).cell? ⟨w10.heap.size, 0, none⟩ = some (.bool false) := Lies.cell (HS.out.at List.mem_cons_self) 0
  have o1 : (w10.alloc (.cells #[.bool false, .int .u64 0, .int .u64 0] 24)).cell? ⟨w10.heap.size, 1, none⟩ = some (.int .u64 0) := Lies.cell (HS.out.at List.mem_cons_self) 1
  have o2 : (w10.alloc (.cells #[.bool false, .int .u64 0, .int .u64 0] 24)).cell? ⟨w10.heap.size, 2, none⟩ = some (.int .u64 0) := Lies.cell (HS.out.at List.mem_cons_self) 2
  go_wp2_with fail
  (with_reducible refine (GHx.out.go _ (HG.out _ HS.out.bel)).mono ?_)
  rintro e w11 ⟨rfl, hb⟩
  replace HS := Lib.hid (HS.out.next hb)
  clear hb r0 r1 r2 r3 p0 p1 p2 p3 a0 a1 a2 f0 f1 f2 l0 l1 l2 o0 o1 o2
  have r0 : w11.cell? ⟨w.heap.size, 0, none⟩ = some (.bool six) := Lies.cell (HS.out.at (List.mem_cons_of_mem _ (List.mem_cons_of_mem _ (List.mem_cons_of_mem _ (List.mem_cons_of_mem _ (List.mem_cons_of_mem _ List.mem_cons_self)))))) 0
  have r1 : w11.cell? ⟨w.heap.size, 1, none⟩ = some (.int .u64 (hi : Int)) := Lies.cell (HS.out.at (List.mem_cons_of_mem _ (List.mem_cons_of_mem _ (List.mem_cons_of_mem _ (List.mem_cons_of_mem _ (List.mem_cons_of_mem _ List.mem_cons_self)))))) 1
  have r2 : w11.cell? ⟨w.heap.size, 2, none⟩ = some (.int .u64 (lo : Int)) := Lies.cell (HS.out.at (List.mem_cons_of_mem _ (List.mem_cons_of_mem _ (List.mem_cons_of_mem _ (List.mem_cons_of_mem _ (List.mem_cons_of_mem _ List.mem_cons_self)))))) 2
  have r3 : w11.cell? ⟨w.heap.size, 3, none⟩ = some (.int .i64 (b : Int)) := Lies.cell (HS.out.at (List.mem_cons_of_mem _ (List.mem_cons_of_mem _ (List.mem_cons_of_mem _ (List.mem_cons_of_mem _ (List.mem_cons_of_mem _ List.mem_cons_self)))))) 3
  have p0 : w11.cell? ⟨w3.heap.size, 0, none⟩ = some (.bool six) := Lies.cell (HS.out.at (List.mem_cons_of_mem _ (List.mem_cons_of_mem _ (List.mem_cons_of_mem _ (List.mem_cons_of_mem _ List.mem_cons_self))))) 0
  have p1 : w11.cell? ⟨w3.heap.size, 1, none⟩ = some (.int .u64 (hi : Int)) := Lies.cell (HS.out.at (List.mem_cons_of_mem _ (List.mem_cons_of_mem _ (List.mem_cons_of_mem _ (List.mem_cons_of_mem _ List.mem_cons_self))))) 1
  have p2 : w11.cell? ⟨w3.heap.size, 2, none⟩ = some (.int .u64 (lo : Int)) := Lies.cell (HS.out.at (List.mem_cons_of_mem _ (List.mem_cons_of_mem _ (List.mem_cons_of_mem _ (List.mem_cons_of_mem _ List.mem_cons_self))))) 2
  have p3 : w11.cell? ⟨w3.heap.size, 3, none⟩ = some (.int .i64 (b : Int)) := Lies.cell (HS.out.at (List.mem_cons_of_mem _ (List.mem_cons_of_mem _ (List.mem_cons_of_mem _ (List.mem_cons_of_mem _ List.mem_cons_self))))) 3
  have a0 : w11.cell? ⟨w6.heap.size, 0, none⟩ = some (.bool six) := Lies.cell (HS.out.at (List.mem_cons_of_mem _ (List.mem_cons_of_mem _ (List.mem_cons_of_mem _ List.mem_cons_self)))) 0
  have a1 : w11.cell? ⟨w6.heap.size, 1, none⟩ = some (.int .u64 (hi : Int)) := Lies.cell (HS.out.at (List.mem_cons_of_mem _ (List.mem_cons_of_mem _ (List.mem_cons_of_mem _ List.mem_cons_self)))) 1
  have a2 : w11.cell? ⟨w6.heap.size, 2, none⟩ = some (.int .u64 (X : Int)) := Lies.cell (HS.out.at (List.mem_cons_of_mem _ (List.mem_cons_of_mem _ (List.mem_cons_of_mem _ List.mem_cons_self)))) 2
  have f0 : w11.cell? ⟨w8.heap.size, 0, none⟩ = some (.bool six) := Lies.cell (HS.out.at (List.mem_cons_of_mem _ (List.mem_cons_of_mem _ List.mem_cons_self))) 0
  have f1 : w11.cell? ⟨w8.heap.size, 1, none⟩ = some (.int .u64 (hi : Int)) := Lies.cell (HS.out.at (List.mem_cons_of_mem _ (List.mem_cons_of_mem _ List.mem_cons_self))) 1
  have f2 : w11.cell? ⟨w8.heap.size, 2, none⟩ = some (.int .u64 (lo : Int)) := Lies.cell (HS.out.at (List.mem_cons_of_mem _ (List.mem_cons_of_mem _ List.mem_cons_self))) 2
  have l0 : w11.cell? ⟨w9.heap.size, 0, none⟩ = some (.bool six) := Lies.cell (HS.out.at (List.mem_cons_of_mem _ List.mem_cons_self)) 0
  have l1 : w11.cell? ⟨w9.heap.size, 1, none⟩ = some (.int .u64 (hi : Int)) := Lies.cell (HS.out.at (List.mem_cons_of_mem _ List.mem_cons_self)) 1
  have l2 : w11.cell? ⟨w9.heap.size, 2, none⟩ = some (.int .u64 (Y : Int)) := Lies.cell (HS.out.at (List.mem_cons_of_mem _ List.mem_cons_self)) 2
  have o0 : w11.cell? ⟨w10.heap.size, 0, none⟩ = some (.bool false) := Lies.cell (HS.out.at List.mem_cons_self) 0
  have o1 : w11.cell? ⟨w10.heap.size, 1, none⟩ = some (.int .u64 0) := Lies.cell (HS.out.at List.mem_cons_self) 1
  have o2 : w11.cell? ⟨w10.heap.size, 2, none⟩ = some (.int .u64 0) := Lies.cell (HS.out.at List.mem_cons_self) 2
  go_wp2_with fail
  (with_reducible refine (GHy.out.go _ (HG.out _ HS.out.bel)).mono ?_)
  rintro e w12 ⟨rfl, hb⟩
  replace HS := Lib.hid (HS.out.next hb)
  clear hb r0 r1 r2 r3 p0 p1 p2 p3 a0 a1 a2 f0 f1 f2 l0 l1 l2 o0 o1 o2
  have r0 : w12.cell? ⟨w.heap.size, 0, none⟩ = some (.bool six) := Lies.cell (HS.out.at (List.mem_cons_of_mem _ (List.mem_cons_of_mem _ (List.mem_cons_of_mem _ (List.mem_cons_of_mem _ (List.mem_cons_of_mem _ List.mem_cons_self)))))) 0
  have r1 : w12.cell? ⟨w.heap.size, 1, none⟩ = some (.int .u64 (hi : Int)) := Lies.cell (HS.out.at (List.mem_cons_of_mem _ (List.mem_cons_of_mem _ (List.mem_cons_of_mem _ (List.mem_cons_of_mem _ (List.mem_cons_of_mem _ List.mem_cons_self)))))) 1
  have r2 : w12.cell? ⟨w.heap.size, 2, none⟩ = some (.int .u64 (lo : Int)) := Lies.cell (HS.out.at (List.mem_cons_of_mem _ (List.mem_cons_of_mem _ (List.mem_cons_of_mem _ (List.mem_cons_of_mem _ (List.mem_cons_of_mem _ List.mem_cons_self)))))) 2
  have r3 : w12.cell? ⟨w.heap.size, 3, none⟩ = some (.int .i64 (b : Int)) := Lies.cell (HS.out.at (List.mem_cons_of_mem _ (List.mem_cons_of_mem _ (List.mem_cons_of_mem _ (List.mem_cons_of_mem _ (List.mem_cons_of_mem _ List.mem_cons_self)))))) 3
  have p0 : w12.cell? ⟨w3.heap.size, 0, none⟩ = some (.bool six) := Lies.cell (HS.out.at (List.mem_cons_of_mem _ (List.mem_cons_of_mem _ (List.mem_cons_of_mem _ (List.mem_cons_of_mem _ List.mem_cons_self))))) 0
  have p1 : w12.cell? ⟨w3.heap.size, 1, none⟩ = some (.int .u64 (hi : Int)) := Lies.cell (HS.out.at (List.mem_cons_of_mem _ (List.mem_cons_of_mem _ (List.mem_cons_of_mem _ (List.mem_cons_of_mem _ List.mem_cons_self))))) 1
  have p2 : w12.cell? ⟨w3.heap.size, 2, none⟩ = some (.int .u64 (lo : Int)) := Lies.cell (HS.out.at (List.mem_cons_of_mem _ (List.mem_cons_of_mem _ (List.mem_cons_of_mem _ (List.mem_cons_of_mem _ List.mem_cons_self))))) 2
  have p3 : w12.cell? ⟨w3.heap.size, 3, none⟩ = some (.int .i64 (b : Int)) := Lies.cell (HS.out.at (List.mem_cons_of_mem _ (List.mem_cons_of_mem _ (List.mem_cons_of_mem _ (List.mem_cons_of_mem _ List.mem_cons_self))))) 3
  have a0 : w12.cell? ⟨w6.heap.size, 0, none⟩ = some (.bool six) := Lies.cell (HS.out.at (List.mem_cons_of_mem _ (List.mem_cons_of_mem _ (List.mem_cons_of_mem _ List.mem_cons_self)))) 0
  have a1 : w12.cell? ⟨w6.heap.size, 1, none⟩ = some (.int .u64 (hi : Int)) := Lies.cell (HS.out.at (List.mem_cons_of_mem _ (List.mem_cons_of_mem _ (List.mem_cons_of_mem _ List.mem_cons_self)))) 1
  have a2 : w12.cell? ⟨w6.heap.size, 2, none⟩ = some (.int .u64 (X : Int)) := Lies.cell (HS.out.at (List.mem_cons_of_mem _ (List.mem_cons_of_mem _ (List.mem_cons_of_mem _ List.mem_cons_self)))) 2
  have f0 : w12.cell? ⟨w8.heap.size, 0, none⟩ = some (.bool six) := Lies.cell (HS.out.at (List.mem_cons_of_mem _ (List.mem_cons_of_mem _ List.mem_cons_self))) 0
  have f1 : w12.cell? ⟨w8.heap.size, 1, none⟩ = some (.int .u64 (hi : Int)) := Lies.cell (HS.out.at (List.mem_cons_of_mem _ (List.mem_cons_of_mem _ List.mem_cons_self))) 1
  have f2 : w12.cell? ⟨w8.heap.size, 2, none⟩ = some (.int .u64 (lo : Int)) := Lies.cell (HS.out.at (List.mem_cons_of_mem _ (List.mem_cons_of_mem _ List.mem_cons_self))) 2
  have l0 : w12.cell? ⟨w9.heap.size, 0, none⟩ = some (.bool six) := Lies.cell (HS.out.at (List.mem_cons_of_mem _ List.mem_cons_self)) 0
  have l1 : w12.cell? ⟨w9.heap.size, 1, none⟩ = some (.int .u64 (hi : Int)) := Lies.cell (HS.out.at (List.mem_cons_of_mem _ List.mem_cons_self)) 1
  have l2 : w12.cell? ⟨w9.heap.size, 2, none⟩ = some (.int .u64 (Y : Int)) := Lies.cell (HS.out.at (List.mem_cons_of_mem _ List.mem_cons_self)) 2
  have o0 : w12.cell? ⟨w10.heap.size, 0, none⟩ = some (.bool false) := Lies.cell (HS.out.at List.mem_cons_self) 0
  have o1 : w12.cell? ⟨w10.heap.size, 1, none⟩ = some (.int .u64 0) := Lies.cell (HS.out.at List.mem_cons_self) 1
  have o2 : w12.cell? ⟨w10.heap.size, 2, none⟩ = some (.int .u64 0) := Lies.cell (HS.out.at List.mem_cons_self) 2
  go_wp2_with fail
  (with_reducible refine (GN.out.go _ (HG.out _ HS.out.bel)).mono ?_)
  rintro e w13 ⟨rfl, hb⟩
  replace HS := Lib.hid (HS.out.next hb)
  clear hb r0 r1 r2 r3 p0 p1 p2 p3 a0 a1 a2 f0 f1 f2 l0 l1 l2 o0 o1 o2
  replace HS := Lib.hid (HS.out.more 24 #[.bool ns, .int .u64 (nh : Int), .int .u64 (nl : Int)])
  have r0 : (w13.alloc (.cells #[.bool ns, .int .u64 (nh : Int), .int .u64 (nl : Int)] 24)).cell? ⟨w.heap.size, 0, none⟩ = some (.bool six) := Lies.cell (HS.out.at (List.mem_cons_of_mem _ (List.mem_cons_of_mem _ (List.mem_cons_of_mem _ (List.mem_cons_of_mem _ (List.mem_cons_of_mem _ (List.mem_cons_of_mem _ List.mem_cons_self))))))) 0
  have r1 : (w13.alloc (.cells #[.bool ns, .int .u64 (nh : Int), .int .u64 (nl : Int)] 24)).cell? ⟨w.heap.size, 1, none⟩ = some (.int .u64 (hi : Int)) := Lies.cell (HS.out.at (List.mem_cons_of_mem _ (List.mem_cons_of_mem _ (List.mem_cons_of_mem _ (List.mem_cons_of_mem _ (List.mem_cons_of_mem _ (List.mem_cons_of_mem _ List.mem_cons_self))))))) 1
  have r2 : (w13.alloc (.cells #[.bool ns, .int .u64 (nh : Int), .int .u64 (nl : Int)] 24)).cell? ⟨w.heap.size, 2, none⟩ = some (.int .u64 (lo : Int)) := Lies.cell (HS.out.at (List.mem_cons_of_mem _ (List.mem_cons_of_mem _ (List.mem_cons_of_mem _ (List.mem_cons_of_mem _ (List.mem_cons_of_mem _ (List.mem_cons_of_mem _ List.mem_cons_self))))))) 2
  have r3 : (w13.alloc (.cells #[.bool ns, .int .u64 (nh : Int), .int .u64 (nl : Int)] 24)).cell? ⟨w.heap.size, 3, none⟩ = some (.int .i64 (b : Int)) := Lies.cell (HS.out.at (List.mem_cons_of_mem _ (List.mem_cons_of_mem _ (List.mem_cons_of_mem _ (List.mem_cons_of_mem _ (List.mem_cons_of_mem _ (List.mem_cons_of_mem _ List.mem_cons_self))))))) 3
  have p0 : (w13.alloc (.cells #[.bool ns, .int .u64 (nh : Int), .int .u64 (nl : Int)] 24)).cell? ⟨w3.heap.size, 0, none⟩ = some (.bool six) := Lies.cell (HS.out.at (List.mem_cons_of_mem _ (List.mem_cons_of_mem _ (List.mem_cons_of_mem _ (List.mem_cons_of_mem _ (List.mem_cons_of_mem _ List.mem_cons_self)))))) 0
  have p1 : (w13.alloc (.cells #[.bool ns, .int .u64 (nh : Int), .int .u64 (nl : Int)] 24)).cell? ⟨w3.heap.size, 1, none⟩ = some (.int .u64 (hi : Int)) := Lies.cell (HS.out.at (List.mem_cons_of_mem _ (List.mem_cons_of_mem _ (List.mem_cons_of_mem _ (List.mem_cons_of_mem _ (List.mem_cons_of_mem _ List.mem_cons_self)))))) 1
  have p2 : (w13.alloc (.cells #[.bool ns, .int .u64 (nh : Int), .int .u64 (nl : Int)] 24)).cell? ⟨w3.heap.size, 2, none⟩ = some (.int .u64 (lo : Int)) := Lies.cell (HS.out.at (List.mem_cons_of_mem _ (List.mem_cons_of_mem _ (List.mem_cons_of_mem _ (List.mem_cons_of_mem _ (List.mem_cons_of_mem _ List.mem_cons_self)))))) 2
  have p3 : (w13.alloc (.cells #[.bool ns, .int .u64 (nh : Int), .int .u64 (nl : Int)] 24)).cell? ⟨w3.heap.size, 3, none⟩ = some (.int .i64 (b : Int)) := Lies.cell (HS.out.at (List.mem_cons_of_mem _ (List.mem_cons_of_mem _ (List.mem_cons_of_mem _ (List.mem_cons_of_mem _ (List.mem_cons_of_mem _ List.mem_cons_self)))))) 3
  have a0 : (w13.alloc (.cells #[.bool ns, .int .u64 (nh : Int), .int .u64 (nl : Int)] 24)).cell? ⟨w6.heap.size, 0, none⟩ = some (.bool six) := Lies.cell (HS.out.at (List.mem_cons_of_mem _ (List.mem_cons_of_mem _ (List.mem_cons_of_mem _ (List.mem_cons_of_mem _ List.mem_cons_self))))) 0
  have a1 : (w13.alloc (.cells #[.bool ns, .int .u64 (nh : Int), .int .u64 (nl : Int)] 24)).cell? ⟨w6.heap.size, 1, none⟩ = some (.int .u64 (hi : Int)) := Lies.cell (HS.out.at (List.mem_cons_of_mem _ (List.mem_cons_of_mem _ (List.mem_cons_of_mem _ (List.mem_cons_of_mem _ List.mem_cons_self))))) 1
  have a2 : (w13.alloc (.cells #[.bool ns, .int .u64 (nh : Int), .int .u64 (nl : Int)] 24)).cell? ⟨w6.heap.size, 2, none⟩ = some (.int .u64 (X : Int)) := Lies.cell (HS.out.at (List.mem_cons_of_mem _ (List.mem_cons_of_mem _ (List.mem_cons_of_mem _ (List.mem_cons_of_mem _ List.mem_cons_self))))) 2
  have f0 : (w13.alloc (.cells #[.bool ns, .int .u64 (nh : Int), .int .u64 (nl : Int)] 24)).cell? ⟨w8.heap.size, 0, none⟩ = some (.bool six) := Lies.cell (HS.out.at (List.mem_cons_of_mem _ (List.mem_cons_of_mem _ (List.mem_cons_of_mem _ List.mem_cons_self)))) 0
  have f1 : (w13.alloc (.cells #[.bool ns, .int .u64 (nh : Int), .int .u64 (nl : Int)] 24)).cell? ⟨w8.heap.size, 1, none⟩ = some (.int .u64 (hi : Int)) := Lies.cell (HS.out.at (List.mem_cons_of_mem _ (List.mem_cons_of_mem _ (List.mem_cons_of_mem _ List.mem_cons_self)))) 1
  have f2 : (w13.alloc (.cells #[.bool ns, .int .u64 (nh : Int), .int .u64 (nl : Int)] 24)).cell? ⟨w8.heap.size, 2, none⟩ = some (.int .u64 (lo : Int)) := Lies.cell (HS.out.at (List.mem_cons_of_mem _ (List.mem_cons_of_mem _ (List.mem_cons_of_mem _ List.mem_cons_self)))) 2
  have l0 : (w13.alloc (.cells #[.bool ns, .int .u64 (nh : Int), .int .u64 (nl : Int)] 24)).cell? ⟨w9.heap.size, 0, none⟩ = some (.bool six) := Lies.cell (HS.out.at (List.mem_cons_of_mem _ (List.mem_cons_of_mem _ List.mem_cons_self))) 0
  have l1 : (w13.alloc (.cells #[.bool ns, .int .u64 (nh : Int), .int .u64 (nl : Int)] 24)).cell? ⟨w9.heap.size, 1, none⟩ = some (.int .u64 (hi : Int)) := Lies.cell (HS.out.at (List.mem_cons_of_mem _ (List.mem_cons_of_mem _ List.mem_cons_self))) 1
  have l2 : (w13.alloc (.cells #[.bool ns, .int .u64 (nh : Int), .int .u64 (nl : Int)] 24)).cell? ⟨w9.heap.size, 2, none⟩ = some (.int .u64 (Y : Int)) := Lies.cell (HS.out.at (List.mem_cons_of_mem _ (List.mem_cons_of_mem _ List.mem_cons_self))) 2
  have o0 : (w13.alloc (.cells #[.bool ns, .int .u64 (nh : Int), .int .u64 (nl : Int)] 24)).cell? ⟨w10.heap.size, 0, none⟩ = some (.bool false) := Lies.cell (HS.out.at (List.mem_cons_of_mem _ List.mem_cons_self)) 0
  have o1 : (w13.alloc (.cells #[.bool ns, .int .u64 (nh : Int), .int .u64 (nl : Int)] 24)).cell? ⟨w10.heap.size, 1, none⟩ = some (.int .u64 0) := Lies.cell (HS.out.at (List.mem_cons_of_mem _ List.mem_cons_self)) 1
  have o2 : (w13.alloc (.cells #[.bool ns, .int .u64 (nh : Int), .int .u64 (nl : Int)] 24)).cell? ⟨w10.heap.size, 2, none⟩ = some (.int .u64 0) := Lies.cell (HS.out.at (List.mem_cons_of_mem _ List.mem_cons_self)) 2
  have n0 : (w13.alloc (.cells #[.bool ns, .int .u64 (nh : Int), .int .u64 (nl : Int)] 24)).cell? ⟨w13.heap.size, 0, none⟩ = some (.bool ns) := Lies.cell (HS.out.at List.mem_cons_self) 0
  have n1 : (w13.alloc (.cells #[.bool ns, .int .u64 (nh : Int), .int .u64 (nl : Int)] 24)).cell? ⟨w13.heap.size, 1, none⟩ = some (.int .u64 (nh : Int)) := Lies.cell (HS.out.at List.mem_cons_self) 1
  have n2 : (w13.alloc (.cells #[.bool ns, .int .u64 (nh : Int), .int .u64 (nl : Int)] 24)).cell? ⟨w13.heap.size, 2, none⟩ = some (.int .u64 (nl : Int)) := Lies.cell (HS.out.at List.mem_cons_self) 2
  rcases th with _ | _
  · go_wp2
    go_ret
    exact ⟨rfl, HS.out.bel⟩
  · by_cases h65 : z = 65536
    · have h65b : ((z : Int) == 65536) = true := by rw [beq_iff_eq]; omega
      clear h65
      go_wp2
      go_ret
      exact ⟨rfl, HS.out.bel⟩
    · have h65b : ((z : Int) == 65536) = false := by rw [beq_eq_false_iff_ne]; omega
      obtain rfl := HNO.out rfl h65
      clear h65
      go_wp2_with fail
      (with_reducible refine (GHn.out.go _ (HG.out _ HS.out.bel)).mono ?_)
      rintro e w14 ⟨rfl, hb⟩
      replace HS := Lib.hid (HS.out.next hb)
      clear hb r0 r1 r2 r3 p0 p1 p2 p3 a0 a1 a2 f0 f1 f2 l0 l1 l2 o0 o1 o2 n0 n1 n2
      have r0 : w14.cell? ⟨w.heap.size, 0, none⟩ = some (.bool six) := Lies.cell (HS.out.at (List.mem_cons_of_mem _ (List.mem_cons_of_mem _ (List.mem_cons_of_mem _ (List.mem_cons_of_mem _ (List.mem_cons_of_mem _ (List.mem_cons_of_mem _ List.mem_cons_self))))))) 0
      have r1 : w14.cell? ⟨w.heap.size, 1, none⟩ = some (.int .u64 (hi : Int)) := Lies.cell (HS.out.at (List.mem_cons_of_mem _ (List.mem_cons_of_mem _ (List.mem_cons_of_mem _ (List.mem_cons_of_mem _ (List.mem_cons_of_mem _ (List.mem_cons_of_mem _ List.mem_cons_self))))))) 1
      have r2 : w14.cell? ⟨w.heap.size, 2, none⟩ = some (.int .u64 (lo : Int)) := Lies.cell (HS.out.at (List.mem_cons_of_mem _ (List.mem_cons_of_mem _ (List.mem_cons_of_mem _ (List.mem_cons_of_mem _ (List.mem_cons_of_mem _ (List.mem_cons_of_mem _ List.mem_cons_self))))))) 2
      have r3 : w14.cell? ⟨w.heap.size, 3, none⟩ = some (.int .i64 (b : Int)) := Lies.cell (HS.out.at (List.mem_cons_of_mem _ (List.mem_cons_of_mem _ (List.mem_cons_of_mem _ (List.mem_cons_of_mem _ (List.mem_cons_of_mem _ (List.mem_cons_of_mem _ List.mem_cons_self))))))) 3
      have p0 : w14.cell? ⟨w3.heap.size, 0, none⟩ = some (.bool six) := Lies.cell (HS.out.at (List.mem_cons_of_mem _ (List.mem_cons_of_mem _ (List.mem_cons_of_mem _ (List.mem_cons_of_mem _ (List.mem_cons_of_mem _ List.mem_cons_self)))))) 0
      have p1 : w14.cell? ⟨w3.heap.size, 1, none⟩ = some (.int .u64 (hi : Int)) := Lies.cell (HS.out.at (List.mem_cons_of_mem _ (List.mem_cons_of_mem _ (List.mem_cons_of_mem _ (List.mem_cons_of_mem _ (List.mem_cons_of_mem _ List.mem_cons_self)))))) 1
      have p2 : w14.cell? ⟨w3.heap.size, 2, none⟩ = some (.int .u64 (lo : Int)) := Lies.cell (HS.out.at (List.mem_cons_of_mem _ (List.mem_cons_of_mem _ (List.mem_cons_of_mem _ (List.mem_cons_of_mem _ (List.mem_cons_of_mem _ List.mem_cons_self)))))) 2
      have p3 : w14.cell? ⟨w3.heap.size, 3, none⟩ = some (.int .i64 (b : Int)) := Lies.cell (HS.out.at (List.mem_cons_of_mem _ (List.mem_cons_of_mem _ (List.mem_cons_of_mem _ (List.mem_cons_of_mem _ (List.mem_cons_of_mem _ List.mem_cons_self)))))) 3
      have a0 : w14.cell? ⟨w6.heap.size, 0, none⟩ = some (.bool six) := Lies.cell (HS.out.at (List.mem_cons_of_mem _ (List.mem_cons_of_mem _ (List.mem_cons_of_mem _ (List.mem_cons_of_mem _ List.mem_cons_self))))) 0
      have a1 : w14.cell? ⟨w6.heap.size, 1, none⟩ = some (.int .u64 (hi : Int)) := Lies.cell (HS.out.at (List.mem_cons_of_mem _ (List.mem_cons_of_mem _ (List.mem_cons_of_mem _ (List.mem_cons_of_mem _ List.mem_cons_self))))) 1
      have a2 : w14.cell? ⟨w6.heap.size, 2, none⟩ = some (.int .u64 (X : Int)) := Lies.cell (HS.out.at (List.mem_cons_of_mem _ (List.mem_cons_of_mem _ (List.mem_cons_of_mem _ (List.mem_cons_of_mem _ List.mem_cons_self))))) 2
      have f0 : w14.cell? ⟨w8.heap.size, 0, none⟩ = some (.bool six) := Lies.cell (HS.out.at (List.mem_cons_of_mem _ (List.mem_cons_of_mem _ (List.mem_cons_of_mem _ List.mem_cons_self)))) 0
      have f1 : w14.cell? ⟨w8.heap.size, 1, none⟩ = some (.int .u64 (hi : Int)) := Lies.cell (HS.out.at (List.mem_cons_of_mem _ (List.mem_cons_of_mem _ (List.mem_cons_of_mem _ List.mem_cons_self)))) 1
      have f2 : w14.cell? ⟨w8.heap.size, 2, none⟩ = some (.int .u64 (lo : Int)) := Lies.cell (HS.out.at (List.mem_cons_of_mem _ (List.mem_cons_of_mem _ (List.mem_cons_of_mem _ List.mem_cons_self)))) 2
      have l0 : w14.cell? ⟨w9.heap.size, 0, none⟩ = some (.bool six) := Lies.cell (HS.out.at (List.mem_cons_of_mem _ (List.mem_cons_of_mem _ List.mem_cons_self))) 0
      have l1 : w14.cell? ⟨w9.heap.size, 1, none⟩ = some (.int .u64 (hi : Int)) := Lies.cell (HS.out.at (List.mem_cons_of_mem _ (List.mem_cons_of_mem _ List.mem_cons_self))) 1
      have l2 : w14.cell? ⟨w9.heap.size, 2, none⟩ = some (.int .u64 (Y : Int)) := Lies.cell (HS.out.at (List.mem_cons_of_mem _ (List.mem_cons_of_mem _ List.mem_cons_self))) 2
      have o0 : w14.cell? ⟨w10.heap.size, 0, none⟩ = some (.bool false) := Lies.cell (HS.out.at (List.mem_cons_of_mem _ List.mem_cons_self)) 0
      have o1 : w14.cell? ⟨w10.heap.size, 1, none⟩ = some (.int .u64 0) := Lies.cell (HS.out.at (List.mem_cons_of_mem _ List.mem_cons_self)) 1
      have o2 : w14.cell? ⟨w10.heap.size, 2, none⟩ = some (.int .u64 0) := Lies.cell (HS.out.at (List.mem_cons_of_mem _ List.mem_cons_self)) 2
      have n0 : w14.cell? ⟨w13.heap.size, 0, none⟩ = some (.bool ns) := Lies.cell (HS.out.at List.mem_cons_self) 0
      have n1 : w14.cell? ⟨w13.heap.size, 1, none⟩ = some (.int .u64 (nh : Int)) := Lies.cell (HS.out.at List.mem_cons_self) 1
      have n2 : w14.cell? ⟨w13.heap.size, 2, none⟩ = some (.int .u64 (nl : Int)) := Lies.cell (HS.out.at List.mem_cons_self) 2
      go_wp2
      go_ret
      exact ⟨rfl, HS.out.bel⟩
theorem RangesBack_walk (s0 : Bool) (h0 l0 : Nat) (n0 : Int) (i : Int) (f0 : h0 < 18446744073709551616) (g0 : l0 < 18446744073709551616) (k0 : (Lit.int IntKind.i64 n0).wf = true) (w2 : (Lit.int IntKind.i64 i).wf = true) (w : World) (hG : Ground w) :
    Calls Tryz.prog 8 #[.agg #[.bool s0, .int .u64 (h0 : Int), .int .u64 (l0 : Int), .int .i64 n0], .int .i64 i] w fun e w' => e = .returned (.bool true) ∧ Below w.heap.size w w' := by
  by_cases hc : chkR (s0, h0, l0) n0 = 0
  · obtain ⟨b, rfl⟩ : ∃ m : Nat, n0 = m := (chkR_yes hc).2.imp fun _ x => x.1
    exact RangesBack_good s0 h0 l0 b i ⟨f0, g0⟩ hc w hG
  · exact RangesBack_bad s0 h0 l0 n0 i ⟨f0, g0⟩ hc w hG
end Go.Proofs.YtjadghmanpkgoaaGreatDoor
