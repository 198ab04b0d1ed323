/-
  header.wordsOf, of a header that may be: the walk. No condition beyond that.
-/
import Derived.Test.YtjedfgflkhchiaaHdCk
namespace Go.Proofs.Ytjedfgflkhchiaa
open Go.RowKit
set_option linter.unusedVariables false

/-- The header's cells. -/
def hcs (h : Hd) : Array Value := #[.int .u16 h.id, .bool h.re, .int .i64 h.op, .bool h.aa, .bool h.tc, .bool h.rd, .bool h.ra, .bool h.ad, .bool h.cd, .int .i64 h.rc, .int .i64 h.n0, .int .i64 h.n1, .int .i64 h.n2, .int .i64 h.n3]
theorem hv_cs (h : Hd) : hv h = .agg (hcs h) := rfl
/-- A row of six words. -/
def wcs (a b c d e f : Nat) : Array Value := #[.int .u32 a, .int .u32 b, .int .u32 c, .int .u32 d, .int .u32 e, .int .u32 f]
/-- The relation of the first loop. -/
structure WdRel (h : Hd) (w wr : World) (k : Nat) : Prop where
  hd : Lies wr w.heap.size 26 (hcs h)
  res : Lies wr (w.heap.size + 1) 45 (wcs 0 0 0 0 0 0)
  row : Lies wr (w.heap.size + 1 + 1) 45 (wcs h.id (fW h k) 0 0 0 0)
  tab : Lies wr (w.heap.size + 1 + 1 + 1) 72 (flT w.heap.size)
  below : Below w.heap.size w wr
theorem Lies.setOther {w : World} {g g' j : Nat} {t : TypeId} {cs : Array Value} (h : Lies w g t cs) (hne : g ≠ g') (u : Value) : Lies (w.setCell ⟨g', j, none⟩ u) g t cs := (heap_setCell_other w ⟨g', j, none⟩ g u hne).trans h
theorem wd_start {h : Hd} {w w1 : World} {x : Int} {W : World} (hW : W = ((w.alloc (.cells (hcs h) 26)).alloc (.cells (wcs 0 0 0 0 0 0) 45)).alloc (.cells #[.int .u32 h.id, .int .u32 x, .int .u32 0, .int .u32 0, .int .u32 0, .int .u32 0] 45)) (hx : x = ((fW h 0 : Nat) : Int))
    (ht : w1.heap[W.heap.size]? = some (.cells (flT w.heap.size) 72 (0, 0))) (hb : Below W.heap.size W w1) : WdRel h w w1 0 := by
  subst hW hx
  have hs : (((w.alloc (.cells (hcs h) 26)).alloc (.cells (wcs 0 0 0 0 0 0) 45)).alloc (.cells #[.int .u32 h.id, .int .u32 (fW h 0 : Nat), .int .u32 0, .int .u32 0, .int .u32 0, .int .u32 0] 45)).heap.size = w.heap.size + 1 + 1 + 1 := by simp
  rw [hs] at ht
  have z1 : (w.alloc (.cells (hcs h) 26)).heap.size = w.heap.size + 1 := by simp
  have z2 : ((w.alloc (.cells (hcs h) 26)).alloc (.cells (wcs 0 0 0 0 0 0) 45)).heap.size = w.heap.size + 1 + 1 := by simp
  have l1 := (((Lies.new w 26 (hcs h)).alloc (.cells (wcs 0 0 0 0 0 0) 45)).alloc (.cells #[.int .u32 h.id, .int .u32 (fW h 0 : Nat), .int .u32 0, .int .u32 0, .int .u32 0, .int .u32 0] 45)).next hb
  have l2 := ((Lies.new (w.alloc (.cells (hcs h) 26)) 45 (wcs 0 0 0 0 0 0)).alloc (.cells #[.int .u32 h.id, .int .u32 (fW h 0 : Nat), .int .u32 0, .int .u32 0, .int .u32 0, .int .u32 0] 45)).next hb
  have l3 := (Lies.new ((w.alloc (.cells (hcs h) 26)).alloc (.cells (wcs 0 0 0 0 0 0) 45)) 45 (wcs h.id (fW h 0) 0 0 0 0)).next hb
  rw [z1] at l2
  rw [z2] at l3
  exact ⟨l1, l2, l3, ht, ((((Below.refl _ _).alloc (Nat.le_refl _) _).alloc (by simp) _).alloc (by simp; omega) _).trans (hb.mono (by rw [hs]; omega))⟩
theorem WdRel.step {h : Hd} {w wr : World} {k : Nat} (r : WdRel h w wr k) {x : Int} (hx : x = ((fW h (k + 1) : Nat) : Int)) (o : Obj) : WdRel h w ((wr.setCell ⟨w.heap.size + 1 + 1, 1, none⟩ (.int .u32 x)).alloc o) (k + 1) := by
  subst hx
  have hb : Below w.heap.size w (wr.setCell ⟨w.heap.size + 1 + 1, 1, none⟩ (.int .u32 (fW h (k + 1) : Nat))) := r.below.setCell (by simp; omega) _
  exact ⟨(r.hd.setOther (by omega) _).alloc o, (r.res.setOther (by omega) _).alloc o, (r.row.set 1 _).alloc o, (r.tab.setOther (by omega) _).alloc o, hb.alloc hb.size o⟩
theorem WdRel.skip {h : Hd} {w wr : World} {k : Nat} (r : WdRel h w wr k) (hx : fW h k = fW h (k + 1)) (o : Obj) : WdRel h w (wr.alloc o) (k + 1) :=
  ⟨r.hd.alloc o, r.res.alloc o, by rw [← hx]; exact r.row.alloc o, r.tab.alloc o, r.below.alloc r.below.size o⟩
/-- The row's cells behind k counts. -/
def ctc (h : Hd) (k : Nat) : Array Value := #[.int .u32 h.id, .int .u32 (fwd h : Nat), .int .u32 (if 0 < k then h.n0 else 0), .int .u32 (if 1 < k then h.n1 else 0), .int .u32 (if 2 < k then h.n2 else 0), .int .u32 (if 3 < k then h.n3 else 0)]
/-- The relation of the second loop. -/
structure CtRel (h : Hd) (w wr : World) (k : Nat) : Prop where
  res : Lies wr (w.heap.size + 1) 45 (wcs 0 0 0 0 0 0)
  row : Lies wr (w.heap.size + 1 + 1) 45 (ctc h k)
  below : Below w.heap.size w wr
theorem CtRel.step0 {h : Hd} {w wr : World} (r : CtRel h w wr 0) : CtRel h w (wr.setCell ⟨w.heap.size + 1 + 1, 2, none⟩ (.int .u32 h.n0)) (0 + 1) :=
  ⟨r.res.setOther (by omega) _, r.row.set 2 _, r.below.setCell (by simp; omega) _⟩
theorem CtRel.step1 {h : Hd} {w wr : World} (r : CtRel h w wr 1) : CtRel h w (wr.setCell ⟨w.heap.size + 1 + 1, 3, none⟩ (.int .u32 h.n1)) (1 + 1) :=
  ⟨r.res.setOther (by omega) _, r.row.set 3 _, r.below.setCell (by simp; omega) _⟩
theorem CtRel.step2 {h : Hd} {w wr : World} (r : CtRel h w wr 2) : CtRel h w (wr.setCell ⟨w.heap.size + 1 + 1, 4, none⟩ (.int .u32 h.n2)) (2 + 1) :=
  ⟨r.res.setOther (by omega) _, r.row.set 4 _, r.below.setCell (by simp; omega) _⟩
theorem CtRel.step3 {h : Hd} {w wr : World} (r : CtRel h w wr 3) : CtRel h w (wr.setCell ⟨w.heap.size + 1 + 1, 5, none⟩ (.int .u32 h.n3)) (3 + 1) :=
  ⟨r.res.setOther (by omega) _, r.row.set 5 _, r.below.setCell (by simp; omega) _⟩
set_option maxHeartbeats 2000000 in
theorem wordsOf_any (h : Hd) (m : h.may) (hid : h.id < 65536) (w : World) :
    Calls Try.prog 22 #[hv h] w fun e w' => e = .returned (.agg (wcs h.id (fwd h) h.n0.toNat h.n1.toNat h.n2.toNat h.n3.toNat)) ∧ Below w.heap.size w w' := by
  have HM := Lib.hid m
  obtain ⟨⟨o1, o2⟩, ⟨r1, r2⟩, ⟨a1, a2⟩, ⟨b1, b2⟩, ⟨c1, c2⟩, ⟨d1, d2⟩⟩ := m
  have H0 : Hid (bits BinOp.or IntKind.u32 (h.op * 2048) h.rc = ((fW h 0 : Nat) : Int)) := Lib.hid (by
    obtain ⟨o, ho⟩ := Int.eq_ofNat_of_zero_le o1
    obtain ⟨r, hr⟩ := Int.eq_ofNat_of_zero_le r1
    rw [ho, hr, show (o : Int) * 2048 = ((o * 2048 : Nat) : Int) by omega, u32_or_nat _ _ (by omega) (by omega)]
    simp only [fW, ho, hr, Int.toNat_natCast]
    have := Nat.shiftLeft_add_eq_or_of_lt (show r < 2 ^ 11 by omega) o
    rw [Nat.shiftLeft_eq] at this
    rw [← this]
    congr 1
    omega)
  unfold hv
  go_enter Try.func22, Try.ntmps22
  go_wp2_with (go_at_call 32; refine (flagsOf_any _ _).mono ?_; rintro e w1 ⟨rfl, ht, hb⟩; have HT := Lib.hid ht; have HB := Lib.hid hb; clear ht hb)
  have HR0 := Lib.hid (wd_start rfl H0.out HT.out HB.out)
  clear HT HB H0
  go_loopw [23] (fun i wr => ∃ k : Nat, i = .int .i64 k ∧ k ≤ 7 ∧ WdRel h w wr k) (fun i _ => 7 - (intOf i).toNat)
  case atStart => exact ⟨0, rfl, by omega, HR0.out⟩
  case round =>
    clear HR0
    obtain ⟨k, rfl, hk, hr⟩ := hrel
    have HR := Lib.hid hr
    rcases Nat.lt_or_ge k 7 with hlt | hge
    · have c2 := hr.tab.cell (2 * k)
      have c3 := hr.tab.cell (2 * k + 1)
      have c4 := hr.row.cell 1
      have c5 := hr.row.free 1
      have z1 := hr.hd.lt
      have z2 := hr.row.lt
      have z3 := hr.tab.lt
      have HO := Lib.hid (fW_or HM.out k hlt)
      have HN := Lib.hid (fW_no (h := h) k hlt)
      have HL := Lib.hid (fW_lt HM.out k)
      clear hr
      obtain rfl | rfl | rfl | rfl | rfl | rfl | rfl : k = 0 ∨ k = 1 ∨ k = 2 ∨ k = 3 ∨ k = 4 ∨ k = 5 ∨ k = 6 := by omega
      · have c1 : wr.cell? ⟨w.heap.size, 1, none⟩ = some (.bool h.re) := HR.out.hd.cell 1
        replace c2 : wr.cell? ⟨w.heap.size + 1 + 1 + 1, 0, none⟩ = some (.int .u32 32768) := c2
        replace c3 : wr.cell? ⟨w.heap.size + 1 + 1 + 1, 1, none⟩ = some (.pointer (some ⟨w.heap.size, 1, none⟩)) := c3
        replace c4 : wr.cell? ⟨w.heap.size + 1 + 1, 1, none⟩ = some (.int .u32 (fW h 0 : Nat)) := c4
        rcases hb : h.re with _ | _
        · rw [hb] at c1
          have HN' := Lib.hid (HN.out hb)
          clear HN HO HL
          go_wp2
          go_roundw
          case rel => exact ⟨0 + 1, rfl, by omega, HR.out.skip HN'.out _⟩
          case measure => simp [intOf]
        · rw [hb] at c1
          have HX : Hid (bits BinOp.or IntKind.u32 ((fW h 0 : Nat) : Int) 32768 = ((fW h (0 + 1) : Nat) : Int)) := Lib.hid (by
            rw [← HO.out hb]
            exact u32_or_nat _ 32768 (Nat.lt_trans HL.out (by decide)) (by decide))
          clear HN HO HL
          go_wp2
          go_roundw
          case rel => exact ⟨0 + 1, rfl, by omega, HR.out.step HX.out _⟩
          case measure => simp [intOf]
      · have c1 : wr.cell? ⟨w.heap.size, 3, none⟩ = some (.bool h.aa) := HR.out.hd.cell 3
        replace c2 : wr.cell? ⟨w.heap.size + 1 + 1 + 1, 2, none⟩ = some (.int .u32 1024) := c2
        replace c3 : wr.cell? ⟨w.heap.size + 1 + 1 + 1, 3, none⟩ = some (.pointer (some ⟨w.heap.size, 3, none⟩)) := c3
        replace c4 : wr.cell? ⟨w.heap.size + 1 + 1, 1, none⟩ = some (.int .u32 (fW h 1 : Nat)) := c4
        rcases hb : h.aa with _ | _
        · rw [hb] at c1
          have HN' := Lib.hid (HN.out hb)
          clear HN HO HL
          go_wp2
          go_roundw
          case rel => exact ⟨1 + 1, rfl, by omega, HR.out.skip HN'.out _⟩
          case measure => simp [intOf]
        · rw [hb] at c1
          have HX : Hid (bits BinOp.or IntKind.u32 ((fW h 1 : Nat) : Int) 1024 = ((fW h (1 + 1) : Nat) : Int)) := Lib.hid (by
            rw [← HO.out hb]
            exact u32_or_nat _ 1024 (Nat.lt_trans HL.out (by decide)) (by decide))
          clear HN HO HL
          go_wp2
          go_roundw
          case rel => exact ⟨1 + 1, rfl, by omega, HR.out.step HX.out _⟩
          case measure => simp [intOf]
      · have c1 : wr.cell? ⟨w.heap.size, 4, none⟩ = some (.bool h.tc) := HR.out.hd.cell 4
        replace c2 : wr.cell? ⟨w.heap.size + 1 + 1 + 1, 4, none⟩ = some (.int .u32 512) := c2
        replace c3 : wr.cell? ⟨w.heap.size + 1 + 1 + 1, 5, none⟩ = some (.pointer (some ⟨w.heap.size, 4, none⟩)) := c3
        replace c4 : wr.cell? ⟨w.heap.size + 1 + 1, 1, none⟩ = some (.int .u32 (fW h 2 : Nat)) := c4
        rcases hb : h.tc with _ | _
        · rw [hb] at c1
          have HN' := Lib.hid (HN.out hb)
          clear HN HO HL
          go_wp2
          go_roundw
          case rel => exact ⟨2 + 1, rfl, by omega, HR.out.skip HN'.out _⟩
          case measure => simp [intOf]
        · rw [hb] at c1
          have HX : Hid (bits BinOp.or IntKind.u32 ((fW h 2 : Nat) : Int) 512 = ((fW h (2 + 1) : Nat) : Int)) := Lib.hid (by
            rw [← HO.out hb]
            exact u32_or_nat _ 512 (Nat.lt_trans HL.out (by decide)) (by decide))
          clear HN HO HL
          go_wp2
          go_roundw
          case rel => exact ⟨2 + 1, rfl, by omega, HR.out.step HX.out _⟩
          case measure => simp [intOf]
      · have c1 : wr.cell? ⟨w.heap.size, 5, none⟩ = some (.bool h.rd) := HR.out.hd.cell 5
        replace c2 : wr.cell? ⟨w.heap.size + 1 + 1 + 1, 6, none⟩ = some (.int .u32 256) := c2
        replace c3 : wr.cell? ⟨w.heap.size + 1 + 1 + 1, 7, none⟩ = some (.pointer (some ⟨w.heap.size, 5, none⟩)) := c3
        replace c4 : wr.cell? ⟨w.heap.size + 1 + 1, 1, none⟩ = some (.int .u32 (fW h 3 : Nat)) := c4
        rcases hb : h.rd with _ | _
        · rw [hb] at c1
          have HN' := Lib.hid (HN.out hb)
          clear HN HO HL
          go_wp2
          go_roundw
          case rel => exact ⟨3 + 1, rfl, by omega, HR.out.skip HN'.out _⟩
          case measure => simp [intOf]
        · rw [hb] at c1
          have HX : Hid (bits BinOp.or IntKind.u32 ((fW h 3 : Nat) : Int) 256 = ((fW h (3 + 1) : Nat) : Int)) := Lib.hid (by
            rw [← HO.out hb]
            exact u32_or_nat _ 256 (Nat.lt_trans HL.out (by decide)) (by decide))
          clear HN HO HL
          go_wp2
          go_roundw
          case rel => exact ⟨3 + 1, rfl, by omega, HR.out.step HX.out _⟩
          case measure => simp [intOf]
      · have c1 : wr.cell? ⟨w.heap.size, 6, none⟩ = some (.bool h.ra) := HR.out.hd.cell 6
        replace c2 : wr.cell? ⟨w.heap.size + 1 + 1 + 1, 8, none⟩ = some (.int .u32 128) := c2
        replace c3 : wr.cell? ⟨w.heap.size + 1 + 1 + 1, 9, none⟩ = some (.pointer (some ⟨w.heap.size, 6, none⟩)) := c3
        replace c4 : wr.cell? ⟨w.heap.size + 1 + 1, 1, none⟩ = some (.int .u32 (fW h 4 : Nat)) := c4
        rcases hb : h.ra with _ | _
        · rw [hb] at c1
          have HN' := Lib.hid (HN.out hb)
          clear HN HO HL
          go_wp2
          go_roundw
          case rel => exact ⟨4 + 1, rfl, by omega, HR.out.skip HN'.out _⟩
          case measure => simp [intOf]
        · rw [hb] at c1
          have HX : Hid (bits BinOp.or IntKind.u32 ((fW h 4 : Nat) : Int) 128 = ((fW h (4 + 1) : Nat) : Int)) := Lib.hid (by
            rw [← HO.out hb]
            exact u32_or_nat _ 128 (Nat.lt_trans HL.out (by decide)) (by decide))
          clear HN HO HL
          go_wp2
          go_roundw
          case rel => exact ⟨4 + 1, rfl, by omega, HR.out.step HX.out _⟩
          case measure => simp [intOf]
      · have c1 : wr.cell? ⟨w.heap.size, 7, none⟩ = some (.bool h.ad) := HR.out.hd.cell 7
        replace c2 : wr.cell? ⟨w.heap.size + 1 + 1 + 1, 10, none⟩ = some (.int .u32 32) := c2
        replace c3 : wr.cell? ⟨w.heap.size + 1 + 1 + 1, 11, none⟩ = some (.pointer (some ⟨w.heap.size, 7, none⟩)) := c3
        replace c4 : wr.cell? ⟨w.heap.size + 1 + 1, 1, none⟩ = some (.int .u32 (fW h 5 : Nat)) := c4
        rcases hb : h.ad with _ | _
        · rw [hb] at c1
          have HN' := Lib.hid (HN.out hb)
          clear HN HO HL
          go_wp2
          go_roundw
          case rel => exact ⟨5 + 1, rfl, by omega, HR.out.skip HN'.out _⟩
          case measure => simp [intOf]
        · rw [hb] at c1
          have HX : Hid (bits BinOp.or IntKind.u32 ((fW h 5 : Nat) : Int) 32 = ((fW h (5 + 1) : Nat) : Int)) := Lib.hid (by
            rw [← HO.out hb]
            exact u32_or_nat _ 32 (Nat.lt_trans HL.out (by decide)) (by decide))
          clear HN HO HL
          go_wp2
          go_roundw
          case rel => exact ⟨5 + 1, rfl, by omega, HR.out.step HX.out _⟩
          case measure => simp [intOf]
      · have c1 : wr.cell? ⟨w.heap.size, 8, none⟩ = some (.bool h.cd) := HR.out.hd.cell 8
        replace c2 : wr.cell? ⟨w.heap.size + 1 + 1 + 1, 12, none⟩ = some (.int .u32 16) := c2
        replace c3 : wr.cell? ⟨w.heap.size + 1 + 1 + 1, 13, none⟩ = some (.pointer (some ⟨w.heap.size, 8, none⟩)) := c3
        replace c4 : wr.cell? ⟨w.heap.size + 1 + 1, 1, none⟩ = some (.int .u32 (fW h 6 : Nat)) := c4
        rcases hb : h.cd with _ | _
        · rw [hb] at c1
          have HN' := Lib.hid (HN.out hb)
          clear HN HO HL
          go_wp2
          go_roundw
          case rel => exact ⟨6 + 1, rfl, by omega, HR.out.skip HN'.out _⟩
          case measure => simp [intOf]
        · rw [hb] at c1
          have HX : Hid (bits BinOp.or IntKind.u32 ((fW h 6 : Nat) : Int) 16 = ((fW h (6 + 1) : Nat) : Int)) := Lib.hid (by
            rw [← HO.out hb]
            exact u32_or_nat _ 16 (Nat.lt_trans HL.out (by decide)) (by decide))
          clear HN HO HL
          go_wp2
          go_roundw
          case rel => exact ⟨6 + 1, rfl, by omega, HR.out.step HX.out _⟩
          case measure => simp [intOf]
    · obtain rfl : k = 7 := by omega
      have l0 := hr.hd.cell 10
      have l1 := hr.hd.cell 11
      have l2 := hr.hd.cell 12
      have l3 := hr.hd.cell 13
      replace l0 : wr.cell? ⟨w.heap.size, 10, none⟩ = some (.int .i64 h.n0) := l0
      replace l1 : wr.cell? ⟨w.heap.size, 11, none⟩ = some (.int .i64 h.n1) := l1
      replace l2 : wr.cell? ⟨w.heap.size, 12, none⟩ = some (.int .i64 h.n2) := l2
      replace l3 : wr.cell? ⟨w.heap.size, 13, none⟩ = some (.int .i64 h.n3) := l3
      have HC : Hid (CtRel h w wr 0) := Lib.hid ⟨hr.res, hr.row, hr.below⟩
      clear hr HR
      have I0 := idx4_0 h.n0 h.n1 h.n2 h.n3
      have I1 := idx4_1 h.n0 h.n1 h.n2 h.n3
      have I2 := idx4_2 h.n0 h.n1 h.n2 h.n3
      have I3 := idx4_3 h.n0 h.n1 h.n2 h.n3
      go_wp2
      clear l0 l1 l2 l3
      obtain ⟨wo, rfl⟩ : ∃ wo : World, wo = wr := ⟨_, rfl⟩
      go_loopw [40] (fun i wq => ∃ k : Nat, i = .int .i64 k ∧ k ≤ 4 ∧ CtRel h w wq k) (fun i _ => 4 - (intOf i).toNat)
      case atStart => exact ⟨0, rfl, by omega, HC.out⟩
      case round =>
        clear HC
        obtain ⟨k, rfl, hk, hr⟩ := hrel
        have HR := Lib.hid hr
        have z1 := hr.row.lt
        rcases Nat.lt_or_ge k 4 with hlt | hge
        · have c5 := hr.row.free (2 + k)
          have c6 := hr.row.cell (2 + k)
          clear hr
          obtain rfl | rfl | rfl | rfl : k = 0 ∨ k = 1 ∨ k = 2 ∨ k = 3 := by omega
          · replace c5 : wr.frozen? ⟨w.heap.size + 1 + 1, 2, none⟩ = false := c5
            replace c6 : wr.cell? ⟨w.heap.size + 1 + 1, 2, none⟩ = some (.int .u32 0) := c6
            go_wp2
            go_roundw
            case rel => exact ⟨0 + 1, rfl, by omega, HR.out.step0⟩
            case measure => simp [intOf]
          · replace c5 : wr.frozen? ⟨w.heap.size + 1 + 1, 3, none⟩ = false := c5
            replace c6 : wr.cell? ⟨w.heap.size + 1 + 1, 3, none⟩ = some (.int .u32 0) := c6
            go_wp2
            go_roundw
            case rel => exact ⟨1 + 1, rfl, by omega, HR.out.step1⟩
            case measure => simp [intOf]
          · replace c5 : wr.frozen? ⟨w.heap.size + 1 + 1, 4, none⟩ = false := c5
            replace c6 : wr.cell? ⟨w.heap.size + 1 + 1, 4, none⟩ = some (.int .u32 0) := c6
            go_wp2
            go_roundw
            case rel => exact ⟨2 + 1, rfl, by omega, HR.out.step2⟩
            case measure => simp [intOf]
          · replace c5 : wr.frozen? ⟨w.heap.size + 1 + 1, 5, none⟩ = false := c5
            replace c6 : wr.cell? ⟨w.heap.size + 1 + 1, 5, none⟩ = some (.int .u32 0) := c6
            go_wp2
            go_roundw
            case rel => exact ⟨3 + 1, rfl, by omega, HR.out.step3⟩
            case measure => simp [intOf]
        · obtain rfl : k = 4 := by omega
          have q0 : wr.cell? ⟨w.heap.size + 1 + 1, 0, none⟩ = some (.int .u32 h.id) := hr.row.cell 0
          have q1 : wr.cell? ⟨w.heap.size + 1 + 1, 1, none⟩ = some (.int .u32 (fwd h : Nat)) := hr.row.cell 1
          have q2 : wr.cell? ⟨w.heap.size + 1 + 1, 2, none⟩ = some (.int .u32 h.n0) := hr.row.cell 2
          have q3 : wr.cell? ⟨w.heap.size + 1 + 1, 3, none⟩ = some (.int .u32 h.n1) := hr.row.cell 3
          have q4 : wr.cell? ⟨w.heap.size + 1 + 1, 4, none⟩ = some (.int .u32 h.n2) := hr.row.cell 4
          have q5 : wr.cell? ⟨w.heap.size + 1 + 1, 5, none⟩ = some (.int .u32 h.n3) := hr.row.cell 5
          have f0 := hr.res.free 0
          have f1 := hr.res.free 1
          have f2 := hr.res.free 2
          have f3 := hr.res.free 3
          have f4 := hr.res.free 4
          have f5 := hr.res.free 5
          have e0 : wr.cell? ⟨w.heap.size + 1, 0, none⟩ = some (.int .u32 (0 : Nat)) := hr.res.cell 0
          have e1 : wr.cell? ⟨w.heap.size + 1, 1, none⟩ = some (.int .u32 (0 : Nat)) := hr.res.cell 1
          have e2 : wr.cell? ⟨w.heap.size + 1, 2, none⟩ = some (.int .u32 (0 : Nat)) := hr.res.cell 2
          have e3 : wr.cell? ⟨w.heap.size + 1, 3, none⟩ = some (.int .u32 (0 : Nat)) := hr.res.cell 3
          have e4 : wr.cell? ⟨w.heap.size + 1, 4, none⟩ = some (.int .u32 (0 : Nat)) := hr.res.cell 4
          have e5 : wr.cell? ⟨w.heap.size + 1, 5, none⟩ = some (.int .u32 (0 : Nat)) := hr.res.cell 5
          have HLs : Hid (Lies ((((((wr.setCell ⟨w.heap.size + 1, 0, none⟩ (.int .u32 h.id)).setCell ⟨w.heap.size + 1, 1, none⟩ (.int .u32 (fwd h : Nat))).setCell ⟨w.heap.size + 1, 2, none⟩ (.int .u32 h.n0)).setCell ⟨w.heap.size + 1, 3, none⟩ (.int .u32 h.n1)).setCell ⟨w.heap.size + 1, 4, none⟩ (.int .u32 h.n2)).setCell ⟨w.heap.size + 1, 5, none⟩ (.int .u32 h.n3)) (w.heap.size + 1) 45 #[.int .u32 h.id, .int .u32 (fwd h : Nat), .int .u32 h.n0, .int .u32 h.n1, .int .u32 h.n2, .int .u32 h.n3]) :=
            Lib.hid ((((((hr.res.set 0 _).set 1 _).set 2 _).set 3 _).set 4 _).set 5 _)
          have HBs : Hid (Below w.heap.size w ((((((wr.setCell ⟨w.heap.size + 1, 0, none⟩ (.int .u32 h.id)).setCell ⟨w.heap.size + 1, 1, none⟩ (.int .u32 (fwd h : Nat))).setCell ⟨w.heap.size + 1, 2, none⟩ (.int .u32 h.n0)).setCell ⟨w.heap.size + 1, 3, none⟩ (.int .u32 h.n1)).setCell ⟨w.heap.size + 1, 4, none⟩ (.int .u32 h.n2)).setCell ⟨w.heap.size + 1, 5, none⟩ (.int .u32 h.n3))) := Lib.hid ((((((hr.below.setCell (by simp) _).setCell (by simp) _).setCell (by simp) _).setCell (by simp) _).setCell (by simp) _).setCell (by simp) _)
          clear hr
          go_wp2
          refine bodyPost_ret (v := .agg #[.int .u32 h.id, .int .u32 (fwd h : Nat), .int .u32 h.n0, .int .u32 h.n1, .int .u32 h.n2, .int .u32 h.n3]) (results_cell_row (p := 2) (ty := 45) rfl _ _ (w.heap.size + 1) _ _ (0, 0) _ rfl HLs.out Try.underlying45 rfl (by kernel_rfl)) rfl ⟨?_, HBs.out⟩
          unfold wcs
          rw [Int.toNat_of_nonneg a1, Int.toNat_of_nonneg b1, Int.toNat_of_nonneg c1, Int.toNat_of_nonneg d1]
end Go.Proofs.Ytjedfgflkhchiaa
