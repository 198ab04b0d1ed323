/-
  header.wordsOf, of a header that may be: the walk. No condition beyond that. header.readWords: the walk. The octets are at most 2^46. header.Put: the walk. The header's ID is one that its type bears. '==' of two headers, of two rows of counts. No condition.
-/
import Derived.Test.YtadeflehdfmilaaGreatZk38
import Derived.Test.YtadeflehdfmilaaGreatZk6
import Derived.Laws.ResultCell
import Derived.Laws.StructEq
import Derived.ChangeKeysEq
namespace Go.Proofs.YtadeflehdfmilaaGreat
open Go.RowKit
set_option linter.unusedVariables false

/-- The header's cells. -/
def hcs (h : Hd) : Array Value := #[.int .u16 h.id, .bool h.re, .int .i64 h.op, .bool h.aa, .bool h.tc, .bool h.rd, .bool h.ra, .bool h.ad, .bool h.cd, .int .i64 h.rc, .int .i64 h.n0, .int .i64 h.n1, .int .i64 h.n2, .int .i64 h.n3]
/-- A row of six words. -/
def wcs (a b c d e f : Nat) : Array Value := #[.int .u32 a, .int .u32 b, .int .u32 c, .int .u32 d, .int .u32 e, .int .u32 f]
/-- The relation of the first loop. -/
structure WdRel (h : Hd) (w wr : World) (k : Nat) : Prop where
  hd : Lies wr w.heap.size 50 (hcs h)
  res : Lies wr (w.heap.size + 1) 155 (wcs 0 0 0 0 0 0)
  row : Lies wr (w.heap.size + 1 + 1) 155 (wcs h.id (fW h k) 0 0 0 0)
  tab : Lies wr (w.heap.size + 1 + 1 + 1) 194 (flT w.heap.size)
  below : Below w.heap.size w wr
theorem Lies.setOther {w : World} {g g' j : Nat} {t : TypeId} {cs : Array Value} (h : Lies w g t cs) (hne : g ≠ g') (u : Value) : Lies (w.setCell ⟨g', j, none⟩ u) g t cs := (heap_setCell_other w ⟨g', j, none⟩ g u hne).trans h
theorem wd_start {h : Hd} {w w1 : World} {x : Int} {W : World} (hW : W = ((w.alloc (.cells (hcs h) 50)).alloc (.cells (wcs 0 0 0 0 0 0) 155)).alloc (.cells #[.int .u32 h.id, .int .u32 x, .int .u32 0, .int .u32 0, .int .u32 0, .int .u32 0] 155)) (hx : x = ((fW h 0 : Nat) : Int))
    (ht : w1.heap[W.heap.size]? = some (.cells (flT w.heap.size) 194 (0, 0))) (hb : Below W.heap.size W w1) : WdRel h w w1 0 := by
  subst hW hx
  have hs : (((w.alloc (.cells (hcs h) 50)).alloc (.cells (wcs 0 0 0 0 0 0) 155)).alloc (.cells #[.int .u32 h.id, .int .u32 (fW h 0 : Nat), .int .u32 0, .int .u32 0, .int .u32 0, .int .u32 0] 155)).heap.size = w.heap.size + 1 + 1 + 1 := by simp
  rw [hs] at ht
  have z1 : (w.alloc (.cells (hcs h) 50)).heap.size = w.heap.size + 1 := by simp
  have z2 : ((w.alloc (.cells (hcs h) 50)).alloc (.cells (wcs 0 0 0 0 0 0) 155)).heap.size = w.heap.size + 1 + 1 := by simp
  have l1 := (((Lies.new w 50 (hcs h)).alloc (.cells (wcs 0 0 0 0 0 0) 155)).alloc (.cells #[.int .u32 h.id, .int .u32 (fW h 0 : Nat), .int .u32 0, .int .u32 0, .int .u32 0, .int .u32 0] 155)).next hb
  have l2 := ((Lies.new (w.alloc (.cells (hcs h) 50)) 155 (wcs 0 0 0 0 0 0)).alloc (.cells #[.int .u32 h.id, .int .u32 (fW h 0 : Nat), .int .u32 0, .int .u32 0, .int .u32 0, .int .u32 0] 155)).next hb
  have l3 := (Lies.new ((w.alloc (.cells (hcs h) 50)).alloc (.cells (wcs 0 0 0 0 0 0) 155)) 155 (wcs h.id (fW h 0) 0 0 0 0)).next hb
  rw [z1] at l2
  rw [z2] at l3
  exact ⟨l1, l2, l3, ht, ((((Below.refl _ _).alloc (Nat.le_refl _) _).alloc (by simp) _).alloc (by simp; omega) _).trans (hb.mono (by rw [hs]; omega))⟩
theorem WdRel.step {h : Hd} {w wr : World} {k : Nat} (r : WdRel h w wr k) {x : Int} (hx : x = ((fW h (k + 1) : Nat) : Int)) (o : Obj) : WdRel h w ((wr.setCell ⟨w.heap.size + 1 + 1, 1, none⟩ (.int .u32 x)).alloc o) (k + 1) := by
  subst hx
  have hb : Below w.heap.size w (wr.setCell ⟨w.heap.size + 1 + 1, 1, none⟩ (.int .u32 (fW h (k + 1) : Nat))) := r.below.setCell (by simp; omega) _
  exact ⟨(r.hd.setOther (by omega) _).alloc o, (r.res.setOther (by omega) _).alloc o, (r.row.set 1 _).alloc o, (r.tab.setOther (by omega) _).alloc o, hb.alloc hb.size o⟩
theorem WdRel.skip {h : Hd} {w wr : World} {k : Nat} (r : WdRel h w wr k) (hx : fW h k = fW h (k + 1)) (o : Obj) : WdRel h w (wr.alloc o) (k + 1) :=
  ⟨r.hd.alloc o, r.res.alloc o, by rw [← hx]; exact r.row.alloc o, r.tab.alloc o, r.below.alloc r.below.size o⟩
/-- The row's cells behind k counts. -/
def ctc (h : Hd) (k : Nat) : Array Value := #[.int .u32 h.id, .int .u32 (fwd h : Nat), .int .u32 (if 0 < k then h.n0 else 0), .int .u32 (if 1 < k then h.n1 else 0), .int .u32 (if 2 < k then h.n2 else 0), .int .u32 (if 3 < k then h.n3 else 0)]
/-- The relation of the second loop. -/
structure CtRel (h : Hd) (w wr : World) (k : Nat) : Prop where
  res : Lies wr (w.heap.size + 1) 155 (wcs 0 0 0 0 0 0)
  row : Lies wr (w.heap.size + 1 + 1) 155 (ctc h k)
  below : Below w.heap.size w wr
theorem CtRel.step0 {h : Hd} {w wr : World} (r : CtRel h w wr 0) : CtRel h w (wr.setCell ⟨w.heap.size + 1 + 1, 2, none⟩ (.int .u32 h.n0)) (0 + 1) :=
  ⟨r.res.setOther (by omega) _, r.row.set 2 _, r.below.setCell (by simp; omega) _⟩
theorem CtRel.step1 {h : Hd} {w wr : World} (r : CtRel h w wr 1) : CtRel h w (wr.setCell ⟨w.heap.size + 1 + 1, 3, none⟩ (.int .u32 h.n1)) (1 + 1) :=
  ⟨r.res.setOther (by omega) _, r.row.set 3 _, r.below.setCell (by simp; omega) _⟩
theorem CtRel.step2 {h : Hd} {w wr : World} (r : CtRel h w wr 2) : CtRel h w (wr.setCell ⟨w.heap.size + 1 + 1, 4, none⟩ (.int .u32 h.n2)) (2 + 1) :=
  ⟨r.res.setOther (by omega) _, r.row.set 4 _, r.below.setCell (by simp; omega) _⟩
theorem CtRel.step3 {h : Hd} {w wr : World} (r : CtRel h w wr 3) : CtRel h w (wr.setCell ⟨w.heap.size + 1 + 1, 5, none⟩ (.int .u32 h.n3)) (3 + 1) :=
  ⟨r.res.setOther (by omega) _, r.row.set 5 _, r.below.setCell (by simp; omega) _⟩
set_option maxHeartbeats 2000000 in
theorem wordsOf_any (h : Hd) (m : h.may) (hid : h.id < 65536) (w : World) :
    Calls Tryz.prog 125 #[hv h] w fun e w' => e = .returned (.agg (wcs h.id (fwd h) h.n0.toNat h.n1.toNat h.n2.toNat h.n3.toNat)) ∧ Below w.heap.size w w' := by
  have HM := Lib.hid m
  obtain ⟨⟨o1, o2⟩, ⟨r1, r2⟩, ⟨a1, a2⟩, ⟨b1, b2⟩, ⟨c1, c2⟩, ⟨d1, d2⟩⟩ := m
  have H0 : Hid (bits BinOp.or IntKind.u32 (h.op * 2048) h.rc = ((fW h 0 : Nat) : Int)) := Lib.hid (by
    obtain ⟨o, ho⟩ := Int.eq_ofNat_of_zero_le o1
    obtain ⟨r, hr⟩ := Int.eq_ofNat_of_zero_le r1
    rw [ho, hr, show (o : Int) * 2048 = ((o * 2048 : Nat) : Int) by omega, u32_or_nat _ _ (by omega) (by omega)]
    simp only [fW, ho, hr, Int.toNat_natCast]
    have := Nat.shiftLeft_add_eq_or_of_lt (show r < 2 ^ 11 by omega) o
    rw [Nat.shiftLeft_eq] at this
    rw [← this]
    congr 1
    omega)
  unfold hv
  go_enter Tryz.func125, Tryz.ntmps125
  go_wp2_with (go_at_call 128; refine (flagsOf_any _ _).mono ?_; rintro e w1 ⟨rfl, ht, hb⟩; have HT := Lib.hid ht; have HB := Lib.hid hb; clear ht hb)
  have HR0 := Lib.hid (wd_start rfl H0.out HT.out HB.out)
  clear HT HB H0
  go_loopw [23] (fun i wr => ∃ k : Nat, i = .int .i64 k ∧ k ≤ 7 ∧ WdRel h w wr k) (fun i _ => 7 - (intOf i).toNat)
  case atStart => exact ⟨0, rfl, by omega, HR0.out⟩
  case round =>
    clear HR0
    obtain ⟨k, rfl, hk, hr⟩ := hrel
    have HR := Lib.hid hr
    rcases Nat.lt_or_ge k 7 with hlt | hge
    · have c2 := hr.tab.cell (2 * k)
      have c3 := hr.tab.cell (2 * k + 1)
      have c4 := hr.row.cell 1
      have c5 := hr.row.free 1
      have z1 := hr.hd.lt
      have z2 := hr.row.lt
      have z3 := hr.tab.lt
      have HO := Lib.hid (fW_or HM.out k hlt)
      have HN := Lib.hid (fW_no (h := h) k hlt)
      have HL := Lib.hid (fW_lt HM.out k)
      clear hr
      obtain rfl | rfl | rfl | rfl | rfl | rfl | rfl : k = 0 ∨ k = 1 ∨ k = 2 ∨ k = 3 ∨ k = 4 ∨ k = 5 ∨ k = 6 := by omega
      · have c1 : wr.cell? ⟨w.heap.size, 1, none⟩ = some (.bool h.re) := HR.out.hd.cell 1
        replace c2 : wr.cell? ⟨w.heap.size + 1 + 1 + 1, 0, none⟩ = some (.int .u32 32768) := c2
        replace c3 : wr.cell? ⟨w.heap.size + 1 + 1 + 1, 1, none⟩ = some (.pointer (some ⟨w.heap.size, 1, none⟩)) := c3
        replace c4 : wr.cell? ⟨w.heap.size + 1 + 1, 1, none⟩ = some (.int .u32 (fW h 0 : Nat)) := c4
        rcases hb : h.re with _ | _
        · rw [hb] at c1
          have HN' := Lib.hid (HN.out hb)
          clear HN HO HL
          go_wp2
          go_roundw
          case rel => exact ⟨0 + 1, rfl, by omega, HR.out.skip HN'.out _⟩
          case measure => simp [intOf]
        · rw [hb] at c1
          have HX : Hid (bits BinOp.or IntKind.u32 ((fW h 0 : Nat) : Int) 32768 = ((fW h (0 + 1) : Nat) : Int)) := Lib.hid (by
            rw [← HO.out hb]
            exact u32_or_nat _ 32768 (Nat.lt_trans HL.out (by decide)) (by decide))
          clear HN HO HL
          go_wp2
          go_roundw
          case rel => exact ⟨0 + 1, rfl, by omega, HR.out.step HX.out _⟩
          case measure => simp [intOf]
      · have c1 : wr.cell? ⟨w.heap.size, 3, none⟩ = some (.bool h.aa) := HR.out.hd.cell 3
        replace c2 : wr.cell? ⟨w.heap.size + 1 + 1 + 1, 2, none⟩ = some (.int .u32 1024) := c2
        replace c3 : wr.cell? ⟨w.heap.size + 1 + 1 + 1, 3, none⟩ = some (.pointer (some ⟨w.heap.size, 3, none⟩)) := c3
        replace c4 : wr.cell? ⟨w.heap.size + 1 + 1, 1, none⟩ = some (.int .u32 (fW h 1 : Nat)) := c4
        rcases hb : h.aa with _ | _
        · rw [hb] at c1
          have HN' := Lib.hid (HN.out hb)
          clear HN HO HL
          go_wp2
          go_roundw
          case rel => exact ⟨1 + 1, rfl, by omega, HR.out.skip HN'.out _⟩
          case measure => simp [intOf]
        · rw [hb] at c1
          have HX : Hid (bits BinOp.or IntKind.u32 ((fW h 1 : Nat) : Int) 1024 = ((fW h (1 + 1) : Nat) : Int)) := Lib.hid (by
            rw [← HO.out hb]
            exact u32_or_nat _ 1024 (Nat.lt_trans HL.out (by decide)) (by decide))
          clear HN HO HL
          go_wp2
          go_roundw
          case rel => exact ⟨1 + 1, rfl, by omega, HR.out.step HX.out _⟩
          case measure => simp [intOf]
      · have c1 : wr.cell? ⟨w.heap.size, 4, none⟩ = some (.bool h.tc) := HR.out.hd.cell 4
        replace c2 : wr.cell? ⟨w.heap.size + 1 + 1 + 1, 4, none⟩ = some (.int .u32 512) := c2
        replace c3 : wr.cell? ⟨w.heap.size + 1 + 1 + 1, 5, none⟩ = some (.pointer (some ⟨w.heap.size, 4, none⟩)) := c3
        replace c4 : wr.cell? ⟨w.heap.size + 1 + 1, 1, none⟩ = some (.int .u32 (fW h 2 : Nat)) := c4
        rcases hb : h.tc with _ | _
        · rw [hb] at c1
          have HN' := Lib.hid (HN.out hb)
          clear HN HO HL
          go_wp2
          go_roundw
          case rel => exact ⟨2 + 1, rfl, by omega, HR.out.skip HN'.out _⟩
          case measure => simp [intOf]
        · rw [hb] at c1
          have HX : Hid (bits BinOp.or IntKind.u32 ((fW h 2 : Nat) : Int) 512 = ((fW h (2 + 1) : Nat) : Int)) := Lib.hid (by
            rw [← HO.out hb]
            exact u32_or_nat _ 512 (Nat.lt_trans HL.out (by decide)) (by decide))
          clear HN HO HL
          go_wp2
          go_roundw
          case rel => exact ⟨2 + 1, rfl, by omega, HR.out.step HX.out _⟩
          case measure => simp [intOf]
      · have c1 : wr.cell? ⟨w.heap.size, 5, none⟩ = some (.bool h.rd) := HR.out.hd.cell 5
        replace c2 : wr.cell? ⟨w.heap.size + 1 + 1 + 1, 6, none⟩ = some (.int .u32 256) := c2
        replace c3 : wr.cell? ⟨w.heap.size + 1 + 1 + 1, 7, none⟩ = some (.pointer (some ⟨w.heap.size, 5, none⟩)) := c3
        replace c4 : wr.cell? ⟨w.heap.size + 1 + 1, 1, none⟩ = some (.int .u32 (fW h 3 : Nat)) := c4
        rcases hb : h.rd with _ | _
        · rw [hb] at c1
          have HN' := Lib.hid (HN.out hb)
          clear HN HO HL
          go_wp2
          go_roundw
          case rel => exact ⟨3 + 1, rfl, by omega, HR.out.skip HN'.out _⟩
          case measure => simp [intOf]
        · rw [hb] at c1
          have HX : Hid (bits BinOp.or IntKind.u32 ((fW h 3 : Nat) : Int) 256 = ((fW h (3 + 1) : Nat) : Int)) := Lib.hid (by
            rw [← HO.out hb]
            exact u32_or_nat _ 256 (Nat.lt_trans HL.out (by decide)) (by decide))
          clear HN HO HL
          go_wp2
          go_roundw
          case rel => exact ⟨3 + 1, rfl, by omega, HR.out.step HX.out _⟩
          case measure => simp [intOf]
      · have c1 : wr.cell? ⟨w.heap.size, 6, none⟩ = some (.bool h.ra) := HR.out.hd.cell 6
        replace c2 : wr.cell? ⟨w.heap.size + 1 + 1 + 1, 8, none⟩ = some (.int .u32 128) := c2
        replace c3 : wr.cell? ⟨w.heap.size + 1 + 1 + 1, 9, none⟩ = some (.pointer (some ⟨w.heap.size, 6, none⟩)) := c3
        replace c4 : wr.cell? ⟨w.heap.size + 1 + 1, 1, none⟩ = some (.int .u32 (fW h 4 : Nat)) := c4
        rcases hb : h.ra with _ | _
        · rw [hb] at c1
          have HN' := Lib.hid (HN.out hb)
          clear HN HO HL
          go_wp2
          go_roundw
          case rel => exact ⟨4 + 1, rfl, by omega, HR.out.skip HN'.out _⟩
          case measure => simp [intOf]
        · rw [hb] at c1
          have HX : Hid (bits BinOp.or IntKind.u32 ((fW h 4 : Nat) : Int) 128 = ((fW h (4 + 1) : Nat) : Int)) := Lib.hid (by
            rw [← HO.out hb]
            exact u32_or_nat _ 128 (Nat.lt_trans HL.out (by decide)) (by decide))
          clear HN HO HL
          go_wp2
          go_roundw
          case rel => exact ⟨4 + 1, rfl, by omega, HR.out.step HX.out _⟩
          case measure => simp [intOf]
      · have c1 : wr.cell? ⟨w.heap.size, 7, none⟩ = some (.bool h.ad) := HR.out.hd.cell 7
        replace c2 : wr.cell? ⟨w.heap.size + 1 + 1 + 1, 10, none⟩ = some (.int .u32 32) := c2
        replace c3 : wr.cell? ⟨w.heap.size + 1 + 1 + 1, 11, none⟩ = some (.pointer (some ⟨w.heap.size, 7, none⟩)) := c3
        replace c4 : wr.cell? ⟨w.heap.size + 1 + 1, 1, none⟩ = some (.int .u32 (fW h 5 : Nat)) := c4
        rcases hb : h.ad with _ | _
        · rw [hb] at c1
          have HN' := Lib.hid (HN.out hb)
          clear HN HO HL
          go_wp2
          go_roundw
          case rel => exact ⟨5 + 1, rfl, by omega, HR.out.skip HN'.out _⟩
          case measure => simp [intOf]
        · rw [hb] at c1
          have HX : Hid (bits BinOp.or IntKind.u32 ((fW h 5 : Nat) : Int) 32 = ((fW h (5 + 1) : Nat) : Int)) := Lib.hid (by
            rw [← HO.out hb]
            exact u32_or_nat _ 32 (Nat.lt_trans HL.out (by decide)) (by decide))
          clear HN HO HL
          go_wp2
          go_roundw
          case rel => exact ⟨5 + 1, rfl, by omega, HR.out.step HX.out _⟩
          case measure => simp [intOf]
      · have c1 : wr.cell? ⟨w.heap.size, 8, none⟩ = some (.bool h.cd) := HR.out.hd.cell 8
        replace c2 : wr.cell? ⟨w.heap.size + 1 + 1 + 1, 12, none⟩ = some (.int .u32 16) := c2
        replace c3 : wr.cell? ⟨w.heap.size + 1 + 1 + 1, 13, none⟩ = some (.pointer (some ⟨w.heap.size, 8, none⟩)) := c3
        replace c4 : wr.cell? ⟨w.heap.size + 1 + 1, 1, none⟩ = some (.int .u32 (fW h 6 : Nat)) := c4
        rcases hb : h.cd with _ | _
        · rw [hb] at c1
          have HN' := Lib.hid (HN.out hb)
          clear HN HO HL
          go_wp2
          go_roundw
          case rel => exact ⟨6 + 1, rfl, by omega, HR.out.skip HN'.out _⟩
          case measure => simp [intOf]
        · rw [hb] at c1
          have HX : Hid (bits BinOp.or IntKind.u32 ((fW h 6 : Nat) : Int) 16 = ((fW h (6 + 1) : Nat) : Int)) := Lib.hid (by
            rw [← HO.out hb]
            exact u32_or_nat _ 16 (Nat.lt_trans HL.out (by decide)) (by decide))
          clear HN HO HL
          go_wp2
          go_roundw
          case rel => exact ⟨6 + 1, rfl, by omega, HR.out.step HX.out _⟩
          case measure => simp [intOf]
    · obtain rfl : k = 7 := by omega
      have l0 := hr.hd.cell 10
      have l1 := hr.hd.cell 11
      have l2 := hr.hd.cell 12
      have l3 := hr.hd.cell 13
      replace l0 : wr.cell? ⟨w.heap.size, 10, none⟩ = some (.int .i64 h.n0) := l0
      replace l1 : wr.cell? ⟨w.heap.size, 11, none⟩ = some (.int .i64 h.n1) := l1
      replace l2 : wr.cell? ⟨w.heap.size, 12, none⟩ = some (.int .i64 h.n2) := l2
      replace l3 : wr.cell? ⟨w.heap.size, 13, none⟩ = some (.int .i64 h.n3) := l3
      have HC : Hid (CtRel h w wr 0) := Lib.hid ⟨hr.res, hr.row, hr.below⟩
      clear hr HR
      have I0 := idx4_0 h.n0 h.n1 h.n2 h.n3
      have I1 := idx4_1 h.n0 h.n1 h.n2 h.n3
      have I2 := idx4_2 h.n0 h.n1 h.n2 h.n3
      have I3 := idx4_3 h.n0 h.n1 h.n2 h.n3
      go_wp2
      clear l0 l1 l2 l3
      obtain ⟨wo, rfl⟩ : ∃ wo : World, wo = wr := ⟨_, rfl⟩
      go_loopw [40] (fun i wq => ∃ k : Nat, i = .int .i64 k ∧ k ≤ 4 ∧ CtRel h w wq k) (fun i _ => 4 - (intOf i).toNat)
      case atStart => exact ⟨0, rfl, by omega, HC.out⟩
      case round =>
        clear HC
        obtain ⟨k, rfl, hk, hr⟩ := hrel
        have HR := Lib.hid hr
        have z1 := hr.row.lt
        rcases Nat.lt_or_ge k 4 with hlt | hge
        · have c5 := hr.row.free (2 + k)
          have c6 := hr.row.cell (2 + k)
          clear hr
          obtain rfl | rfl | rfl | rfl : k = 0 ∨ k = 1 ∨ k = 2 ∨ k = 3 := by omega
          · replace c5 : wr.frozen? ⟨w.heap.size + 1 + 1, 2, none⟩ = false := c5
            replace c6 : wr.cell? ⟨w.heap.size + 1 + 1, 2, none⟩ = some (.int .u32 0) := c6
            go_wp2
            go_roundw
            case rel => exact ⟨0 + 1, rfl, by omega, HR.out.step0⟩
            case measure => simp [intOf]
          · replace c5 : wr.frozen? ⟨w.heap.size + 1 + 1, 3, none⟩ = false := c5
            replace c6 : wr.cell? ⟨w.heap.size + 1 + 1, 3, none⟩ = some (.int .u32 0) := c6
            go_wp2
            go_roundw
            case rel => exact ⟨1 + 1, rfl, by omega, HR.out.step1⟩
            case measure => simp [intOf]
          · replace c5 : wr.frozen? ⟨w.heap.size + 1 + 1, 4, none⟩ = false := c5
            replace c6 : wr.cell? ⟨w.heap.size + 1 + 1, 4, none⟩ = some (.int .u32 0) := c6
            go_wp2
            go_roundw
            case rel => exact ⟨2 + 1, rfl, by omega, HR.out.step2⟩
            case measure => simp [intOf]
          · replace c5 : wr.frozen? ⟨w.heap.size + 1 + 1, 5, none⟩ = false := c5
            replace c6 : wr.cell? ⟨w.heap.size + 1 + 1, 5, none⟩ = some (.int .u32 0) := c6
            go_wp2
            go_roundw
            case rel => exact ⟨3 + 1, rfl, by omega, HR.out.step3⟩
            case measure => simp [intOf]
        · obtain rfl : k = 4 := by omega
          have q0 : wr.cell? ⟨w.heap.size + 1 + 1, 0, none⟩ = some (.int .u32 h.id) := hr.row.cell 0
          have q1 : wr.cell? ⟨w.heap.size + 1 + 1, 1, none⟩ = some (.int .u32 (fwd h : Nat)) := hr.row.cell 1
          have q2 : wr.cell? ⟨w.heap.size + 1 + 1, 2, none⟩ = some (.int .u32 h.n0) := hr.row.cell 2
          have q3 : wr.cell? ⟨w.heap.size + 1 + 1, 3, none⟩ = some (.int .u32 h.n1) := hr.row.cell 3
          have q4 : wr.cell? ⟨w.heap.size + 1 + 1, 4, none⟩ = some (.int .u32 h.n2) := hr.row.cell 4
          have q5 : wr.cell? ⟨w.heap.size + 1 + 1, 5, none⟩ = some (.int .u32 h.n3) := hr.row.cell 5
          have f0 := hr.res.free 0
          have f1 := hr.res.free 1
          have f2 := hr.res.free 2
          have f3 := hr.res.free 3
          have f4 := hr.res.free 4
          have f5 := hr.res.free 5
          have e0 : wr.cell? ⟨w.heap.size + 1, 0, none⟩ = some (.int .u32 (0 : Nat)) := hr.res.cell 0
          have e1 : wr.cell? ⟨w.heap.size + 1, 1, none⟩ = some (.int .u32 (0 : Nat)) := hr.res.cell 1
          have e2 : wr.cell? ⟨w.heap.size + 1, 2, none⟩ = some (.int .u32 (0 : Nat)) := hr.res.cell 2
          have e3 : wr.cell? ⟨w.heap.size + 1, 3, none⟩ = some (.int .u32 (0 : Nat)) := hr.res.cell 3
          have e4 : wr.cell? ⟨w.heap.size + 1, 4, none⟩ = some (.int .u32 (0 : Nat)) := hr.res.cell 4
          have e5 : wr.cell? ⟨w.heap.size + 1, 5, none⟩ = some (.int .u32 (0 : Nat)) := hr.res.cell 5
          have HLs : Hid (Lies ((((((wr.setCell ⟨w.heap.size + 1, 0, none⟩ (.int .u32 h.id)).setCell ⟨w.heap.size + 1, 1, none⟩ (.int .u32 (fwd h : Nat))).setCell ⟨w.heap.size + 1, 2, none⟩ (.int .u32 h.n0)).setCell ⟨w.heap.size + 1, 3, none⟩ (.int .u32 h.n1)).setCell ⟨w.heap.size + 1, 4, none⟩ (.int .u32 h.n2)).setCell ⟨w.heap.size + 1, 5, none⟩ (.int .u32 h.n3)) (w.heap.size + 1) 155 #[.int .u32 h.id, .int .u32 (fwd h : Nat), .int .u32 h.n0, .int .u32 h.n1, .int .u32 h.n2, .int .u32 h.n3]) :=
            Lib.hid ((((((hr.res.set 0 _).set 1 _).set 2 _).set 3 _).set 4 _).set 5 _)
          have HBs : Hid (Below w.heap.size w ((((((wr.setCell ⟨w.heap.size + 1, 0, none⟩ (.int .u32 h.id)).setCell ⟨w.heap.size + 1, 1, none⟩ (.int .u32 (fwd h : Nat))).setCell ⟨w.heap.size + 1, 2, none⟩ (.int .u32 h.n0)).setCell ⟨w.heap.size + 1, 3, none⟩ (.int .u32 h.n1)).setCell ⟨w.heap.size + 1, 4, none⟩ (.int .u32 h.n2)).setCell ⟨w.heap.size + 1, 5, none⟩ (.int .u32 h.n3))) := Lib.hid ((((((hr.below.setCell (by simp) _).setCell (by simp) _).setCell (by simp) _).setCell (by simp) _).setCell (by simp) _).setCell (by simp) _)
          clear hr
          go_wp2
          refine bodyPost_ret (v := .agg #[.int .u32 h.id, .int .u32 (fwd h : Nat), .int .u32 h.n0, .int .u32 h.n1, .int .u32 h.n2, .int .u32 h.n3]) (results_cell_row (p := 2) (ty := 155) rfl _ _ (w.heap.size + 1) _ _ (0, 0) _ rfl HLs.out Tryz.underlying155 rfl (by kernel_rfl)) rfl ⟨?_, HBs.out⟩
          unfold wcs
          rw [Int.toNat_of_nonneg a1, Int.toNat_of_nonneg b1, Int.toNat_of_nonneg c1, Int.toNat_of_nonneg d1]
end Go.Proofs.YtadeflehdfmilaaGreat
namespace Go.Proofs.YtadeflehdfmilaaGreat
open Go.RowKit
set_option linter.unusedVariables false

/-- A row of six numbers. -/
def ics (a b c d e f : Int) : Array Value := #[.int .u32 a, .int .u32 b, .int .u32 c, .int .u32 d, .int .u32 e, .int .u32 f]
/-- The row behind k words. -/
def rwc (l : List UInt8) (k : Nat) : Array Value := #[.int .u32 (if 0 < k then wdAt l 0 else 0 : Nat), .int .u32 (if 1 < k then wdAt l 1 else 0 : Nat), .int .u32 (if 2 < k then wdAt l 2 else 0 : Nat), .int .u32 (if 3 < k then wdAt l 3 else 0 : Nat), .int .u32 (if 4 < k then wdAt l 4 else 0 : Nat), .int .u32 (if 5 < k then wdAt l 5 else 0 : Nat)]
/-- The relation of the loop. -/
structure HdRwRel (s : ByteArray) (w wr : World) (g k : Nat) : Prop where
  res : Lies wr w.heap.size 155 (ics 0 0 0 0 0 0)
  row : Lies wr (w.heap.size + 1) 155 (rwc (bs s) k)
  rd : RD wr g s (2 * k)
  below : Below w.heap.size w wr
  ge : w.heap.size + 1 < g
theorem numR_two {l : List UInt8} {k : Nat} (h : 2 * k + 2 ≤ l.length) : numR l (2 * k) 2 = ⟨(l.drop (2 * k)).take 2, 0, 2 * (k + 1)⟩ := by
  rw [numR_take (by decide)]
  exact takR_some h
theorem numR_none {l : List UInt8} {k : Nat} (h : l.length < 2 * k + 2) : numR l (2 * k) 2 = ⟨[], 8, 2 * k⟩ := by
  rw [numR_take (by decide)]
  exact takR_more (by omega) (by omega)
theorem rd_two {g k : Nat} {s : ByteArray} {w : World} (h : RD w g s (2 * k)) (hs : s.size ≤ maxLen) (hk : 2 * k + 2 ≤ s.size) :
    Calls Tryz.prog 127 #[.pointer (some ⟨g, 0, none⟩), .int .i64 2] w (Rdr w g s (2 * (k + 1)) (.tuple #[.int .u32 (wdAt (bs s) k), .int .i64 0])) := by
  have := rNumber_any 2 h hs (by omega)
  rw [numR_two (by rw [bs_length]; exact hk)] at this
  exact this
theorem rd_none {g k : Nat} {s : ByteArray} {w : World} (h : RD w g s (2 * k)) (hs : s.size ≤ maxLen) (h0 : 2 * k ≤ s.size) (hk : s.size < 2 * k + 2) :
    Calls Tryz.prog 127 #[.pointer (some ⟨g, 0, none⟩), .int .i64 2] w (Rdr w g s (2 * k) (.tuple #[.int .u32 0, .int .i64 8])) := by
  have := rNumber_any 2 h hs h0
  rw [numR_none (by rw [bs_length]; exact hk)] at this
  exact this
/-- Two results, the first one, a row of six, in a cell. -/
theorem ret_row2 {fn : Func} {p u : Tmp} (h : fn.results = #[.cell p 155, .tmp u]) (tmps : Array Value) (w : World) (g : Nat) (a b c d e f : Int) (hp : tmps.getD p undef = .pointer (some ⟨g, 0, none⟩)) (hg : Lies w g 155 (ics a b c d e f)) :
    (results fn tmps).run Tryz.prog w = .ok (.tuple #[.agg (ics a b c d e f), tmps.getD u undef]) w := by
  rw [results_cell_tmp h, hp]
  simp only [asAddr, Sem.run_pure, Result.andThen_ok]
  rw [run_loadVar_row w g _ _ _ _ _ hg Tryz.underlying155 rfl (by kernel_rfl)]
  rfl
/-- A row of six, written anew. -/
theorem six_set {w : World} {g : Nat} {a b c d e f : Int} (h : Lies w g 155 (ics a b c d e f)) (a' b' c' d' e' f' : Int) :
    Lies ((((((w.setCell ⟨g, 0, none⟩ (.int .u32 a')).setCell ⟨g, 1, none⟩ (.int .u32 b')).setCell ⟨g, 2, none⟩ (.int .u32 c')).setCell ⟨g, 3, none⟩ (.int .u32 d')).setCell ⟨g, 4, none⟩ (.int .u32 e')).setCell ⟨g, 5, none⟩ (.int .u32 f')) g 155 (ics a' b' c' d' e' f') :=
  (((((h.set 0 _).set 1 _).set 2 _).set 3 _).set 4 _).set 5 _
theorem six_below {w w1 : World} {g k : Nat} (h : Below k w w1) (hg : k ≤ g) (a' b' c' d' e' f' : Int) :
    Below k w ((((((w1.setCell ⟨g, 0, none⟩ (.int .u32 a')).setCell ⟨g, 1, none⟩ (.int .u32 b')).setCell ⟨g, 2, none⟩ (.int .u32 c')).setCell ⟨g, 3, none⟩ (.int .u32 d')).setCell ⟨g, 4, none⟩ (.int .u32 e')).setCell ⟨g, 5, none⟩ (.int .u32 f')) :=
  (((((h.setCell hg _).setCell hg _).setCell hg _).setCell hg _).setCell hg _).setCell hg _
/-- What the walk wants to know of a row of six. -/
theorem six_cells {w : World} {g : Nat} {a b c d e f : Int} (h : Lies w g 155 (ics a b c d e f)) :
    (w.cell? ⟨g, 0, none⟩ = some (.int .u32 a) ∧ w.cell? ⟨g, 1, none⟩ = some (.int .u32 b) ∧ w.cell? ⟨g, 2, none⟩ = some (.int .u32 c) ∧ w.cell? ⟨g, 3, none⟩ = some (.int .u32 d) ∧ w.cell? ⟨g, 4, none⟩ = some (.int .u32 e) ∧ w.cell? ⟨g, 5, none⟩ = some (.int .u32 f)) ∧
    w.frozen? ⟨g, 0, none⟩ = false ∧ w.frozen? ⟨g, 1, none⟩ = false ∧ w.frozen? ⟨g, 2, none⟩ = false ∧ w.frozen? ⟨g, 3, none⟩ = false ∧ w.frozen? ⟨g, 4, none⟩ = false ∧ w.frozen? ⟨g, 5, none⟩ = false :=
  ⟨⟨h.cell 0, h.cell 1, h.cell 2, h.cell 3, h.cell 4, h.cell 5⟩, h.free 0, h.free 1, h.free 2, h.free 3, h.free 4, h.free 5⟩
theorem rw_start {s : ByteArray} {w w1 W : World} (hW : W = (w.alloc (.cells (ics 0 0 0 0 0 0) 155)).alloc (.cells (ics 0 0 0 0 0 0) 155)) (hr : RD w1 W.heap.size s 0) (hb : Below W.heap.size W w1) : HdRwRel s w w1 (w.heap.size + 1 + 1) 0 := by
  subst hW
  have hs : ((w.alloc (.cells (ics 0 0 0 0 0 0) 155)).alloc (.cells (ics 0 0 0 0 0 0) 155)).heap.size = w.heap.size + 1 + 1 := by simp
  have z1 : (w.alloc (.cells (ics 0 0 0 0 0 0) 155)).heap.size = w.heap.size + 1 := by simp
  have l1 := ((Lies.new w 155 (ics 0 0 0 0 0 0)).alloc (.cells (ics 0 0 0 0 0 0) 155)).next hb
  have l2 := (Lies.new (w.alloc (.cells (ics 0 0 0 0 0 0) 155)) 155 (ics 0 0 0 0 0 0)).next hb
  rw [z1] at l2
  rw [hs] at hr
  exact ⟨l1, l2, hr, (((Below.refl _ _).alloc (Nat.le_refl _) _).alloc (by simp) _).trans (hb.mono (by rw [hs]; omega)), by omega⟩
theorem rw_step0 {s : ByteArray} {w w' : World} (q : Lies w' w.heap.size 155 (ics 0 0 0 0 0 0) ∧ Lies w' (w.heap.size + 1) 155 (rwc (bs s) 0) ∧ RD w' (w.heap.size + 1 + 1) s (2 * (0 + 1)) ∧ Below w.heap.size w w') :
    HdRwRel s w (w'.setCell ⟨w.heap.size + 1, 0, none⟩ (.int .u32 (wdAt (bs s) 0))) (w.heap.size + 1 + 1) (0 + 1) :=
  ⟨q.1.setOther (by omega) _, q.2.1.set 0 _, Lies.setOther q.2.2.1 (by omega) _, q.2.2.2.setCell (by simp) _, by omega⟩
theorem rw_step1 {s : ByteArray} {w w' : World} (q : Lies w' w.heap.size 155 (ics 0 0 0 0 0 0) ∧ Lies w' (w.heap.size + 1) 155 (rwc (bs s) 1) ∧ RD w' (w.heap.size + 1 + 1) s (2 * (1 + 1)) ∧ Below w.heap.size w w') :
    HdRwRel s w (w'.setCell ⟨w.heap.size + 1, 1, none⟩ (.int .u32 (wdAt (bs s) 1))) (w.heap.size + 1 + 1) (1 + 1) :=
  ⟨q.1.setOther (by omega) _, q.2.1.set 1 _, Lies.setOther q.2.2.1 (by omega) _, q.2.2.2.setCell (by simp) _, by omega⟩
theorem rw_step2 {s : ByteArray} {w w' : World} (q : Lies w' w.heap.size 155 (ics 0 0 0 0 0 0) ∧ Lies w' (w.heap.size + 1) 155 (rwc (bs s) 2) ∧ RD w' (w.heap.size + 1 + 1) s (2 * (2 + 1)) ∧ Below w.heap.size w w') :
    HdRwRel s w (w'.setCell ⟨w.heap.size + 1, 2, none⟩ (.int .u32 (wdAt (bs s) 2))) (w.heap.size + 1 + 1) (2 + 1) :=
  ⟨q.1.setOther (by omega) _, q.2.1.set 2 _, Lies.setOther q.2.2.1 (by omega) _, q.2.2.2.setCell (by simp) _, by omega⟩
theorem rw_step3 {s : ByteArray} {w w' : World} (q : Lies w' w.heap.size 155 (ics 0 0 0 0 0 0) ∧ Lies w' (w.heap.size + 1) 155 (rwc (bs s) 3) ∧ RD w' (w.heap.size + 1 + 1) s (2 * (3 + 1)) ∧ Below w.heap.size w w') :
    HdRwRel s w (w'.setCell ⟨w.heap.size + 1, 3, none⟩ (.int .u32 (wdAt (bs s) 3))) (w.heap.size + 1 + 1) (3 + 1) :=
  ⟨q.1.setOther (by omega) _, q.2.1.set 3 _, Lies.setOther q.2.2.1 (by omega) _, q.2.2.2.setCell (by simp) _, by omega⟩
theorem rw_step4 {s : ByteArray} {w w' : World} (q : Lies w' w.heap.size 155 (ics 0 0 0 0 0 0) ∧ Lies w' (w.heap.size + 1) 155 (rwc (bs s) 4) ∧ RD w' (w.heap.size + 1 + 1) s (2 * (4 + 1)) ∧ Below w.heap.size w w') :
    HdRwRel s w (w'.setCell ⟨w.heap.size + 1, 4, none⟩ (.int .u32 (wdAt (bs s) 4))) (w.heap.size + 1 + 1) (4 + 1) :=
  ⟨q.1.setOther (by omega) _, q.2.1.set 4 _, Lies.setOther q.2.2.1 (by omega) _, q.2.2.2.setCell (by simp) _, by omega⟩
theorem rw_step5 {s : ByteArray} {w w' : World} (q : Lies w' w.heap.size 155 (ics 0 0 0 0 0 0) ∧ Lies w' (w.heap.size + 1) 155 (rwc (bs s) 5) ∧ RD w' (w.heap.size + 1 + 1) s (2 * (5 + 1)) ∧ Below w.heap.size w w') :
    HdRwRel s w (w'.setCell ⟨w.heap.size + 1, 5, none⟩ (.int .u32 (wdAt (bs s) 5))) (w.heap.size + 1 + 1) (5 + 1) :=
  ⟨q.1.setOther (by omega) _, q.2.1.set 5 _, Lies.setOther q.2.2.1 (by omega) _, q.2.2.2.setCell (by simp) _, by omega⟩
theorem HdRwRel.next {s : ByteArray} {w wr w' : World} {g k : Nat} (r : HdRwRel s w wr g k) (hr : RD w' g s (2 * (k + 1))) (hg : wr.grownBy w' (some g)) : Lies w' w.heap.size 155 (ics 0 0 0 0 0 0) ∧ Lies w' (w.heap.size + 1) 155 (rwc (bs s) k) ∧ RD w' g s (2 * (k + 1)) ∧ Below w.heap.size w w' := by
  have h1 := r.ge
  exact ⟨r.res.grown hg (by simp; omega), r.row.grown hg (by simp; omega), hr, r.below.grown hg r.below.size (fun k hk => by injection hk with hk; omega)⟩
/-- What readWords answers. -/
def rwV (s : ByteArray) : Value := .tuple #[.agg (if s.size < 12 then ics 0 0 0 0 0 0 else rwc (bs s) 6), .int .i64 (if s.size < 12 then 8 else 0 : Nat)]
theorem rwV_no {s : ByteArray} (h : s.size < 12) : rwV s = .tuple #[.agg (ics 0 0 0 0 0 0), .int .i64 8] := by unfold rwV; rw [if_pos h, if_pos h]; rfl
theorem rwV_yes {s : ByteArray} (h : 12 ≤ s.size) : rwV s = .tuple #[.agg (ics (wdAt (bs s) 0) (wdAt (bs s) 1) (wdAt (bs s) 2) (wdAt (bs s) 3) (wdAt (bs s) 4) (wdAt (bs s) 5)), .int .i64 0] := by unfold rwV; rw [if_neg (by omega), if_neg (by omega)]; rfl
set_option maxHeartbeats 2000000 in
theorem readWords_any (s : ByteArray) (w : World) (hs : s.size ≤ maxLen) :
    Calls Tryz.prog 100 #[.string s] w fun e w' => e = .returned (rwV s) ∧ Below w.heap.size w w' := by
  have HS := Lib.hid hs
  have HN := Lib.hid (fun wx => NewReader_any s wx)
  clear hs
  go_enter Tryz.func100, Tryz.ntmps100
  -- WALK
  go_wp2_with (go_at_call 126; refine (HN.out _).mono ?_; rintro e w1 ⟨rfl, hrd, hb⟩; have HR0 := Lib.hid (rw_start rfl hrd hb); clear hrd hb)
  clear HN
  go_loopw [11] (fun i wr => ∃ k : Nat, i = .int .i64 k ∧ k ≤ 6 ∧ 2 * k ≤ s.size ∧ HdRwRel s w wr (w.heap.size + 1 + 1) k) (fun i _ => 6 - (intOf i).toNat)
  case atStart => exact ⟨0, rfl, by omega, by omega, HR0.out⟩
  case round =>
    clear HR0
    obtain ⟨k, rfl, hk, h2, hr⟩ := hrel
    have HR := Lib.hid hr
    rcases Nat.lt_or_ge k 6 with hlt | hge
    · rcases Nat.lt_or_ge s.size (2 * k + 2) with hno | hyes
      · have HN := Lib.hid (rd_none hr.rd HS.out h2 hno)
        have HV := Lib.hid (rwV_no (s := s) (by omega))
        clear hr h2 hno
        obtain rfl | rfl | rfl | rfl | rfl | rfl : k = 0 ∨ k = 1 ∨ k = 2 ∨ k = 3 ∨ k = 4 ∨ k = 5 := by omega
        all_goals
          go_wp2_with (go_at_call 127; (with_reducible refine HN.out.mono ?_); rintro e w' ⟨rfl, hrd, hg⟩; have hl := HR.out.res.grown hg (by simp; omega); obtain ⟨⟨c0, c1, c2, c3, c4, c5⟩, f0, f1, f2, f3, f4, f5⟩ := six_cells hl; have HL := Lib.hid (six_set hl 0 0 0 0 0 0); have HB := Lib.hid (six_below (g := w.heap.size) (HR.out.below.grown hg HR.out.below.size (fun k hk => by injection hk with hk; omega)) (Nat.le_refl _) 0 0 0 0 0 0); clear hl hrd hg)
          refine bodyPost_ret (ret_row2 rfl _ _ w.heap.size 0 0 0 0 0 0 rfl HL.out) rfl ⟨?_, HB.out⟩
          rw [HV.out]
          rfl
      · have HN := Lib.hid (rd_two hr.rd HS.out hyes)
        have c6 := hr.row.cell k
        have f6 := hr.row.free k
        have z6 := hr.row.lt
        clear hr
        obtain rfl | rfl | rfl | rfl | rfl | rfl : k = 0 ∨ k = 1 ∨ k = 2 ∨ k = 3 ∨ k = 4 ∨ k = 5 := by omega
        · go_wp2_with (go_at_call 127; (with_reducible refine HN.out.mono ?_); rintro e w' ⟨rfl, hrd, hg⟩; have HQ := Lib.hid (HR.out.next hrd hg); have hc : w'.cell? ⟨w.heap.size + 1, 0, none⟩ = some (.int .u32 0) := HQ.out.2.1.cell 0; have hf := HQ.out.2.1.free 0; clear hrd hg)
          go_roundw
          case rel => exact ⟨0 + 1, rfl, by omega, by omega, rw_step0 HQ.out⟩
          case measure => simp [intOf]
        · go_wp2_with (go_at_call 127; (with_reducible refine HN.out.mono ?_); rintro e w' ⟨rfl, hrd, hg⟩; have HQ := Lib.hid (HR.out.next hrd hg); have hc : w'.cell? ⟨w.heap.size + 1, 1, none⟩ = some (.int .u32 0) := HQ.out.2.1.cell 1; have hf := HQ.out.2.1.free 1; clear hrd hg)
          go_roundw
          case rel => exact ⟨1 + 1, rfl, by omega, by omega, rw_step1 HQ.out⟩
          case measure => simp [intOf]
        · go_wp2_with (go_at_call 127; (with_reducible refine HN.out.mono ?_); rintro e w' ⟨rfl, hrd, hg⟩; have HQ := Lib.hid (HR.out.next hrd hg); have hc : w'.cell? ⟨w.heap.size + 1, 2, none⟩ = some (.int .u32 0) := HQ.out.2.1.cell 2; have hf := HQ.out.2.1.free 2; clear hrd hg)
          go_roundw
          case rel => exact ⟨2 + 1, rfl, by omega, by omega, rw_step2 HQ.out⟩
          case measure => simp [intOf]
        · go_wp2_with (go_at_call 127; (with_reducible refine HN.out.mono ?_); rintro e w' ⟨rfl, hrd, hg⟩; have HQ := Lib.hid (HR.out.next hrd hg); have hc : w'.cell? ⟨w.heap.size + 1, 3, none⟩ = some (.int .u32 0) := HQ.out.2.1.cell 3; have hf := HQ.out.2.1.free 3; clear hrd hg)
          go_roundw
          case rel => exact ⟨3 + 1, rfl, by omega, by omega, rw_step3 HQ.out⟩
          case measure => simp [intOf]
        · go_wp2_with (go_at_call 127; (with_reducible refine HN.out.mono ?_); rintro e w' ⟨rfl, hrd, hg⟩; have HQ := Lib.hid (HR.out.next hrd hg); have hc : w'.cell? ⟨w.heap.size + 1, 4, none⟩ = some (.int .u32 0) := HQ.out.2.1.cell 4; have hf := HQ.out.2.1.free 4; clear hrd hg)
          go_roundw
          case rel => exact ⟨4 + 1, rfl, by omega, by omega, rw_step4 HQ.out⟩
          case measure => simp [intOf]
        · go_wp2_with (go_at_call 127; (with_reducible refine HN.out.mono ?_); rintro e w' ⟨rfl, hrd, hg⟩; have HQ := Lib.hid (HR.out.next hrd hg); have hc : w'.cell? ⟨w.heap.size + 1, 5, none⟩ = some (.int .u32 0) := HQ.out.2.1.cell 5; have hf := HQ.out.2.1.free 5; clear hrd hg)
          go_roundw
          case rel => exact ⟨5 + 1, rfl, by omega, by omega, rw_step5 HQ.out⟩
          case measure => simp [intOf]
    · obtain rfl : k = 6 := by omega
      have hl2 : Lies wr (w.heap.size + 1) 155 (ics (wdAt (bs s) 0) (wdAt (bs s) 1) (wdAt (bs s) 2) (wdAt (bs s) 3) (wdAt (bs s) 4) (wdAt (bs s) 5)) := hr.row
      obtain ⟨⟨c0, c1, c2, c3, c4, c5⟩, f0, f1, f2, f3, f4, f5⟩ := six_cells hr.res
      obtain ⟨⟨e0, e1, e2, e3, e4, e5⟩, _, _, _, _, _, _⟩ := six_cells hl2
      have HL := Lib.hid (six_set hr.res (wdAt (bs s) 0) (wdAt (bs s) 1) (wdAt (bs s) 2) (wdAt (bs s) 3) (wdAt (bs s) 4) (wdAt (bs s) 5))
      have HB := Lib.hid (six_below (g := w.heap.size) hr.below (Nat.le_refl _) (wdAt (bs s) 0) (wdAt (bs s) 1) (wdAt (bs s) 2) (wdAt (bs s) 3) (wdAt (bs s) 4) (wdAt (bs s) 5))
      have HV := Lib.hid (rwV_yes (s := s) (by omega))
      clear hr hl2
      go_wp2
      refine bodyPost_ret (ret_row2 rfl _ _ w.heap.size _ _ _ _ _ _ rfl HL.out) rfl ⟨?_, HB.out⟩
      rw [HV.out]
      rfl
end Go.Proofs.YtadeflehdfmilaaGreat
namespace Go.Proofs.YtadeflehdfmilaaGreat
open Go.RowKit
set_option linter.unusedVariables false

theorem six_0 (a b : Nat) (c d e f : Nat) (w : World) : (Instr.index 155 (.agg (wcs a b c d e f)) (.int .i64 0)).run Tryz.prog w = .ok (.int .u32 a) w := by kernel_rfl
theorem six_1 (a b : Nat) (c d e f : Nat) (w : World) : (Instr.index 155 (.agg (wcs a b c d e f)) (.int .i64 1)).run Tryz.prog w = .ok (.int .u32 b) w := by kernel_rfl
theorem six_2 (a b : Nat) (c d e f : Nat) (w : World) : (Instr.index 155 (.agg (wcs a b c d e f)) (.int .i64 2)).run Tryz.prog w = .ok (.int .u32 c) w := by kernel_rfl
theorem six_3 (a b : Nat) (c d e f : Nat) (w : World) : (Instr.index 155 (.agg (wcs a b c d e f)) (.int .i64 3)).run Tryz.prog w = .ok (.int .u32 d) w := by kernel_rfl
theorem six_4 (a b : Nat) (c d e f : Nat) (w : World) : (Instr.index 155 (.agg (wcs a b c d e f)) (.int .i64 4)).run Tryz.prog w = .ok (.int .u32 e) w := by kernel_rfl
theorem six_5 (a b : Nat) (c d e f : Nat) (w : World) : (Instr.index 155 (.agg (wcs a b c d e f)) (.int .i64 5)).run Tryz.prog w = .ok (.int .u32 f) w := by kernel_rfl
/-- The octets of the first k words. -/
def ocK (h : Hd) (k : Nat) : List UInt8 := ((wds h).take k).flatMap fun v => octs v 2
theorem wds_lt {h : Hd} (m : h.may) (hid : h.id < 65536) (k v : Nat) (hk : (wds h)[k]? = some v) : v < 65536 := by
  have h1 := fW_lt m 7
  obtain ⟨_, _, ⟨_, _⟩, ⟨_, _⟩, ⟨_, _⟩, ⟨_, _⟩⟩ := m
  have hv : v ∈ wds h := List.mem_of_getElem? hk
  simp only [wds, List.mem_cons, List.not_mem_nil, or_false] at hv
  rcases hv with rfl | rfl | rfl | rfl | rfl | rfl <;> first | exact hid | exact h1 | omega
theorem ocK_step {h : Hd} {k : Nat} (hk : k < (wds h).length) : ocK h (k + 1) = ocK h k ++ octs ((wds h)[k]) 2 := by
  unfold ocK
  rw [List.take_succ_eq_append_getElem hk, List.flatMap_append]
  simp
theorem ocK_len (h : Hd) : ∀ k, k ≤ 6 → (ocK h k).length = 2 * k := by
  intro k
  induction k with
  | zero => intro _; rfl
  | succ k ih => intro hk; rw [ocK_step (by simp [wds]; omega), List.length_append, octs_length, ih (by omega)]; omega
theorem ocK_all (h : Hd) : ocK h 6 = ocH h := by simp [ocK, wds, ocH]
theorem numW_two {l : List UInt8} {v : Nat} (hv : v < 65536) (hl : l.length + 2 ≤ 12) : numW 12 l 0 v 2 = ⟨0, l ++ octs v 2, 0⟩ := by
  unfold numW
  rw [if_neg (by omega), if_neg (by simp [room, isW, hv])]
  exact putW_ok (by rw [octs_length]; exact hl)
/-- The relation of Put's loop. -/
structure PtRel (h : Hd) (w wr : World) (g k : Nat) : Prop where
  row : WR wr g g 12 (ocK h k) 0
  below : Below w.heap.size w wr
  ge : w.heap.size ≤ g
theorem PtRel.step {h : Hd} {w wr w' : World} {g k v : Nat} (r : PtRel h w wr g k) (hk : k < 6) (hx : (wds h)[k]? = some v) (hW : WR w' g g 12 (ocK h k ++ octs v 2) 0) (hk' : Kp g g wr w') : PtRel h w w' g (k + 1) := by
  obtain ⟨h1, h2⟩ := List.getElem?_eq_some_iff.1 hx
  refine ⟨?_, r.below.trans (hk'.below.mono r.ge), r.ge⟩
  rw [ocK_step h1, h2]
  exact hW
theorem num_two {g v : Nat} {l : List UInt8} {w : World} (h : WR w g g 12 l 0) (hv : v < 65536) (hl : l.length + 2 ≤ 12) :
    Calls Tryz.prog 81 #[.pointer (some ⟨g, 0, none⟩), .int .u32 v, .int .i64 2] w (Wtr w g g 12 (l ++ octs v 2) 0 (.int .i64 0)) := by
  have := wNumber_any v 2 h (by omega) (Nat.le_refl _) (by omega) (by decide) (by omega)
  rw [numW_two hv hl] at this
  exact this
set_option maxHeartbeats 2000000 in
theorem Put_any (h : Hd) (hid : h.id < 65536) (w : World) :
    Calls Tryz.prog 98 #[hv h] w fun e w' => e = .returned (.tuple #[.string ⟨(ptV h).toArray⟩, .int .i64 (chkH h)]) ∧ Below w.heap.size w w' := by
  have HK := Lib.hid (hdCheck_any h)
  rcases hm : mayB h with _ | _
  · have HE : Hid (ptV h = []) := Lib.hid (by unfold ptV; rw [hm]; rfl)
    rw [chkH_bad hm] at HK ⊢
    unfold hv at HK ⊢
    go_enter Tryz.func98, Tryz.ntmps98
    go_wp2_with (go_at_call 59; refine (HK.out _).mono ?_; rintro e w1 ⟨rfl, hb⟩; have HB := Lib.hid hb; clear hb)
    go_ret2
    exact ⟨by rw [HE.out]; rfl, ((Below.refl _ _).alloc (Nat.le_refl _) _).trans (HB.out.mono (by simp))⟩
  · have m := mayB_yes.1 hm
    have HE : Hid (ptV h = ocH h) := Lib.hid (by unfold ptV; rw [hm]; rfl)
    have HW := Lib.hid (wordsOf_any h m hid)
    have HL := Lib.hid (fun k v hk => wds_lt m hid k v hk)
    rw [chkH_ok m] at HK ⊢
    have HNW := Lib.hid (fun wx => NewWriter_any 12 wx (by decide))
    obtain ⟨f, c0, c1, c2, c3, hwd, hwc⟩ : ∃ f c0 c1 c2 c3, wds h = [h.id, f, c0, c1, c2, c3] ∧ wcs h.id (fwd h) h.n0.toNat h.n1.toNat h.n2.toNat h.n3.toNat = wcs h.id f c0 c1 c2 c3 := ⟨_, _, _, _, _, rfl, rfl⟩
    rw [hwc] at HW
    have HWD := Lib.hid hwd
    clear hwd hwc
    have I0 := six_0 h.id f c0 c1 c2 c3
    have I1 := six_1 h.id f c0 c1 c2 c3
    have I2 := six_2 h.id f c0 c1 c2 c3
    have I3 := six_3 h.id f c0 c1 c2 c3
    have I4 := six_4 h.id f c0 c1 c2 c3
    have I5 := six_5 h.id f c0 c1 c2 c3
    clear m hm hid
    unfold hv at HK HW ⊢
    go_enter Tryz.func98, Tryz.ntmps98
    -- LOOP
    go_wp2_with (first | (go_at_call 59; refine (HK.out _).mono ?_; rintro e w1 ⟨rfl, hb⟩; have HB := Lib.hid (((Below.refl w.heap.size w).alloc (Nat.le_refl _) _).trans (hb.mono (by simp))); have HL1 := Lib.hid ((Lies.new w 50 (hcs h)).next hb); clear hb) | (go_at_call 35; refine (HNW.out _).mono ?_; rintro e w2 ⟨rfl, hwr, _, hb⟩; have HB2 := Lib.hid hb; have HWR := Lib.hid hwr; have hl2 := HL1.out.next hb; clear hb hwr) | (refine wpList_load_row rfl _ _ rfl _ rfl _ (hcs h) (0, 0) _ hl2 Tryz.underlying50 rfl (by kernel_rfl) ?_) | (go_at_call 125; refine (HW.out _).mono ?_; rintro e w3 ⟨rfl, hb⟩; have HB3 := Lib.hid hb; clear hb))
    have HR0 : Hid (PtRel h w w3 w1.heap.size 0) := Lib.hid ⟨HWR.out.next HB3.out, HB.out.trans ((HB2.out.trans (HB3.out.mono HB2.out.size)).mono HB.out.size), HB.out.size⟩
    clear HB HB2 HB3 HWR hl2 HL1 HK HW HNW
    obtain ⟨g, hg⟩ : ∃ g, g = w1.heap.size := ⟨_, rfl⟩
    rw [← hg] at HR0 ⊢
    clear hg
    go_loopw [17] (fun i wr => ∃ k : Nat, i = .int .i64 k ∧ k ≤ 6 ∧ PtRel h w wr g k) (fun i _ => 6 - (intOf i).toNat)
    case atStart => exact ⟨0, rfl, by omega, HR0.out⟩
    case round =>
      clear HR0
      obtain ⟨k, rfl, hk, hr⟩ := hrel
      have HR := Lib.hid hr
      clear hr
      rcases Nat.lt_or_ge k 6 with hlt | hge
      · obtain rfl | rfl | rfl | rfl | rfl | rfl : k = 0 ∨ k = 1 ∨ k = 2 ∨ k = 3 ∨ k = 4 ∨ k = 5 := by omega
        · have HX : Hid ((wds h)[0]? = some h.id) := Lib.hid (by rw [HWD.out]; rfl)
          have HN := Lib.hid (num_two (v := h.id) HR.out.row (HL.out _ _ HX.out) (by rw [ocK_len h 0 (by omega)]; omega))
          go_wp2_with (go_at_call 81; (with_reducible refine HN.out.mono ?_); rintro e w' ⟨rfl, hwr, hkp⟩; have HWR := Lib.hid hwr; have HKP := Lib.hid hkp; clear hwr hkp)
          go_roundw
          case rel => exact ⟨0 + 1, rfl, by omega, HR.out.step (by omega) HX.out HWR.out HKP.out⟩
          case measure => simp [intOf]
        · have HX : Hid ((wds h)[1]? = some f) := Lib.hid (by rw [HWD.out]; rfl)
          have HN := Lib.hid (num_two (v := f) HR.out.row (HL.out _ _ HX.out) (by rw [ocK_len h 1 (by omega)]; omega))
          go_wp2_with (go_at_call 81; (with_reducible refine HN.out.mono ?_); rintro e w' ⟨rfl, hwr, hkp⟩; have HWR := Lib.hid hwr; have HKP := Lib.hid hkp; clear hwr hkp)
          go_roundw
          case rel => exact ⟨1 + 1, rfl, by omega, HR.out.step (by omega) HX.out HWR.out HKP.out⟩
          case measure => simp [intOf]
        · have HX : Hid ((wds h)[2]? = some c0) := Lib.hid (by rw [HWD.out]; rfl)
          have HN := Lib.hid (num_two (v := c0) HR.out.row (HL.out _ _ HX.out) (by rw [ocK_len h 2 (by omega)]; omega))
          go_wp2_with (go_at_call 81; (with_reducible refine HN.out.mono ?_); rintro e w' ⟨rfl, hwr, hkp⟩; have HWR := Lib.hid hwr; have HKP := Lib.hid hkp; clear hwr hkp)
          go_roundw
          case rel => exact ⟨2 + 1, rfl, by omega, HR.out.step (by omega) HX.out HWR.out HKP.out⟩
          case measure => simp [intOf]
        · have HX : Hid ((wds h)[3]? = some c1) := Lib.hid (by rw [HWD.out]; rfl)
          have HN := Lib.hid (num_two (v := c1) HR.out.row (HL.out _ _ HX.out) (by rw [ocK_len h 3 (by omega)]; omega))
          go_wp2_with (go_at_call 81; (with_reducible refine HN.out.mono ?_); rintro e w' ⟨rfl, hwr, hkp⟩; have HWR := Lib.hid hwr; have HKP := Lib.hid hkp; clear hwr hkp)
          go_roundw
          case rel => exact ⟨3 + 1, rfl, by omega, HR.out.step (by omega) HX.out HWR.out HKP.out⟩
          case measure => simp [intOf]
        · have HX : Hid ((wds h)[4]? = some c2) := Lib.hid (by rw [HWD.out]; rfl)
          have HN := Lib.hid (num_two (v := c2) HR.out.row (HL.out _ _ HX.out) (by rw [ocK_len h 4 (by omega)]; omega))
          go_wp2_with (go_at_call 81; (with_reducible refine HN.out.mono ?_); rintro e w' ⟨rfl, hwr, hkp⟩; have HWR := Lib.hid hwr; have HKP := Lib.hid hkp; clear hwr hkp)
          go_roundw
          case rel => exact ⟨4 + 1, rfl, by omega, HR.out.step (by omega) HX.out HWR.out HKP.out⟩
          case measure => simp [intOf]
        · have HX : Hid ((wds h)[5]? = some c3) := Lib.hid (by rw [HWD.out]; rfl)
          have HN := Lib.hid (num_two (v := c3) HR.out.row (HL.out _ _ HX.out) (by rw [ocK_len h 5 (by omega)]; omega))
          go_wp2_with (go_at_call 81; (with_reducible refine HN.out.mono ?_); rintro e w' ⟨rfl, hwr, hkp⟩; have HWR := Lib.hid hwr; have HKP := Lib.hid hkp; clear hwr hkp)
          go_roundw
          case rel => exact ⟨5 + 1, rfl, by omega, HR.out.step (by omega) HX.out HWR.out HKP.out⟩
          case measure => simp [intOf]
      · obtain rfl : k = 6 := by omega
        have HT := Lib.hid (wText_any HR.out.row)
        rw [ocK_all] at HT
        go_wp2_with (go_at_call 47; refine HT.out.mono ?_; rintro e w' ⟨rfl, rfl⟩)
        go_ret2
        exact ⟨by rw [HE.out]; rfl, HR.out.below⟩
end Go.Proofs.YtadeflehdfmilaaGreat
namespace Go.Proofs.YtadeflehdfmilaaGreat
open Go.RowKit
set_option linter.unusedVariables false

set_option maxHeartbeats 1000000 in
theorem ints_equal (d : Nat) (a0 a1 a2 a3 b0 b1 b2 b3 : Int) (w : World) : (Op.equalIn (d + 1 + 1) 48 (.agg #[.int .i64 a0, .int .i64 a1, .int .i64 a2, .int .i64 a3]) (.agg #[.int .i64 b0, .int .i64 b1, .int .i64 b2, .int .i64 b3])).run Tryz.prog w = .ok (decide (a0 = b0 ∧ a1 = b1 ∧ a2 = b2 ∧ a3 = b3)) w := by
  obtain ⟨i, hi⟩ := Option.isSome_iff_exists.1 (show (Tryz.prog.info? 3).isSome = true by kernel_rfl)
  have hc : Tryz.prog.cellsOf 3 = 1 := by kernel_rfl
  rw [run_equalIn_array w (d + 1) _ _ Tryz.underlying48 hi, hc]
  simp only [show List.range 4 = [0, 1, 2, 3] from rfl, Op.eqItems]
  go_simp
  by_cases h0 : a0 = b0
  · by_cases h1 : a1 = b1
    · by_cases h2 : a2 = b2
      · by_cases h3 : a3 = b3
        · simp [h0, h1, h2, h3]
        · simp [h0, h1, h2, h3]
      · simp [h0, h1, h2]
    · simp [h0, h1]
  · simp [h0]
set_option maxHeartbeats 1000000 in
theorem hd_equal (a b : Hd) (w : World) : ((Op.equalIn 10000 50 (hv a) (hv b)).run Tryz.prog w) = .ok (decide (a = b)) w := by
  have hS : Tryz.prog.underlying 50 = some (.struct (Tryz.prog.fieldsOf 50)) := by kernel_rfl
  have hp : Tryz.prog.stoodInHeld 50 = false := by kernel_rfl
  unfold hv
  rw [show (10000 : Nat) = 9999 + 1 from rfl, run_equalIn_agg w 9999 50 _ _ hS hp]
  simp only [Program.fieldsOf, Tryz.underlying50]
  go_simp
  rw [show (9999 : Nat) = 9997 + 1 + 1 from rfl, ints_equal 9997]
  obtain ⟨a0, a1, a2, a3, a4, a5, a6, a7, a8, a9, c0, c1, c2, c3⟩ := a
  obtain ⟨b0, b1, b2, b3, b4, b5, b6, b7, b8, b9, d0, d1, d2, d3⟩ := b
  simp only [Hd.mk.injEq]
  by_cases h0 : a0 = b0
  · by_cases h1 : a1 = b1
    · by_cases h2 : a2 = b2
      · by_cases h3 : a3 = b3
        · by_cases h4 : a4 = b4
          · by_cases h5 : a5 = b5
            · by_cases h6 : a6 = b6
              · by_cases h7 : a7 = b7
                · by_cases h8 : a8 = b8
                  · by_cases h9 : a9 = b9
                    · by_cases hc : c0 = d0 ∧ c1 = d1 ∧ c2 = d2 ∧ c3 = d3
                      · simp [h0, h1, h2, h3, h4, h5, h6, h7, h8, h9, hc]
                      · simp [h0, h1, h2, h3, h4, h5, h6, h7, h8, h9, hc]
                    · simp [h0, h1, h2, h3, h4, h5, h6, h7, h8, h9]
                  · simp [h0, h1, h2, h3, h4, h5, h6, h7, h8]
                · simp [h0, h1, h2, h3, h4, h5, h6, h7]
              · simp [h0, h1, h2, h3, h4, h5, h6]
            · simp [h0, h1, h2, h3, h4, h5]
          · simp [h0, h1, h2, h3, h4]
        · simp [h0, h1, h2, h3]
      · simp [h0, h1, h2]
    · simp [h0, h1]
  · have : ¬ (a0 : Int) = b0 := by omega
    simp [h0, this]
theorem ints_four (a0 a1 a2 a3 b0 b1 b2 b3 : Int) (w : World) : (Op.equalIn 10000 48 (.agg #[.int .i64 a0, .int .i64 a1, .int .i64 a2, .int .i64 a3]) (.agg #[.int .i64 b0, .int .i64 b1, .int .i64 b2, .int .i64 b3])).run Tryz.prog w = .ok (decide (a0 = b0 ∧ a1 = b1 ∧ a2 = b2 ∧ a3 = b3)) w := ints_equal 9998 a0 a1 a2 a3 b0 b1 b2 b3 w
theorem hd_neq (a b : Hd) (w : World) : (binOp .neq 50 (hv a) (hv b)).run Tryz.prog w = .ok (.bool (!decide (a = b))) w := by
  have h := hd_equal a b w
  unfold hv at h ⊢
  rw [run_neq_struct, h]
  rfl
end Go.Proofs.YtadeflehdfmilaaGreat
