/-
  header.ofWords, header.Read: the walks. Conditions: as each theorem names them.
-/
import Derived.Test.YtadeflehdfmilaaGreatZk39
namespace Go.Proofs.YtadeflehdfmilaaGreat
open Go.RowKit
set_option linter.unusedVariables false

theorem hd_set {w : World} {g : Nat} {a : Hd} (h : Lies w g 50 (hcs a)) (b : Hd) : Lies ((((((((((((((w.setCell ⟨g, 0, none⟩ (.int .u16 b.id)).setCell ⟨g, 1, none⟩ (.bool b.re)).setCell ⟨g, 2, none⟩ (.int .i64 b.op)).setCell ⟨g, 3, none⟩ (.bool b.aa)).setCell ⟨g, 4, none⟩ (.bool b.tc)).setCell ⟨g, 5, none⟩ (.bool b.rd)).setCell ⟨g, 6, none⟩ (.bool b.ra)).setCell ⟨g, 7, none⟩ (.bool b.ad)).setCell ⟨g, 8, none⟩ (.bool b.cd)).setCell ⟨g, 9, none⟩ (.int .i64 b.rc)).setCell ⟨g, 10, none⟩ (.int .i64 b.n0)).setCell ⟨g, 11, none⟩ (.int .i64 b.n1)).setCell ⟨g, 12, none⟩ (.int .i64 b.n2)).setCell ⟨g, 13, none⟩ (.int .i64 b.n3)) g 50 (hcs b) := by
  have e : hcs b = ((((((((((((((hcs a).setIfInBounds 0 (.int .u16 b.id)).setIfInBounds 1 (.bool b.re)).setIfInBounds 2 (.int .i64 b.op)).setIfInBounds 3 (.bool b.aa)).setIfInBounds 4 (.bool b.tc)).setIfInBounds 5 (.bool b.rd)).setIfInBounds 6 (.bool b.ra)).setIfInBounds 7 (.bool b.ad)).setIfInBounds 8 (.bool b.cd)).setIfInBounds 9 (.int .i64 b.rc)).setIfInBounds 10 (.int .i64 b.n0)).setIfInBounds 11 (.int .i64 b.n1)).setIfInBounds 12 (.int .i64 b.n2)).setIfInBounds 13 (.int .i64 b.n3) := by kernel_rfl
  rw [e]
  exact (((((((((((((h.set 0 _).set 1 _).set 2 _).set 3 _).set 4 _).set 5 _).set 6 _).set 7 _).set 8 _).set 9 _).set 10 _).set 11 _).set 12 _).set 13 _
theorem hd_below {w w1 : World} {g k : Nat} (h : Below k w w1) (hg : k ≤ g) (b : Hd) : Below k w ((((((((((((((w1.setCell ⟨g, 0, none⟩ (.int .u16 b.id)).setCell ⟨g, 1, none⟩ (.bool b.re)).setCell ⟨g, 2, none⟩ (.int .i64 b.op)).setCell ⟨g, 3, none⟩ (.bool b.aa)).setCell ⟨g, 4, none⟩ (.bool b.tc)).setCell ⟨g, 5, none⟩ (.bool b.rd)).setCell ⟨g, 6, none⟩ (.bool b.ra)).setCell ⟨g, 7, none⟩ (.bool b.ad)).setCell ⟨g, 8, none⟩ (.bool b.cd)).setCell ⟨g, 9, none⟩ (.int .i64 b.rc)).setCell ⟨g, 10, none⟩ (.int .i64 b.n0)).setCell ⟨g, 11, none⟩ (.int .i64 b.n1)).setCell ⟨g, 12, none⟩ (.int .i64 b.n2)).setCell ⟨g, 13, none⟩ (.int .i64 b.n3)) :=
  (((((((((((((h.setCell hg _).setCell hg _).setCell hg _).setCell hg _).setCell hg _).setCell hg _).setCell hg _).setCell hg _).setCell hg _).setCell hg _).setCell hg _).setCell hg _).setCell hg _).setCell hg _
theorem hd_cells {w : World} {g : Nat} {a : Hd} (h : Lies w g 50 (hcs a)) :
    (w.cell? ⟨g, 0, none⟩ = some (.int .u16 a.id) ∧ w.cell? ⟨g, 1, none⟩ = some (.bool a.re) ∧ w.cell? ⟨g, 2, none⟩ = some (.int .i64 a.op) ∧ w.cell? ⟨g, 3, none⟩ = some (.bool a.aa) ∧ w.cell? ⟨g, 4, none⟩ = some (.bool a.tc) ∧ w.cell? ⟨g, 5, none⟩ = some (.bool a.rd) ∧ w.cell? ⟨g, 6, none⟩ = some (.bool a.ra) ∧ w.cell? ⟨g, 7, none⟩ = some (.bool a.ad) ∧ w.cell? ⟨g, 8, none⟩ = some (.bool a.cd) ∧ w.cell? ⟨g, 9, none⟩ = some (.int .i64 a.rc) ∧ w.cell? ⟨g, 10, none⟩ = some (.int .i64 a.n0) ∧ w.cell? ⟨g, 11, none⟩ = some (.int .i64 a.n1) ∧ w.cell? ⟨g, 12, none⟩ = some (.int .i64 a.n2) ∧ w.cell? ⟨g, 13, none⟩ = some (.int .i64 a.n3)) ∧
    w.frozen? ⟨g, 0, none⟩ = false ∧ w.frozen? ⟨g, 1, none⟩ = false ∧ w.frozen? ⟨g, 2, none⟩ = false ∧ w.frozen? ⟨g, 3, none⟩ = false ∧ w.frozen? ⟨g, 4, none⟩ = false ∧ w.frozen? ⟨g, 5, none⟩ = false ∧ w.frozen? ⟨g, 6, none⟩ = false ∧ w.frozen? ⟨g, 7, none⟩ = false ∧ w.frozen? ⟨g, 8, none⟩ = false ∧ w.frozen? ⟨g, 9, none⟩ = false ∧ w.frozen? ⟨g, 10, none⟩ = false ∧ w.frozen? ⟨g, 11, none⟩ = false ∧ w.frozen? ⟨g, 12, none⟩ = false ∧ w.frozen? ⟨g, 13, none⟩ = false :=
  ⟨⟨h.cell 0, h.cell 1, h.cell 2, h.cell 3, h.cell 4, h.cell 5, h.cell 6, h.cell 7, h.cell 8, h.cell 9, h.cell 10, h.cell 11, h.cell 12, h.cell 13⟩, h.free 0, h.free 1, h.free 2, h.free 3, h.free 4, h.free 5, h.free 6, h.free 7, h.free 8, h.free 9, h.free 10, h.free 11, h.free 12, h.free 13⟩
theorem hd_one {fn : Func} {p : Tmp} (h : fn.results = #[.cell p 50]) (tmps : Array Value) (w : World) (g : Nat) (a : Hd) (hp : tmps.getD p undef = .pointer (some ⟨g, 0, none⟩)) (hg : Lies w g 50 (hcs a)) :
    (results fn tmps).run Tryz.prog w = .ok (hv a) w :=
  results_cell_row h tmps w g _ _ _ _ hp hg Tryz.underlying50 rfl (by kernel_rfl)
theorem hd_two {fn : Func} {p u : Tmp} (h : fn.results = #[.cell p 50, .tmp u]) (tmps : Array Value) (w : World) (g : Nat) (a : Hd) (hp : tmps.getD p undef = .pointer (some ⟨g, 0, none⟩)) (hg : Lies w g 50 (hcs a)) :
    (results fn tmps).run Tryz.prog w = .ok (.tuple #[hv a, tmps.getD u undef]) w := by
  rw [results_cell_tmp h, hp]
  simp only [asAddr, Sem.run_pure, Result.andThen_ok]
  rw [run_loadVar_row w g _ _ _ _ _ hg Tryz.underlying50 rfl (by kernel_rfl)]
  rfl
/-- The header behind k flags and n counts. -/
def ofK (i f a b c d k n : Nat) : Hd := ⟨i, if 0 < k then bit f 32768 else false, ((f / 2048 % 16 : Nat) : Int), if 1 < k then bit f 1024 else false, if 2 < k then bit f 512 else false, if 3 < k then bit f 256 else false, if 4 < k then bit f 128 else false, if 5 < k then bit f 32 else false, if 6 < k then bit f 16 else false, ((f % 16 : Nat) : Int), if 0 < n then (a : Int) else 0, if 1 < n then (b : Int) else 0, if 2 < n then (c : Int) else 0, if 3 < n then (d : Int) else 0⟩
theorem ofK_all (i f a b c d : Nat) : ofK i f a b c d 7 4 = ofW i f a b c d := rfl
theorem and_pow (f i : Nat) : f &&& 2 ^ i = (f.testBit i).toNat * 2 ^ i := by
  apply Nat.eq_of_testBit_eq
  intro j
  rw [Nat.testBit_and, Nat.testBit_two_pow]
  by_cases hij : i = j
  · subst hij
    cases h : f.testBit i <;> simp
  · cases h : f.testBit i <;> simp [hij]
theorem nz (p : Nat) (hp : 0 < p) : (((1 * p : Nat) : Int) != 0) = true := by
  rw [bne_iff_ne]; omega
theorem and_bit (f i : Nat) (hf : f < 4294967296) (hi : 2 ^ i < 4294967296) : (bits BinOp.and IntKind.u32 (f : Int) ((2 ^ i : Nat) : Int) != 0) = bit f (2 ^ i) := by
  rw [u32_and_nat f (2 ^ i) hf hi]
  have h1 : f &&& 2 ^ i = (f.testBit i).toNat * 2 ^ i := and_pow f i
  have h2 : f.testBit i = decide (f / 2 ^ i % 2 = 1) := Nat.testBit_eq_decide_div_mod_eq
  rw [h1, h2]
  unfold bit
  have hp : 0 < 2 ^ i := Nat.two_pow_pos i
  cases decide (f / 2 ^ i % 2 = 1)
  · simp
  · exact nz _ hp
theorem and_15 (f : Nat) (hf : f < 4294967296) : bits BinOp.and IntKind.u32 (f : Int) 15 = ((f % 16 : Nat) : Int) := by
  rw [show (15 : Int) = ((15 : Nat) : Int) from rfl, u32_and_nat f 15 hf (by decide)]
  exact congrArg _ (Nat.and_two_pow_sub_one_eq_mod f 4)
/-- The relation of the loops. -/
structure OfRel (i f a b c d : Nat) (w wr : World) (k n : Nat) : Prop where
  row : Lies wr w.heap.size 155 (ics i f a b c d)
  res : Lies wr (w.heap.size + 1) 50 (hcs noH)
  hd : Lies wr (w.heap.size + 1 + 1) 50 (hcs (ofK i f a b c d k n))
  tab : Lies wr (w.heap.size + 1 + 1 + 1) 194 (flT (w.heap.size + 1 + 1))
  below : Below w.heap.size w wr
theorem of_start {i f a b c d : Nat} {w w1 W : World} {cs : Array Value} (hW : W = ((w.alloc (.cells (ics i f a b c d) 155)).alloc (.cells (hcs noH) 50)).alloc (.cells cs 50)) (hc : cs = hcs (ofK i f a b c d 0 0))
    (ht : w1.heap[W.heap.size]? = some (.cells (flT (w.heap.size + 1 + 1)) 194 (0, 0))) (hb : Below W.heap.size W w1) : OfRel i f a b c d w w1 0 0 := by
  subst hW hc
  have hs : (((w.alloc (.cells (ics i f a b c d) 155)).alloc (.cells (hcs noH) 50)).alloc (.cells (hcs (ofK i f a b c d 0 0)) 50)).heap.size = w.heap.size + 1 + 1 + 1 := by simp
  rw [hs] at ht
  have z1 : (w.alloc (.cells (ics i f a b c d) 155)).heap.size = w.heap.size + 1 := by simp
  have z2 : ((w.alloc (.cells (ics i f a b c d) 155)).alloc (.cells (hcs noH) 50)).heap.size = w.heap.size + 1 + 1 := by simp
  have l1 := (((Lies.new w 155 (ics i f a b c d)).alloc (.cells (hcs noH) 50)).alloc (.cells (hcs (ofK i f a b c d 0 0)) 50)).next hb
  have l2 := ((Lies.new (w.alloc (.cells (ics i f a b c d) 155)) 50 (hcs noH)).alloc (.cells (hcs (ofK i f a b c d 0 0)) 50)).next hb
  have l3 := (Lies.new ((w.alloc (.cells (ics i f a b c d) 155)).alloc (.cells (hcs noH) 50)) 50 (hcs (ofK i f a b c d 0 0))).next hb
  rw [z1] at l2
  rw [z2] at l3
  exact ⟨l1, l2, l3, ht, ((((Below.refl _ _).alloc (Nat.le_refl _) _).alloc (by simp) _).alloc (by simp; omega) _).trans (hb.mono (by rw [hs]; omega))⟩
theorem of_flag0 {i f a b c d : Nat} {w wr : World} (r : OfRel i f a b c d w wr 0 0) (ob : Obj) : OfRel i f a b c d w ((wr.setCell ⟨w.heap.size + 1 + 1, 1, none⟩ (.bool (bit f 32768))).alloc ob) (0 + 1) 0 :=
  have hb : Below w.heap.size w (wr.setCell ⟨w.heap.size + 1 + 1, 1, none⟩ (.bool (bit f 32768))) := r.below.setCell (by simp; omega) _
  ⟨(r.row.setOther (by omega) _).alloc ob, (r.res.setOther (by omega) _).alloc ob, (r.hd.set 1 _).alloc ob, (r.tab.setOther (by omega) _).alloc ob, hb.alloc hb.size ob⟩
theorem of_flag1 {i f a b c d : Nat} {w wr : World} (r : OfRel i f a b c d w wr 1 0) (ob : Obj) : OfRel i f a b c d w ((wr.setCell ⟨w.heap.size + 1 + 1, 3, none⟩ (.bool (bit f 1024))).alloc ob) (1 + 1) 0 :=
  have hb : Below w.heap.size w (wr.setCell ⟨w.heap.size + 1 + 1, 3, none⟩ (.bool (bit f 1024))) := r.below.setCell (by simp; omega) _
  ⟨(r.row.setOther (by omega) _).alloc ob, (r.res.setOther (by omega) _).alloc ob, (r.hd.set 3 _).alloc ob, (r.tab.setOther (by omega) _).alloc ob, hb.alloc hb.size ob⟩
theorem of_flag2 {i f a b c d : Nat} {w wr : World} (r : OfRel i f a b c d w wr 2 0) (ob : Obj) : OfRel i f a b c d w ((wr.setCell ⟨w.heap.size + 1 + 1, 4, none⟩ (.bool (bit f 512))).alloc ob) (2 + 1) 0 :=
  have hb : Below w.heap.size w (wr.setCell ⟨w.heap.size + 1 + 1, 4, none⟩ (.bool (bit f 512))) := r.below.setCell (by simp; omega) _
  ⟨(r.row.setOther (by omega) _).alloc ob, (r.res.setOther (by omega) _).alloc ob, (r.hd.set 4 _).alloc ob, (r.tab.setOther (by omega) _).alloc ob, hb.alloc hb.size ob⟩
theorem of_flag3 {i f a b c d : Nat} {w wr : World} (r : OfRel i f a b c d w wr 3 0) (ob : Obj) : OfRel i f a b c d w ((wr.setCell ⟨w.heap.size + 1 + 1, 5, none⟩ (.bool (bit f 256))).alloc ob) (3 + 1) 0 :=
  have hb : Below w.heap.size w (wr.setCell ⟨w.heap.size + 1 + 1, 5, none⟩ (.bool (bit f 256))) := r.below.setCell (by simp; omega) _
  ⟨(r.row.setOther (by omega) _).alloc ob, (r.res.setOther (by omega) _).alloc ob, (r.hd.set 5 _).alloc ob, (r.tab.setOther (by omega) _).alloc ob, hb.alloc hb.size ob⟩
theorem of_flag4 {i f a b c d : Nat} {w wr : World} (r : OfRel i f a b c d w wr 4 0) (ob : Obj) : OfRel i f a b c d w ((wr.setCell ⟨w.heap.size + 1 + 1, 6, none⟩ (.bool (bit f 128))).alloc ob) (4 + 1) 0 :=
  have hb : Below w.heap.size w (wr.setCell ⟨w.heap.size + 1 + 1, 6, none⟩ (.bool (bit f 128))) := r.below.setCell (by simp; omega) _
  ⟨(r.row.setOther (by omega) _).alloc ob, (r.res.setOther (by omega) _).alloc ob, (r.hd.set 6 _).alloc ob, (r.tab.setOther (by omega) _).alloc ob, hb.alloc hb.size ob⟩
theorem of_flag5 {i f a b c d : Nat} {w wr : World} (r : OfRel i f a b c d w wr 5 0) (ob : Obj) : OfRel i f a b c d w ((wr.setCell ⟨w.heap.size + 1 + 1, 7, none⟩ (.bool (bit f 32))).alloc ob) (5 + 1) 0 :=
  have hb : Below w.heap.size w (wr.setCell ⟨w.heap.size + 1 + 1, 7, none⟩ (.bool (bit f 32))) := r.below.setCell (by simp; omega) _
  ⟨(r.row.setOther (by omega) _).alloc ob, (r.res.setOther (by omega) _).alloc ob, (r.hd.set 7 _).alloc ob, (r.tab.setOther (by omega) _).alloc ob, hb.alloc hb.size ob⟩
theorem of_flag6 {i f a b c d : Nat} {w wr : World} (r : OfRel i f a b c d w wr 6 0) (ob : Obj) : OfRel i f a b c d w ((wr.setCell ⟨w.heap.size + 1 + 1, 8, none⟩ (.bool (bit f 16))).alloc ob) (6 + 1) 0 :=
  have hb : Below w.heap.size w (wr.setCell ⟨w.heap.size + 1 + 1, 8, none⟩ (.bool (bit f 16))) := r.below.setCell (by simp; omega) _
  ⟨(r.row.setOther (by omega) _).alloc ob, (r.res.setOther (by omega) _).alloc ob, (r.hd.set 8 _).alloc ob, (r.tab.setOther (by omega) _).alloc ob, hb.alloc hb.size ob⟩
theorem of_count0 {i f a b c d : Nat} {w wr : World} (r : OfRel i f a b c d w wr 7 0) : OfRel i f a b c d w (wr.setCell ⟨w.heap.size + 1 + 1, 10, none⟩ (.int .i64 a)) 7 (0 + 1) :=
  ⟨r.row.setOther (by omega) _, r.res.setOther (by omega) _, r.hd.set 10 _, r.tab.setOther (by omega) _, r.below.setCell (by simp; omega) _⟩
theorem of_count1 {i f a b c d : Nat} {w wr : World} (r : OfRel i f a b c d w wr 7 1) : OfRel i f a b c d w (wr.setCell ⟨w.heap.size + 1 + 1, 11, none⟩ (.int .i64 b)) 7 (1 + 1) :=
  ⟨r.row.setOther (by omega) _, r.res.setOther (by omega) _, r.hd.set 11 _, r.tab.setOther (by omega) _, r.below.setCell (by simp; omega) _⟩
theorem of_count2 {i f a b c d : Nat} {w wr : World} (r : OfRel i f a b c d w wr 7 2) : OfRel i f a b c d w (wr.setCell ⟨w.heap.size + 1 + 1, 12, none⟩ (.int .i64 c)) 7 (2 + 1) :=
  ⟨r.row.setOther (by omega) _, r.res.setOther (by omega) _, r.hd.set 12 _, r.tab.setOther (by omega) _, r.below.setCell (by simp; omega) _⟩
theorem of_count3 {i f a b c d : Nat} {w wr : World} (r : OfRel i f a b c d w wr 7 3) : OfRel i f a b c d w (wr.setCell ⟨w.heap.size + 1 + 1, 13, none⟩ (.int .i64 d)) 7 (3 + 1) :=
  ⟨r.row.setOther (by omega) _, r.res.setOther (by omega) _, r.hd.set 13 _, r.tab.setOther (by omega) _, r.below.setCell (by simp; omega) _⟩
set_option maxHeartbeats 4000000 in
theorem ofWords_any (i f a b c d : Nat) (w : World) (hi : i < 65536) (hf : f < 65536) (ha : a < 65536) (hb : b < 65536) (hc : c < 65536) (hd : d < 65536) :
    Calls Tryz.prog 101 #[.agg (ics i f a b c d)] w fun e w' => e = .returned (hv (ofW i f a b c d)) ∧ Below w.heap.size w w' := by
  have h1 : bits BinOp.and IntKind.u32 ((f : Int) / 2048) 15 = ((f / 2048 % 16 : Nat) : Int) := and_15 (f / 2048) (by omega)
  have h2 : bits BinOp.and IntKind.u32 (f : Int) 15 = ((f % 16 : Nat) : Int) := and_15 f (by omega)
  have y1 := Nat.mod_lt (f / 2048) (show 0 < 16 by omega)
  have y2 := Nat.mod_lt f (show 0 < 16 by omega)
  have B0 : Hid ((bits BinOp.and IntKind.u32 (f : Int) 32768 != 0) = bit f 32768) := Lib.hid (and_bit f 15 (by omega) (by decide))
  have B1 : Hid ((bits BinOp.and IntKind.u32 (f : Int) 1024 != 0) = bit f 1024) := Lib.hid (and_bit f 10 (by omega) (by decide))
  have B2 : Hid ((bits BinOp.and IntKind.u32 (f : Int) 512 != 0) = bit f 512) := Lib.hid (and_bit f 9 (by omega) (by decide))
  have B3 : Hid ((bits BinOp.and IntKind.u32 (f : Int) 256 != 0) = bit f 256) := Lib.hid (and_bit f 8 (by omega) (by decide))
  have B4 : Hid ((bits BinOp.and IntKind.u32 (f : Int) 128 != 0) = bit f 128) := Lib.hid (and_bit f 7 (by omega) (by decide))
  have B5 : Hid ((bits BinOp.and IntKind.u32 (f : Int) 32 != 0) = bit f 32) := Lib.hid (and_bit f 5 (by omega) (by decide))
  have B6 : Hid ((bits BinOp.and IntKind.u32 (f : Int) 16 != 0) = bit f 16) := Lib.hid (and_bit f 4 (by omega) (by decide))
  obtain ⟨p, hp⟩ : ∃ p, p = f / 2048 % 16 := ⟨_, rfl⟩
  obtain ⟨q, hq⟩ : ∃ q, q = f % 16 := ⟨_, rfl⟩
  rw [← hp] at h1 y1
  rw [← hq] at h2 y2
  have HPQ := Lib.hid (And.intro hp hq)
  clear hp hq
  unfold ics
  go_enter Tryz.func101, Tryz.ntmps101
  go_wp2_with (go_at_call 128; refine (flagsOf_any _ _).mono ?_; rintro e w1 ⟨rfl, ht, hb⟩; have HT := Lib.hid ht; have HB := Lib.hid hb; clear ht hb)
  have HR0 : Hid (OfRel i f a b c d w w1 0 0) := Lib.hid (of_start rfl (by obtain ⟨e1, e2⟩ := HPQ.out; subst e1 e2; rfl) HT.out HB.out)
  clear HT HB h1 h2 y1 y2
  go_loopw [24] (fun x wr => ∃ k : Nat, x = .int .i64 k ∧ k ≤ 7 ∧ OfRel i f a b c d w wr k 0) (fun x _ => 7 - (intOf x).toNat)
  case atStart => exact ⟨0, rfl, by omega, HR0.out⟩
  case round =>
    clear HR0
    obtain ⟨k, rfl, hk, hr⟩ := hrel
    have HR := Lib.hid hr
    rcases Nat.lt_or_ge k 7 with hlt | hge
    · have z1 := hr.hd.lt
      have z3 := hr.tab.lt
      clear hr
      obtain rfl | rfl | rfl | rfl | rfl | rfl | rfl : k = 0 ∨ k = 1 ∨ k = 2 ∨ k = 3 ∨ k = 4 ∨ k = 5 ∨ k = 6 := by omega
      · have c2 : wr.cell? ⟨w.heap.size + 1 + 1 + 1, 0, none⟩ = some (.int .u32 32768) := HR.out.tab.cell 0
        have c3 : wr.cell? ⟨w.heap.size + 1 + 1 + 1, 1, none⟩ = some (.pointer (some ⟨w.heap.size + 1 + 1, 1, none⟩)) := HR.out.tab.cell 1
        have c4 : wr.cell? ⟨w.heap.size + 1 + 1, 1, none⟩ = some (.bool false) := HR.out.hd.cell 1
        have c5 := HR.out.hd.free 1
        have BB := B0.out
        clear B0 B1 B2 B3 B4 B5 B6
        go_wp2
        go_roundw
        case rel => exact ⟨0 + 1, rfl, by omega, of_flag0 HR.out _⟩
        case measure => simp [intOf]
      · have c2 : wr.cell? ⟨w.heap.size + 1 + 1 + 1, 2, none⟩ = some (.int .u32 1024) := HR.out.tab.cell 2
        have c3 : wr.cell? ⟨w.heap.size + 1 + 1 + 1, 3, none⟩ = some (.pointer (some ⟨w.heap.size + 1 + 1, 3, none⟩)) := HR.out.tab.cell 3
        have c4 : wr.cell? ⟨w.heap.size + 1 + 1, 3, none⟩ = some (.bool false) := HR.out.hd.cell 3
        have c5 := HR.out.hd.free 3
        have BB := B1.out
        clear B0 B1 B2 B3 B4 B5 B6
        go_wp2
        go_roundw
        case rel => exact ⟨1 + 1, rfl, by omega, of_flag1 HR.out _⟩
        case measure => simp [intOf]
      · have c2 : wr.cell? ⟨w.heap.size + 1 + 1 + 1, 4, none⟩ = some (.int .u32 512) := HR.out.tab.cell 4
        have c3 : wr.cell? ⟨w.heap.size + 1 + 1 + 1, 5, none⟩ = some (.pointer (some ⟨w.heap.size + 1 + 1, 4, none⟩)) := HR.out.tab.cell 5
        have c4 : wr.cell? ⟨w.heap.size + 1 + 1, 4, none⟩ = some (.bool false) := HR.out.hd.cell 4
        have c5 := HR.out.hd.free 4
        have BB := B2.out
        clear B0 B1 B2 B3 B4 B5 B6
        go_wp2
        go_roundw
        case rel => exact ⟨2 + 1, rfl, by omega, of_flag2 HR.out _⟩
        case measure => simp [intOf]
      · have c2 : wr.cell? ⟨w.heap.size + 1 + 1 + 1, 6, none⟩ = some (.int .u32 256) := HR.out.tab.cell 6
        have c3 : wr.cell? ⟨w.heap.size + 1 + 1 + 1, 7, none⟩ = some (.pointer (some ⟨w.heap.size + 1 + 1, 5, none⟩)) := HR.out.tab.cell 7
        have c4 : wr.cell? ⟨w.heap.size + 1 + 1, 5, none⟩ = some (.bool false) := HR.out.hd.cell 5
        have c5 := HR.out.hd.free 5
        have BB := B3.out
        clear B0 B1 B2 B3 B4 B5 B6
        go_wp2
        go_roundw
        case rel => exact ⟨3 + 1, rfl, by omega, of_flag3 HR.out _⟩
        case measure => simp [intOf]
      · have c2 : wr.cell? ⟨w.heap.size + 1 + 1 + 1, 8, none⟩ = some (.int .u32 128) := HR.out.tab.cell 8
        have c3 : wr.cell? ⟨w.heap.size + 1 + 1 + 1, 9, none⟩ = some (.pointer (some ⟨w.heap.size + 1 + 1, 6, none⟩)) := HR.out.tab.cell 9
        have c4 : wr.cell? ⟨w.heap.size + 1 + 1, 6, none⟩ = some (.bool false) := HR.out.hd.cell 6
        have c5 := HR.out.hd.free 6
        have BB := B4.out
        clear B0 B1 B2 B3 B4 B5 B6
        go_wp2
        go_roundw
        case rel => exact ⟨4 + 1, rfl, by omega, of_flag4 HR.out _⟩
        case measure => simp [intOf]
      · have c2 : wr.cell? ⟨w.heap.size + 1 + 1 + 1, 10, none⟩ = some (.int .u32 32) := HR.out.tab.cell 10
        have c3 : wr.cell? ⟨w.heap.size + 1 + 1 + 1, 11, none⟩ = some (.pointer (some ⟨w.heap.size + 1 + 1, 7, none⟩)) := HR.out.tab.cell 11
        have c4 : wr.cell? ⟨w.heap.size + 1 + 1, 7, none⟩ = some (.bool false) := HR.out.hd.cell 7
        have c5 := HR.out.hd.free 7
        have BB := B5.out
        clear B0 B1 B2 B3 B4 B5 B6
        go_wp2
        go_roundw
        case rel => exact ⟨5 + 1, rfl, by omega, of_flag5 HR.out _⟩
        case measure => simp [intOf]
      · have c2 : wr.cell? ⟨w.heap.size + 1 + 1 + 1, 12, none⟩ = some (.int .u32 16) := HR.out.tab.cell 12
        have c3 : wr.cell? ⟨w.heap.size + 1 + 1 + 1, 13, none⟩ = some (.pointer (some ⟨w.heap.size + 1 + 1, 8, none⟩)) := HR.out.tab.cell 13
        have c4 : wr.cell? ⟨w.heap.size + 1 + 1, 8, none⟩ = some (.bool false) := HR.out.hd.cell 8
        have c5 := HR.out.hd.free 8
        have BB := B6.out
        clear B0 B1 B2 B3 B4 B5 B6
        go_wp2
        go_roundw
        case rel => exact ⟨6 + 1, rfl, by omega, of_flag6 HR.out _⟩
        case measure => simp [intOf]
    · obtain rfl : k = 7 := by omega
      clear hr B0 B1 B2 B3 B4 B5 B6
      go_wp2
      obtain ⟨wo, rfl⟩ : ∃ wo : World, wo = wr := ⟨_, rfl⟩
      go_loopw [37] (fun x wq => ∃ k : Nat, x = .int .i64 k ∧ k ≤ 4 ∧ OfRel i f a b c d w wq 7 k) (fun x _ => 4 - (intOf x).toNat)
      case atStart => exact ⟨0, rfl, by omega, HR.out⟩
      case round =>
        clear HR
        obtain ⟨k, rfl, hk, hr⟩ := hrel
        have HR := Lib.hid hr
        rcases Nat.lt_or_ge k 4 with hlt | hge
        · clear hr
          obtain rfl | rfl | rfl | rfl : k = 0 ∨ k = 1 ∨ k = 2 ∨ k = 3 := by omega
          · have c2 : wr.cell? ⟨w.heap.size, 2, none⟩ = some (.int .u32 a) := HR.out.row.cell 2
            have c4 : wr.cell? ⟨w.heap.size + 1 + 1, 10, none⟩ = some (.int .i64 0) := HR.out.hd.cell 10
            have c5 := HR.out.hd.free 10
            go_wp2
            go_roundw
            case rel => exact ⟨0 + 1, rfl, by omega, of_count0 HR.out⟩
            case measure => simp [intOf]
          · have c2 : wr.cell? ⟨w.heap.size, 3, none⟩ = some (.int .u32 b) := HR.out.row.cell 3
            have c4 : wr.cell? ⟨w.heap.size + 1 + 1, 11, none⟩ = some (.int .i64 0) := HR.out.hd.cell 11
            have c5 := HR.out.hd.free 11
            go_wp2
            go_roundw
            case rel => exact ⟨1 + 1, rfl, by omega, of_count1 HR.out⟩
            case measure => simp [intOf]
          · have c2 : wr.cell? ⟨w.heap.size, 4, none⟩ = some (.int .u32 c) := HR.out.row.cell 4
            have c4 : wr.cell? ⟨w.heap.size + 1 + 1, 12, none⟩ = some (.int .i64 0) := HR.out.hd.cell 12
            have c5 := HR.out.hd.free 12
            go_wp2
            go_roundw
            case rel => exact ⟨2 + 1, rfl, by omega, of_count2 HR.out⟩
            case measure => simp [intOf]
          · have c2 : wr.cell? ⟨w.heap.size, 5, none⟩ = some (.int .u32 d) := HR.out.row.cell 5
            have c4 : wr.cell? ⟨w.heap.size + 1 + 1, 13, none⟩ = some (.int .i64 0) := HR.out.hd.cell 13
            have c5 := HR.out.hd.free 13
            go_wp2
            go_roundw
            case rel => exact ⟨3 + 1, rfl, by omega, of_count3 HR.out⟩
            case measure => simp [intOf]
        · obtain rfl : k = 4 := by omega
          obtain ⟨⟨c0, c1, c2, c3, c4, c5, c6, c7, c8, c9, c10, c11, c12, c13⟩, g0, g1, g2, g3, g4, g5, g6, g7, g8, g9, g10, g11, g12, g13⟩ := hd_cells hr.res
          obtain ⟨⟨e0, e1, e2, e3, e4, e5, e6, e7, e8, e9, e10, e11, e12, e13⟩, _⟩ := hd_cells hr.hd
          obtain ⟨X, hX⟩ : ∃ X, X = ofK i f a b c d 7 4 := ⟨_, rfl⟩
          rw [← hX] at e0 e1 e2 e3 e4 e5 e6 e7 e8 e9 e10 e11 e12 e13
          rw [ofK_all] at hX
          have HX := Lib.hid hX
          have HL := Lib.hid (hd_set hr.res X)
          have HB := Lib.hid (hd_below (g := w.heap.size + 1) hr.below (by omega) X)
          clear hr hX
          go_wp2
          refine bodyPost_ret (hd_one rfl _ _ (w.heap.size + 1) X rfl HL.out) rfl ⟨?_, HB.out⟩
          rw [HX.out]
end Go.Proofs.YtadeflehdfmilaaGreat
