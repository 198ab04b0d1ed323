/-
  header.readWords: the walk. The octets are at most 2^46.
-/
import Derived.Test.YtdpgcgaalamgkaaGreatZk25
import Derived.Test.YtdpgcgaalamgkaaGreatZk3
import Derived.Laws.ResultCell
namespace Go.Proofs.YtdpgcgaalamgkaaGreat
open Go.RowKit
set_option linter.unusedVariables false

/-- A row of six numbers. -/
def ics (a b c d e f : Int) : Array Value := #[.int .u32 a, .int .u32 b, .int .u32 c, .int .u32 d, .int .u32 e, .int .u32 f]
/-- The row behind k words. -/
def rwc (l : List UInt8) (k : Nat) : Array Value := #[.int .u32 (if 0 < k then wdAt l 0 else 0 : Nat), .int .u32 (if 1 < k then wdAt l 1 else 0 : Nat), .int .u32 (if 2 < k then wdAt l 2 else 0 : Nat), .int .u32 (if 3 < k then wdAt l 3 else 0 : Nat), .int .u32 (if 4 < k then wdAt l 4 else 0 : Nat), .int .u32 (if 5 < k then wdAt l 5 else 0 : Nat)]
/-- The relation of the loop. -/
structure HdRwRel (s : ByteArray) (w wr : World) (g k : Nat) : Prop where
  res : Lies wr w.heap.size 173 (ics 0 0 0 0 0 0)
  row : Lies wr (w.heap.size + 1) 173 (rwc (bs s) k)
  rd : RD wr g s (2 * k)
  below : Below w.heap.size w wr
  ge : w.heap.size + 1 < g
theorem numR_two {l : List UInt8} {k : Nat} (h : 2 * k + 2 ≤ l.length) : numR l (2 * k) 2 = ⟨(l.drop (2 * k)).take 2, 0, 2 * (k + 1)⟩ := by
  rw [numR_take (by decide)]
  exact takR_some h
theorem numR_none {l : List UInt8} {k : Nat} (h : l.length < 2 * k + 2) : numR l (2 * k) 2 = ⟨[], 8, 2 * k⟩ := by
  rw [numR_take (by decide)]
  exact takR_more (by omega) (by omega)
theorem rd_two {g k : Nat} {s : ByteArray} {w : World} (h : RD w g s (2 * k)) (hs : s.size ≤ maxLen) (hk : 2 * k + 2 ≤ s.size) :
    Calls Tryz.prog 157 #[.pointer (some ⟨g, 0, none⟩), .int .i64 2] w (Rdr w g s (2 * (k + 1)) (.tuple #[.int .u32 (wdAt (bs s) k), .int .i64 0])) := by
  have := rNumber_any 2 h hs (by omega)
  rw [numR_two (by rw [bs_length]; exact hk)] at this
  exact this
theorem rd_none {g k : Nat} {s : ByteArray} {w : World} (h : RD w g s (2 * k)) (hs : s.size ≤ maxLen) (h0 : 2 * k ≤ s.size) (hk : s.size < 2 * k + 2) :
    Calls Tryz.prog 157 #[.pointer (some ⟨g, 0, none⟩), .int .i64 2] w (Rdr w g s (2 * k) (.tuple #[.int .u32 0, .int .i64 8])) := by
  have := rNumber_any 2 h hs h0
  rw [numR_none (by rw [bs_length]; exact hk)] at this
  exact this
/-- Two results, the first one, a row of six, in a cell. -/
theorem ret_row2 {fn : Func} {p u : Tmp} (h : fn.results = #[.cell p 173, .tmp u]) (tmps : Array Value) (w : World) (g : Nat) (a b c d e f : Int) (hp : tmps.getD p undef = .pointer (some ⟨g, 0, none⟩)) (hg : Lies w g 173 (ics a b c d e f)) :
    (results fn tmps).run Tryz.prog w = .ok (.tuple #[.agg (ics a b c d e f), tmps.getD u undef]) w := by
  rw [results_cell_tmp h, hp]
  simp only [asAddr, Sem.run_pure, Result.andThen_ok]
  rw [run_loadVar_row w g _ _ _ _ _ hg Tryz.underlying173 rfl (by kernel_rfl)]
  rfl
/-- A row of six, written anew. -/
theorem six_set {w : World} {g : Nat} {a b c d e f : Int} (h : Lies w g 173 (ics a b c d e f)) (a' b' c' d' e' f' : Int) :
    Lies ((((((w.setCell ⟨g, 0, none⟩ (.int .u32 a')).setCell ⟨g, 1, none⟩ (.int .u32 b')).setCell ⟨g, 2, none⟩ (.int .u32 c')).setCell ⟨g, 3, none⟩ (.int .u32 d')).setCell ⟨g, 4, none⟩ (.int .u32 e')).setCell ⟨g, 5, none⟩ (.int .u32 f')) g 173 (ics a' b' c' d' e' f') :=
  (((((h.set 0 _).set 1 _).set 2 _).set 3 _).set 4 _).set 5 _
theorem six_below {w w1 : World} {g k : Nat} (h : Below k w w1) (hg : k ≤ g) (a' b' c' d' e' f' : Int) :
    Below k w ((((((w1.setCell ⟨g, 0, none⟩ (.int .u32 a')).setCell ⟨g, 1, none⟩ (.int .u32 b')).setCell ⟨g, 2, none⟩ (.int .u32 c')).setCell ⟨g, 3, none⟩ (.int .u32 d')).setCell ⟨g, 4, none⟩ (.int .u32 e')).setCell ⟨g, 5, none⟩ (.int .u32 f')) :=
  (((((h.setCell hg _).setCell hg _).setCell hg _).setCell hg _).setCell hg _).setCell hg _
/-- What the walk wants to know of a row of six. -/
theorem six_cells {w : World} {g : Nat} {a b c d e f : Int} (h : Lies w g 173 (ics a b c d e f)) :
    (w.cell? ⟨g, 0, none⟩ = some (.int .u32 a) ∧ w.cell? ⟨g, 1, none⟩ = some (.int .u32 b) ∧ w.cell? ⟨g, 2, none⟩ = some (.int .u32 c) ∧ w.cell? ⟨g, 3, none⟩ = some (.int .u32 d) ∧ w.cell? ⟨g, 4, none⟩ = some (.int .u32 e) ∧ w.cell? ⟨g, 5, none⟩ = some (.int .u32 f)) ∧
    w.frozen? ⟨g, 0, none⟩ = false ∧ w.frozen? ⟨g, 1, none⟩ = false ∧ w.frozen? ⟨g, 2, none⟩ = false ∧ w.frozen? ⟨g, 3, none⟩ = false ∧ w.frozen? ⟨g, 4, none⟩ = false ∧ w.frozen? ⟨g, 5, none⟩ = false :=
  ⟨⟨h.cell 0, h.cell 1, h.cell 2, h.cell 3, h.cell 4, h.cell 5⟩, h.free 0, h.free 1, h.free 2, h.free 3, h.free 4, h.free 5⟩
theorem rw_start {s : ByteArray} {w w1 W : World} (hW : W = (w.alloc (.cells (ics 0 0 0 0 0 0) 173)).alloc (.cells (ics 0 0 0 0 0 0) 173)) (hr : RD w1 W.heap.size s 0) (hb : Below W.heap.size W w1) : HdRwRel s w w1 (w.heap.size + 1 + 1) 0 := by
  subst hW
  have hs : ((w.alloc (.cells (ics 0 0 0 0 0 0) 173)).alloc (.cells (ics 0 0 0 0 0 0) 173)).heap.size = w.heap.size + 1 + 1 := by simp
  have z1 : (w.alloc (.cells (ics 0 0 0 0 0 0) 173)).heap.size = w.heap.size + 1 := by simp
  have l1 := ((Lies.new w 173 (ics 0 0 0 0 0 0)).alloc (.cells (ics 0 0 0 0 0 0) 173)).next hb
  have l2 := (Lies.new (w.alloc (.cells (ics 0 0 0 0 0 0) 173)) 173 (ics 0 0 0 0 0 0)).next hb
  rw [z1] at l2
  rw [hs] at hr
  exact ⟨l1, l2, hr, (((Below.refl _ _).alloc (Nat.le_refl _) _).alloc (by simp) _).trans (hb.mono (by rw [hs]; omega)), by omega⟩
theorem rw_step0 {s : ByteArray} {w w' : World} (q : Lies w' w.heap.size 173 (ics 0 0 0 0 0 0) ∧ Lies w' (w.heap.size + 1) 173 (rwc (bs s) 0) ∧ RD w' (w.heap.size + 1 + 1) s (2 * (0 + 1)) ∧ Below w.heap.size w w') :
    HdRwRel s w (w'.setCell ⟨w.heap.size + 1, 0, none⟩ (.int .u32 (wdAt (bs s) 0))) (w.heap.size + 1 + 1) (0 + 1) :=
  ⟨q.1.setOther (by omega) _, q.2.1.set 0 _, Lies.setOther q.2.2.1 (by omega) _, q.2.2.2.setCell (by simp) _, by omega⟩
theorem rw_step1 {s : ByteArray} {w w' : World} (q : Lies w' w.heap.size 173 (ics 0 0 0 0 0 0) ∧ Lies w' (w.heap.size + 1) 173 (rwc (bs s) 1) ∧ RD w' (w.heap.size + 1 + 1) s (2 * (1 + 1)) ∧ Below w.heap.size w w') :
    HdRwRel s w (w'.setCell ⟨w.heap.size + 1, 1, none⟩ (.int .u32 (wdAt (bs s) 1))) (w.heap.size + 1 + 1) (1 + 1) :=
  ⟨q.1.setOther (by omega) _, q.2.1.set 1 _, Lies.setOther q.2.2.1 (by omega) _, q.2.2.2.setCell (by simp) _, by omega⟩
theorem rw_step2 {s : ByteArray} {w w' : World} (q : Lies w' w.heap.size 173 (ics 0 0 0 0 0 0) ∧ Lies w' (w.heap.size + 1) 173 (rwc (bs s) 2) ∧ RD w' (w.heap.size + 1 + 1) s (2 * (2 + 1)) ∧ Below w.heap.size w w') :
    HdRwRel s w (w'.setCell ⟨w.heap.size + 1, 2, none⟩ (.int .u32 (wdAt (bs s) 2))) (w.heap.size + 1 + 1) (2 + 1) :=
  ⟨q.1.setOther (by omega) _, q.2.1.set 2 _, Lies.setOther q.2.2.1 (by omega) _, q.2.2.2.setCell (by simp) _, by omega⟩
theorem rw_step3 {s : ByteArray} {w w' : World} (q : Lies w' w.heap.size 173 (ics 0 0 0 0 0 0) ∧ Lies w' (w.heap.size + 1) 173 (rwc (bs s) 3) ∧ RD w' (w.heap.size + 1 + 1) s (2 * (3 + 1)) ∧ Below w.heap.size w w') :
    HdRwRel s w (w'.setCell ⟨w.heap.size + 1, 3, none⟩ (.int .u32 (wdAt (bs s) 3))) (w.heap.size + 1 + 1) (3 + 1) :=
  ⟨q.1.setOther (by omega) _, q.2.1.set 3 _, Lies.setOther q.2.2.1 (by omega) _, q.2.2.2.setCell (by simp) _, by omega⟩
theorem rw_step4 {s : ByteArray} {w w' : World} (q : Lies w' w.heap.size 173 (ics 0 0 0 0 0 0) ∧ Lies w' (w.heap.size + 1) 173 (rwc (bs s) 4) ∧ RD w' (w.heap.size + 1 + 1) s (2 * (4 + 1)) ∧ Below w.heap.size w w') :
    HdRwRel s w (w'.setCell ⟨w.heap.size + 1, 4, none⟩ (.int .u32 (wdAt (bs s) 4))) (w.heap.size + 1 + 1) (4 + 1) :=
  ⟨q.1.setOther (by omega) _, q.2.1.set 4 _, Lies.setOther q.2.2.1 (by omega) _, q.2.2.2.setCell (by simp) _, by omega⟩
theorem rw_step5 {s : ByteArray} {w w' : World} (q : Lies w' w.heap.size 173 (ics 0 0 0 0 0 0) ∧ Lies w' (w.heap.size + 1) 173 (rwc (bs s) 5) ∧ RD w' (w.heap.size + 1 + 1) s (2 * (5 + 1)) ∧ Below w.heap.size w w') :
    HdRwRel s w (w'.setCell ⟨w.heap.size + 1, 5, none⟩ (.int .u32 (wdAt (bs s) 5))) (w.heap.size + 1 + 1) (5 + 1) :=
  ⟨q.1.setOther (by omega) _, q.2.1.set 5 _, Lies.setOther q.2.2.1 (by omega) _, q.2.2.2.setCell (by simp) _, by omega⟩
theorem HdRwRel.next {s : ByteArray} {w wr w' : World} {g k : Nat} (r : HdRwRel s w wr g k) (hr : RD w' g s (2 * (k + 1))) (hg : wr.grownBy w' (some g)) : Lies w' w.heap.size 173 (ics 0 0 0 0 0 0) ∧ Lies w' (w.heap.size + 1) 173 (rwc (bs s) k) ∧ RD w' g s (2 * (k + 1)) ∧ Below w.heap.size w w' := by
  have h1 := r.ge
  exact ⟨r.res.grown hg (by simp; omega), r.row.grown hg (by simp; omega), hr, r.below.grown hg r.below.size (fun k hk => by injection hk with hk; omega)⟩
/-- What readWords answers. -/
def rwV (s : ByteArray) : Value := .tuple #[.agg (if s.size < 12 then ics 0 0 0 0 0 0 else rwc (bs s) 6), .int .i64 (if s.size < 12 then 8 else 0 : Nat)]
theorem rwV_no {s : ByteArray} (h : s.size < 12) : rwV s = .tuple #[.agg (ics 0 0 0 0 0 0), .int .i64 8] := by unfold rwV; rw [if_pos h, if_pos h]; rfl
theorem rwV_yes {s : ByteArray} (h : 12 ≤ s.size) : rwV s = .tuple #[.agg (ics (wdAt (bs s) 0) (wdAt (bs s) 1) (wdAt (bs s) 2) (wdAt (bs s) 3) (wdAt (bs s) 4) (wdAt (bs s) 5)), .int .i64 0] := by unfold rwV; rw [if_neg (by omega), if_neg (by omega)]; rfl
set_option maxHeartbeats 2000000 in
theorem readWords_any (s : ByteArray) (w : World) (hs : s.size ≤ maxLen) :
    Calls Tryz.prog 121 #[.string s] w fun e w' => e = .returned (rwV s) ∧ Below w.heap.size w w' := by
  have HS := Lib.hid hs
  have HN := Lib.hid (fun wx => NewReader_any s wx)
  clear hs
  go_enter Tryz.func121, Tryz.ntmps121
  -- WALK
  go_wp2_with (go_at_call 156; refine (HN.out _).mono ?_; rintro e w1 ⟨rfl, hrd, hb⟩; have HR0 := Lib.hid (rw_start rfl hrd hb); clear hrd hb)
  clear HN
  go_loopw [11] (fun i wr => ∃ k : Nat, i = .int .i64 k ∧ k ≤ 6 ∧ 2 * k ≤ s.size ∧ HdRwRel s w wr (w.heap.size + 1 + 1) k) (fun i _ => 6 - (intOf i).toNat)
  case atStart => exact ⟨0, rfl, by omega, by omega, HR0.out⟩
  case round =>
    clear HR0
    obtain ⟨k, rfl, hk, h2, hr⟩ := hrel
    have HR := Lib.hid hr
    rcases Nat.lt_or_ge k 6 with hlt | hge
    · rcases Nat.lt_or_ge s.size (2 * k + 2) with hno | hyes
      · have HN := Lib.hid (rd_none hr.rd HS.out h2 hno)
        have HV := Lib.hid (rwV_no (s := s) (by omega))
        clear hr h2 hno
        obtain rfl | rfl | rfl | rfl | rfl | rfl : k = 0 ∨ k = 1 ∨ k = 2 ∨ k = 3 ∨ k = 4 ∨ k = 5 := by omega
        all_goals
          go_wp2_with (go_at_call 157; (with_reducible refine HN.out.mono ?_); rintro e w' ⟨rfl, hrd, hg⟩; have hl := HR.out.res.grown hg (by simp; omega); obtain ⟨⟨c0, c1, c2, c3, c4, c5⟩, f0, f1, f2, f3, f4, f5⟩ := six_cells hl; have HL := Lib.hid (six_set hl 0 0 0 0 0 0); have HB := Lib.hid (six_below (g := w.heap.size) (HR.out.below.grown hg HR.out.below.size (fun k hk => by injection hk with hk; omega)) (Nat.le_refl _) 0 0 0 0 0 0); clear hl hrd hg)
          refine bodyPost_ret (ret_row2 rfl _ _ w.heap.size 0 0 0 0 0 0 rfl HL.out) rfl ⟨?_, HB.out⟩
          rw [HV.out]
          rfl
      · have HN := Lib.hid (rd_two hr.rd HS.out hyes)
        have c6 := hr.row.cell k
        have f6 := hr.row.free k
        have z6 := hr.row.lt
        clear hr
        obtain rfl | rfl | rfl | rfl | rfl | rfl : k = 0 ∨ k = 1 ∨ k = 2 ∨ k = 3 ∨ k = 4 ∨ k = 5 := by omega
        · go_wp2_with (go_at_call 157; (with_reducible refine HN.out.mono ?_); rintro e w' ⟨rfl, hrd, hg⟩; have HQ := Lib.hid (HR.out.next hrd hg); have hc : w'.cell? ⟨w.heap.size + 1, 0, none⟩ = some (.int .u32 0) := HQ.out.2.1.cell 0; have hf := HQ.out.2.1.free 0; clear hrd hg)
          go_roundw
          case rel => exact ⟨0 + 1, rfl, by omega, by omega, rw_step0 HQ.out⟩
          case measure => simp [intOf]
        · go_wp2_with (go_at_call 157; (with_reducible refine HN.out.mono ?_); rintro e w' ⟨rfl, hrd, hg⟩; have HQ := Lib.hid (HR.out.next hrd hg); have hc : w'.cell? ⟨w.heap.size + 1, 1, none⟩ = some (.int .u32 0) := HQ.out.2.1.cell 1; have hf := HQ.out.2.1.free 1; clear hrd hg)
          go_roundw
          case rel => exact ⟨1 + 1, rfl, by omega, by omega, rw_step1 HQ.out⟩
          case measure => simp [intOf]
        · go_wp2_with (go_at_call 157; (with_reducible refine HN.out.mono ?_); rintro e w' ⟨rfl, hrd, hg⟩; have HQ := Lib.hid (HR.out.next hrd hg); have hc : w'.cell? ⟨w.heap.size + 1, 2, none⟩ = some (.int .u32 0) := HQ.out.2.1.cell 2; have hf := HQ.out.2.1.free 2; clear hrd hg)
          go_roundw
          case rel => exact ⟨2 + 1, rfl, by omega, by omega, rw_step2 HQ.out⟩
          case measure => simp [intOf]
        · go_wp2_with (go_at_call 157; (with_reducible refine HN.out.mono ?_); rintro e w' ⟨rfl, hrd, hg⟩; have HQ := Lib.hid (HR.out.next hrd hg); have hc : w'.cell? ⟨w.heap.size + 1, 3, none⟩ = some (.int .u32 0) := HQ.out.2.1.cell 3; have hf := HQ.out.2.1.free 3; clear hrd hg)
          go_roundw
          case rel => exact ⟨3 + 1, rfl, by omega, by omega, rw_step3 HQ.out⟩
          case measure => simp [intOf]
        · go_wp2_with (go_at_call 157; (with_reducible refine HN.out.mono ?_); rintro e w' ⟨rfl, hrd, hg⟩; have HQ := Lib.hid (HR.out.next hrd hg); have hc : w'.cell? ⟨w.heap.size + 1, 4, none⟩ = some (.int .u32 0) := HQ.out.2.1.cell 4; have hf := HQ.out.2.1.free 4; clear hrd hg)
          go_roundw
          case rel => exact ⟨4 + 1, rfl, by omega, by omega, rw_step4 HQ.out⟩
          case measure => simp [intOf]
        · go_wp2_with (go_at_call 157; (with_reducible refine HN.out.mono ?_); rintro e w' ⟨rfl, hrd, hg⟩; have HQ := Lib.hid (HR.out.next hrd hg); have hc : w'.cell? ⟨w.heap.size + 1, 5, none⟩ = some (.int .u32 0) := HQ.out.2.1.cell 5; have hf := HQ.out.2.1.free 5; clear hrd hg)
          go_roundw
          case rel => exact ⟨5 + 1, rfl, by omega, by omega, rw_step5 HQ.out⟩
          case measure => simp [intOf]
    · obtain rfl : k = 6 := by omega
      have hl2 : Lies wr (w.heap.size + 1) 173 (ics (wdAt (bs s) 0) (wdAt (bs s) 1) (wdAt (bs s) 2) (wdAt (bs s) 3) (wdAt (bs s) 4) (wdAt (bs s) 5)) := hr.row
      obtain ⟨⟨c0, c1, c2, c3, c4, c5⟩, f0, f1, f2, f3, f4, f5⟩ := six_cells hr.res
      obtain ⟨⟨e0, e1, e2, e3, e4, e5⟩, _, _, _, _, _, _⟩ := six_cells hl2
      have HL := Lib.hid (six_set hr.res (wdAt (bs s) 0) (wdAt (bs s) 1) (wdAt (bs s) 2) (wdAt (bs s) 3) (wdAt (bs s) 4) (wdAt (bs s) 5))
      have HB := Lib.hid (six_below (g := w.heap.size) hr.below (Nat.le_refl _) (wdAt (bs s) 0) (wdAt (bs s) 1) (wdAt (bs s) 2) (wdAt (bs s) 3) (wdAt (bs s) 4) (wdAt (bs s) 5))
      have HV := Lib.hid (rwV_yes (s := s) (by omega))
      clear hr hl2
      go_wp2
      refine bodyPost_ret (ret_row2 rfl _ _ w.heap.size _ _ _ _ _ _ rfl HL.out) rfl ⟨?_, HB.out⟩
      rw [HV.out]
      rfl
end Go.Proofs.YtdpgcgaalamgkaaGreat
