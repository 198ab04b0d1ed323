/-
  LruSnap: the walk. No condition.
-/
import Derived.Test.YtabhapohkohbmaaLrY
namespace Go.Proofs.Ytabhapohkohbmaa
open Go.RowKit Go.Maps
set_option linter.unusedVariables false
set_option linter.unusedSimpArgs false
attribute [local go_sem] Oper.semAt_some

set_option maxRecDepth 100000 in
set_option maxHeartbeats 8000000 in
theorem snap_out (L : List ByteArray) (early : Int) (v : Value) (w : World) (hL : NRow w v L) (hl : 60 < L.length) :
    Calls Try.prog 7 #[v, .int .i64 early] w fun e w' => e = .returned (.bool true) ∧ Below w.heap.size w w' := by
  obtain ⟨A, cap, rfl, hlc, hcm⟩ := hL.shape
  unfold maxLen at hcm
  clear hL
  have i1 : (60 : Int) < (L.length : Int) := by omega
  obtain ⟨w0, hw0⟩ : ∃ w0, ((w.alloc (.cells #[.slice A L.length cap] 50)).alloc (.cells #[.int .i64 early] 3)).alloc (.cells #[.bool false] 4) = w0 := ⟨_, rfl⟩
  have hB0 : Below w.heap.size w w0 := by rw [← hw0]; exact (((Below.refl _ w).alloc (Nat.le_refl _) _).alloc (by simp) _).alloc (by simp; omega) _
  have b2 : Boxed w0 w.heap.size 50 (.slice A L.length cap) := by rw [← hw0]; exact ((Boxed.new w _ _).alloc _).alloc _
  have b4 : Boxed w0 (w.heap.size + 2) 4 (.bool false) := by
    rw [← hw0]
    have := Boxed.new ((w.alloc (.cells #[.slice A L.length cap] 50)).alloc (.cells #[.int .i64 early] 3)) 4 (.bool false)
    rwa [World.size_alloc, World.size_alloc] at this
  have HW0 := Lib.hid hw0
  have HL := Lib.hid (lives15 w0)
  clear hw0
  go_enter Try.func7, Try.ntmps7
  go_upto_region 1 with (fail)
  rw [HW0.out, show w.heap.size + 1 + 1 = w.heap.size + 2 from rfl]
  go_wp2_with fail
  refine HL.out.mono ?_
  rintro e w1 ⟨rfl, hb1⟩
  have c2 := (boxed_below b2 hb1).cell
  have d4 := boxed_below b4 hb1
  have c4 := d4.cell
  have f4 := d4.frozen
  have cz := (d4.set (.bool true)).cell
  have HB := Lib.hid ((hB0.trans (hb1.mono hB0.size)).setCell (p := ⟨w.heap.size + 2, 0, none⟩) (show w.heap.size ≤ w.heap.size + 2 by omega) (.bool true))
  clear hb1 d4 b2 b4 hB0 HW0 HL
  go_wp2
  refine bodyPost_ret (v := .bool true) (by simp [results, Try.f7, go_sem, cz]) rfl ⟨rfl, HB.out⟩
theorem LruSnap_walk (v : Value) (early : Int) (_ : (Lit.int .i64 early).wf = true) (w : World) (L : List ByteArray) (hL : NRow w v L) :
    Calls Try.prog 7 #[v, .int .i64 early] w fun e w' => e = .returned (.bool true) ∧ Below w.heap.size w w' := by
  by_cases h : L.length ≤ 60
  · exact snap_in L early v w hL h
  · exact snap_out L early v w hL (by omega)
end Go.Proofs.Ytabhapohkohbmaa
