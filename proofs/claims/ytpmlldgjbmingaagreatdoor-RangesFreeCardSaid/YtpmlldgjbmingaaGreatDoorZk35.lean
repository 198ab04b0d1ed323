/-
  The contracts of layer 5 as the laws meet them; the layer's own examples ('lives') come out true. Conditions: as each theorem names them. How long the runs are that reserved ranges take of a range: the walks of ranges.narrower, ranges.runs. Conditions: the laid tables' cells (Ground), the addresses' numbers such as their types bear.
-/
import Derived.Test.YtpmlldgjbmingaaGreatDoorZk34
import Derived.Test.YtpmlldgjbmingaaGreatDoorZk28
import Derived.Test.YtpmlldgjbmingaaGreatDoorZk29
import Derived.Test.YtpmlldgjbmingaaGreatDoorZk3
import Derived.Test.YtpmlldgjbmingaaGreatDoorZk10
import Derived.Deep.RegionLaw
import Derived.Deep.RegionHeld3
namespace Go.Proofs.YtpmlldgjbmingaaGreatDoor
open Go.RowKit
set_option linter.unusedVariables false

/-- A world behind a draw, and all that may come of it without a change of what was there. -/
theorem class_of (W : World) : ∃ (Ix : Type) (f : Ix → World) (i0 : Ix), W.drew = f i0 ∧ (∀ n, Below W.heap.size W (f n)) ∧ (∀ n w'', Below (f n).heap.size (f n) w'' → ∃ m, w'' = f m) :=
  ⟨{w' // Below W.heap.size W w'}, Subtype.val, ⟨W.drew, ⟨rfl, rfl, rfl, Nat.le_refl _, fun _ _ => rfl⟩⟩, rfl, fun n => n.2, fun n w'' h => ⟨⟨w'', next n.2 h⟩, rfl⟩⟩
/-- A contract over the class. -/
theorem class_go {W : World} {Ix : Type} {f : Ix → World} {fi : FuncId} {args : Array Value} {v : Value} (h : GG fi args v) (hg : Ground W) (hC : ∀ n, Below W.heap.size W (f n)) (hS : ∀ n w'', Below (f n).heap.size (f n) w'' → ∃ m, w'' = f m) (n : Ix) :
    Calls Tryz.prog fi args (f n) fun e w' => e = .returned v ∧ ∃ m, w' = f m := (h.go (f n) (hg.next (hC n))).mono fun _ _ x => ⟨x.1, hS n _ x.2⟩
section
variable {six : Bool} {hi lo : Nat} {n : Int}
theorem gRr {s : ByteArray} {b e : Nat} (hs : s.size ≤ 900000) (h : rdR (bs s) = ((six, hi, lo), b, e)) : GG 27 #[.string s] (.tuple #[.agg #[.bool six, .int .u64 (hi : Int), .int .u64 (lo : Int), .int .i64 (b : Int)], .int .i64 (e : Int)]) := fun w hg => by
  have := rRead_any s w hs hg
  rw [h] at this
  exact this
theorem gAr {i : Int} {s : Bool} {ah al : Nat} {is : Bool} (hf : fitA (six, hi, lo)) (h : atR (six, hi, lo) n i = ((s, ah, al), is)) : GG 31 #[.agg #[.bool six, .int .u64 (hi : Int), .int .u64 (lo : Int), .int .i64 n], .int .i64 i] (.tuple #[.agg #[.bool s, .int .u64 (ah : Int), .int .u64 (al : Int)], .bool is]) := fun w hg => by
  have := rAt_any six hi lo n i w hg hf.1 hf.2
  rw [h] at this
  exact this
theorem gSr {z : Nat} (hf : fitA (six, hi, lo)) (h : sizeR (six, hi, lo) n = z) : GG 32 #[.agg #[.bool six, .int .u64 (hi : Int), .int .u64 (lo : Int), .int .i64 n]] (.int .i64 (z : Int)) := fun w hg => by
  have := rSize_any six hi lo n w hg hf.1 hf.2
  rw [h] at this
  exact this
theorem gHr {s : Bool} {ah al : Nat} {b : Bool} (hf : fitA (six, hi, lo)) (hg : fitA (s, ah, al)) (h : hasR (six, hi, lo) n (s, ah, al) = b) : GG 34 #[.agg #[.bool six, .int .u64 (hi : Int), .int .u64 (lo : Int), .int .i64 n], .agg #[.bool s, .int .u64 (ah : Int), .int .u64 (al : Int)]] (.bool b) := fun w _ => by
  have := rHas_any six hi lo n s ah al w hf.1 hf.2 hg.1 hg.2
  rw [h] at this
  exact this
theorem gMr {s : Bool} {ah al : Nat} {m : Int} {b : Bool} (hf : fitA (six, hi, lo)) (hg : fitA (s, ah, al)) (h : meetR (six, hi, lo) n (s, ah, al) m = b) : GG 33 #[.agg #[.bool six, .int .u64 (hi : Int), .int .u64 (lo : Int), .int .i64 n], .agg #[.bool s, .int .u64 (ah : Int), .int .u64 (al : Int), .int .i64 m]] (.bool b) := fun w _ => by
  have := rMeet_any six hi lo n s ah al m w hf.1 hf.2 hg.1 hg.2
  rw [h] at this
  exact this
end
theorem fit0 : fitA (false, 0, 167772160) := by unfold fitA; decide
theorem l51 : GG 27 #[.string ⟨#[49, 48, 46, 48, 46, 48, 46, 48, 47, 51, 48]⟩] (.tuple #[.agg #[.bool false, .int .u64 0, .int .u64 167772160, .int .i64 30], .int .i64 0]) := gRr (six := false) (hi := 0) (lo := 167772160) (b := 30) (e := 0) (by decide) (by decide +kernel)
theorem l52 : GG 31 #[.agg #[.bool false, .int .u64 0, .int .u64 167772160, .int .i64 30], .int .i64 3] (.tuple #[.agg #[.bool false, .int .u64 0, .int .u64 167772163], .bool true]) := gAr (six := false) (hi := 0) (lo := 167772160) (n := 30) (s := false) (ah := 0) (al := 167772163) (is := true) fit0 (by decide +kernel)
theorem l53 : GG 27 #[.string ⟨#[49, 48, 46, 48, 46, 48, 46, 49, 47, 51, 48]⟩] (.tuple #[.agg #[.bool false, .int .u64 0, .int .u64 0, .int .i64 0], .int .i64 2]) := gRr (six := false) (hi := 0) (lo := 0) (b := 0) (e := 2) (by decide) (by decide +kernel)
theorem l54 : GG 32 #[.agg #[.bool false, .int .u64 0, .int .u64 167772160, .int .i64 30]] (.int .i64 4) := gSr (six := false) (hi := 0) (lo := 167772160) (n := 30) (z := 4) fit0 (by decide +kernel)
theorem l55 : GG 30 #[.int .u8 10, .int .u8 0, .int .u8 0, .int .u8 3] (.agg #[.bool false, .int .u64 0, .int .u64 167772163]) := gFr 10 0 0 3
theorem eq5 (wx : World) : (Op.equalIn 10000 24 (.agg #[.bool false, .int .u64 0, .int .u64 167772163]) (.agg #[.bool false, .int .u64 0, .int .u64 167772163])).run Tryz.prog wx = .ok true wx := (ad_equal false 0 167772163 false 0 167772163 wx).trans (by rw [decide_eq_true rfl])
set_option maxHeartbeats 2000000 in
theorem lives5 : GG 26 #[] (.bool true) := fun w hg => by
  have HG := Lib.hid hg
  clear hg
  go_enter Tryz.func26, Tryz.ntmps26
  go_wp2_with (first | (go_at_call 27; (first | ((with_reducible refine (l51.go _ HG.out).mono ?_); rintro e w1 ⟨rfl, hb1⟩; have HB1 := Lib.hid (hb1.alloc hb1.size (.cells #[.bool false, .int .u64 0, .int .u64 167772160, .int .i64 30] 41)); clear hb1; have HR1 : Hid (RgB (w1.alloc (.cells #[.bool false, .int .u64 0, .int .u64 167772160, .int .i64 30] 41)) w1.heap.size false 0 167772160 30) := Lib.hid (Lies.new _ _ _)) | ((with_reducible refine (l53.go _ (HG.out.next HB2.out)).mono ?_); rintro e w3 ⟨rfl, hb3⟩; have HB3 := Lib.hid (next HB2.out hb3); have HB4 := Lib.hid (HB3.out.alloc HB3.out.size (.cells #[.bool false, .int .u64 0, .int .u64 0, .int .i64 0] 41)); have HR4 : Hid (RgB (w3.alloc (.cells #[.bool false, .int .u64 0, .int .u64 0, .int .i64 0] 41)) w1.heap.size false 0 167772160 30) := Lib.hid ((Lies.next HR2.out hb3).alloc _); have HA4 : Hid (AdB (w3.alloc (.cells #[.bool false, .int .u64 0, .int .u64 0, .int .i64 0] 41)) w2.heap.size false 0 167772163) := Lib.hid ((Lies.next HA2.out hb3).alloc _); clear hb3))) | (go_at_call 31; (with_reducible refine (l52.go _ (HG.out.next HB1.out)).mono ?_); rintro e w2 ⟨rfl, hb2⟩; have HR2 : Hid (RgB (w2.alloc (.cells #[.bool false, .int .u64 0, .int .u64 167772163] 24)) w1.heap.size false 0 167772160 30) := Lib.hid ((Lies.next HR1.out hb2).alloc _); have HA2 : Hid (AdB (w2.alloc (.cells #[.bool false, .int .u64 0, .int .u64 167772163] 24)) w2.heap.size false 0 167772163) := Lib.hid (Lies.new _ _ _); have hb2' := next HB1.out hb2; have HB2 := Lib.hid (hb2'.alloc hb2'.size (.cells #[.bool false, .int .u64 0, .int .u64 167772163] 24)); clear hb2 hb2') | fail)
  obtain ⟨w4, hw4⟩ : ∃ w4, w4 = w3.alloc (.cells #[.bool false, .int .u64 0, .int .u64 0, .int .i64 0] 41) := ⟨_, rfl⟩
  rw [← hw4] at HB4 HR4 HA4 ⊢
  clear hw4
  obtain ⟨Ix, f, i0, hf0, hCn', hstep'⟩ := class_of w4
  have HCn := Lib.hid hCn'
  have Hstep := Lib.hid hstep'
  clear hCn' hstep'
  haveI : Nonempty Ix := ⟨i0⟩
  have k0 : ∀ m, (f m).cell? ⟨w1.heap.size, 0, none⟩ = some (.bool false) := fun m => (Lies.next HR4.out (HCn.out m)).cell 0
  have k1 : ∀ m, (f m).cell? ⟨w1.heap.size, 1, none⟩ = some (.int .u64 0) := fun m => (Lies.next HR4.out (HCn.out m)).cell 1
  have k2 : ∀ m, (f m).cell? ⟨w1.heap.size, 2, none⟩ = some (.int .u64 167772160) := fun m => (Lies.next HR4.out (HCn.out m)).cell 2
  have k3 : ∀ m, (f m).cell? ⟨w1.heap.size, 3, none⟩ = some (.int .i64 30) := fun m => (Lies.next HR4.out (HCn.out m)).cell 3
  have a0 : ∀ m, (f m).cell? ⟨w2.heap.size, 0, none⟩ = some (.bool false) := fun m => (Lies.next HA4.out (HCn.out m)).cell 0
  have a1 : ∀ m, (f m).cell? ⟨w2.heap.size, 1, none⟩ = some (.int .u64 0) := fun m => (Lies.next HA4.out (HCn.out m)).cell 1
  have a2 : ∀ m, (f m).cell? ⟨w2.heap.size, 2, none⟩ = some (.int .u64 167772163) := fun m => (Lies.next HA4.out (HCn.out m)).cell 2
  have V0 := Lib.hid (class_go l54 (HG.out.next HB4.out) HCn.out Hstep.out)
  have V1 := Lib.hid (class_go l55 (HG.out.next HB4.out) HCn.out Hstep.out)
  have EQ := eq5
  refine wp_region_class f (by kernel_rfl) (lexB_of (by kernel_rfl) (by as_aux_lemma => kernel_rfl)) i0 hf0 ?_
  clear hf0
  repeat (go_big_quiet_step (first | (with_reducible exact V0.out _) | (with_reducible exact V1.out _)))
  all_goals
    refine wpQuiet_nil ?_
    intro _ hw'
    obtain ⟨nE, hw''⟩ := hw'
    subst hw''
    have hbE := next HB4.out (HCn.out nE)
    go_wp2
    go_ret
    exact ⟨rfl, hbE⟩
end Go.Proofs.YtpmlldgjbmingaaGreatDoor
namespace Go.Proofs.YtpmlldgjbmingaaGreatDoor
open Go.RowKit Go.Maps
set_option linter.unusedVariables false

theorem ret_rg {fn : Func} {p : Tmp} (h : fn.results = #[.cell p 41]) (tmps : Array Value) (w : World) (g : Nat) (a : Ad) (n : Int) (hp : tmps.getD p undef = .pointer (some ⟨g, 0, none⟩))
    (hg : Lies w g 41 #[.bool a.1, .int .u64 (a.2.1 : Int), .int .u64 (a.2.2 : Int), .int .i64 n]) : (results fn tmps).run Tryz.prog w = .ok (rv a n) w :=
  results_cell_row h tmps w g _ _ _ _ hp hg Tryz.underlying41 rfl infoRg
theorem narrower_any (six : Bool) (hi lo : Nat) (n : Int) (s : Bool) (ah al : Nat) (m : Int) (w : World) :
    Calls Tryz.prog 131 #[.agg #[.bool six, .int .u64 (hi : Int), .int .u64 (lo : Int), .int .i64 n], .agg #[.bool s, .int .u64 (ah : Int), .int .u64 (al : Int), .int .i64 m]] w fun e w' => e = .returned (rv (narR (six, hi, lo) n (s, ah, al) m).1 (narR (six, hi, lo) n (s, ah, al) m).2) ∧ Below w.heap.size w w' := by
  have HB : Hid (∀ o p q : Obj, Below w.heap.size w (((w.alloc o).alloc p).alloc q)) := Lib.hid fun o p q => (((Below.refl _ _).alloc (Nat.le_refl _) o).alloc (by simp) p).alloc (by simp; omega) q
  have HL : Hid (∀ (o p : Obj) (t : TypeId) (cs : Array Value), Lies (((w.alloc o).alloc p).alloc (.cells cs t)) (w.heap.size + 1 + 1) t cs) := Lib.hid fun o p t cs => by
    have := Lies.new ((w.alloc o).alloc p) t cs
    simpa using this
  unfold narR
  by_cases h : m < n
  · rw [if_pos h]
    have hd : decide (m < n) = true := by simpa using h
    go_enter Tryz.func131, Tryz.ntmps131
    go_wp2
    refine bodyPost_ret (ret_rg rfl _ _ (w.heap.size + 1 + 1) (six, hi, lo) n rfl (HL.out _ _ _ _)) rfl ?_
    exact ⟨rfl, HB.out _ _ _⟩
  · rw [if_neg h]
    have hd : decide (m < n) = false := by simpa using h
    go_enter Tryz.func131, Tryz.ntmps131
    go_wp2
    refine bodyPost_ret (ret_rg rfl _ _ (w.heap.size + 1 + 1) (s, ah, al) m rfl (HL.out _ _ _ _)) rfl ?_
    exact ⟨rfl, HB.out _ _ _⟩
/-! ### A row of ranges -/
structure RgCells (w : World) (g o : Nat) (x : Ad × Int) : Prop where
  c0 : w.cell? ⟨g, o, none⟩ = some (.bool x.1.1)
  c1 : w.cell? ⟨g, o + 1, none⟩ = some (.int .u64 (x.1.2.1 : Int))
  c2 : w.cell? ⟨g, o + 2, none⟩ = some (.int .u64 (x.1.2.2 : Int))
  c3 : w.cell? ⟨g, o + 3, none⟩ = some (.int .i64 x.2)
theorem RgCells.below {w w' : World} {g o k : Nat} {x : Ad × Int} (h : RgCells w g o x) (hb : Below k w w') (hk : g < k) : RgCells w' g o x :=
  ⟨(hb.cell (p := ⟨g, o, none⟩) hk).trans h.c0, (hb.cell (p := ⟨g, o + 1, none⟩) hk).trans h.c1, (hb.cell (p := ⟨g, o + 2, none⟩) hk).trans h.c2, (hb.cell (p := ⟨g, o + 3, none⟩) hk).trans h.c3⟩
/-- A slice of ranges, as it can be read. -/
structure RgRow (w : World) (v : Value) (L : List (Ad × Int)) : Prop where
  shape : ∃ A cap, v = .slice A L.length cap ∧ L.length ≤ cap ∧ cap ≤ maxLen ∧ ∀ j (h : j < L.length), ∃ g o, A = some ⟨g, o, none⟩ ∧ g < w.heap.size ∧ RgCells w g (o + j * 4) L[j]
  fits : ∀ x ∈ L, fitA x.1
theorem stepR_le {r : Ad} {n : Int} {M : Ad → Nat} {o : Ad × Int} (h : ∀ a, M a ≤ 65536) : ∀ a, stepR r n M o a ≤ 65536 := by
  intro a
  unfold stepR
  split
  · unfold updA
    split
    · exact Nat.max_le.2 ⟨h _, sizeR_le _ _⟩
    · exact h a
  · exact h a
theorem runsR_le (r : Ad) (n : Int) : ∀ (L : List (Ad × Int)) (M : Ad → Nat), (∀ a, M a ≤ 65536) → ∀ a, L.foldl (stepR r n) M a ≤ 65536
  | [], M, h => h
  | o :: L, M, h => runsR_le r n L _ (stepR_le h)
theorem runs_snoc (r : Ad) (n : Int) (L : List (Ad × Int)) (k : Nat) (h : k < L.length) : runsR r n (L.take (k + 1)) = stepR r n (runsR r n (L.take k)) L[k] := by
  unfold runsR
  rw [List.take_succ_eq_append_getElem h, List.foldl_append]
  rfl
theorem narR_fit {r : Ad} {n : Int} {s : Ad} {m : Int} (h1 : fitA r) (h2 : fitA s) : fitA (narR r n s m).1 := by
  unfold narR
  split
  · exact h1
  · exact h2
end Go.Proofs.YtpmlldgjbmingaaGreatDoor
