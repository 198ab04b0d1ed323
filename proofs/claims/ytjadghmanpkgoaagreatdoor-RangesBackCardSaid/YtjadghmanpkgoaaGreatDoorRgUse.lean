/-
  The contracts of layer 5 as the laws meet them; the layer's own examples ('lives') come out true. Conditions: as each theorem names them.
-/
import Derived.Test.YtjadghmanpkgoaaGreatDoorRgTx
import Derived.Test.YtjadghmanpkgoaaGreatDoorRgM
import Derived.Test.YtjadghmanpkgoaaGreatDoorAdGG
import Derived.Test.YtjadghmanpkgoaaGreatDoorPick
namespace Go.Proofs.YtjadghmanpkgoaaGreatDoor
open Go.RowKit
set_option linter.unusedVariables false

/-- A world behind a draw, and all that may come of it without a change of what was there. -/
theorem class_of (W : World) : ∃ (Ix : Type) (f : Ix → World) (i0 : Ix), W.drew = f i0 ∧ (∀ n, Below W.heap.size W (f n)) ∧ (∀ n w'', Below (f n).heap.size (f n) w'' → ∃ m, w'' = f m) :=
  ⟨{w' // Below W.heap.size W w'}, Subtype.val, ⟨W.drew, ⟨rfl, rfl, rfl, Nat.le_refl _, fun _ _ => rfl⟩⟩, rfl, fun n => n.2, fun n w'' h => ⟨⟨w'', next n.2 h⟩, rfl⟩⟩
/-- A contract over the class. -/
theorem class_go {W : World} {Ix : Type} {f : Ix → World} {fi : FuncId} {args : Array Value} {v : Value} (h : GG fi args v) (hg : Ground W) (hC : ∀ n, Below W.heap.size W (f n)) (hS : ∀ n w'', Below (f n).heap.size (f n) w'' → ∃ m, w'' = f m) (n : Ix) :
    Calls Tryz.prog fi args (f n) fun e w' => e = .returned v ∧ ∃ m, w' = f m := (h.go (f n) (hg.next (hC n))).mono fun _ _ x => ⟨x.1, hS n _ x.2⟩
section
variable {six : Bool} {hi lo : Nat} {n : Int}
theorem gRr {s : ByteArray} {b e : Nat} (hs : s.size ≤ 900000) (h : rdR (bs s) = ((six, hi, lo), b, e)) : GG 33 #[.string s] (.tuple #[.agg #[.bool six, .int .u64 (hi : Int), .int .u64 (lo : Int), .int .i64 (b : Int)], .int .i64 (e : Int)]) := fun w hg => by
  have := rRead_any s w hs hg
  rw [h] at this
  exact this
theorem gTr {s : ByteArray} {e : Nat} (hf : fitA (six, hi, lo)) (h : txR (six, hi, lo) n = (bs s, e)) : GG 34 #[.agg #[.bool six, .int .u64 (hi : Int), .int .u64 (lo : Int), .int .i64 n]] (.tuple #[.string s, .int .i64 (e : Int)]) := fun w hg => by
  have := rText_any six hi lo n w hg hf.1 hf.2
  rw [h] at this
  exact this
theorem gAr {i : Int} {s : Bool} {ah al : Nat} {is : Bool} (hf : fitA (six, hi, lo)) (h : atR (six, hi, lo) n i = ((s, ah, al), is)) : GG 37 #[.agg #[.bool six, .int .u64 (hi : Int), .int .u64 (lo : Int), .int .i64 n], .int .i64 i] (.tuple #[.agg #[.bool s, .int .u64 (ah : Int), .int .u64 (al : Int)], .bool is]) := fun w hg => by
  have := rAt_any six hi lo n i w hg hf.1 hf.2
  rw [h] at this
  exact this
theorem gSr {z : Nat} (hf : fitA (six, hi, lo)) (h : sizeR (six, hi, lo) n = z) : GG 38 #[.agg #[.bool six, .int .u64 (hi : Int), .int .u64 (lo : Int), .int .i64 n]] (.int .i64 (z : Int)) := fun w hg => by
  have := rSize_any six hi lo n w hg hf.1 hf.2
  rw [h] at this
  exact this
theorem gCr {c : Nat} (hf : fitA (six, hi, lo)) (h : chkR (six, hi, lo) n = c) : GG 47 #[.agg #[.bool six, .int .u64 (hi : Int), .int .u64 (lo : Int), .int .i64 n]] (.int .i64 (c : Int)) := fun w _ => by
  have := rCheck_any six hi lo n w hf.1 hf.2
  rw [h] at this
  exact this
theorem gHr {s : Bool} {ah al : Nat} {b : Bool} (hf : fitA (six, hi, lo)) (hg : fitA (s, ah, al)) (h : hasR (six, hi, lo) n (s, ah, al) = b) : GG 40 #[.agg #[.bool six, .int .u64 (hi : Int), .int .u64 (lo : Int), .int .i64 n], .agg #[.bool s, .int .u64 (ah : Int), .int .u64 (al : Int)]] (.bool b) := fun w _ => by
  have := rHas_any six hi lo n s ah al w hf.1 hf.2 hg.1 hg.2
  rw [h] at this
  exact this
theorem gIr {s : Bool} {ah al : Nat} {i : Nat} {is : Bool} (hf : fitA (six, hi, lo)) (hg : fitA (s, ah, al)) (h : idxR (six, hi, lo) n (s, ah, al) = (i, is)) : GG 35 #[.agg #[.bool six, .int .u64 (hi : Int), .int .u64 (lo : Int), .int .i64 n], .agg #[.bool s, .int .u64 (ah : Int), .int .u64 (al : Int)]] (.tuple #[.int .i64 (i : Int), .bool is]) := fun w hG => by
  have := rIndex_any six hi lo n s ah al w hG hf.1 hf.2 hg.1 hg.2
  rw [h] at this
  exact this
theorem gMr {s : Bool} {ah al : Nat} {m : Int} {b : Bool} (hf : fitA (six, hi, lo)) (hg : fitA (s, ah, al)) (h : meetR (six, hi, lo) n (s, ah, al) m = b) : GG 39 #[.agg #[.bool six, .int .u64 (hi : Int), .int .u64 (lo : Int), .int .i64 n], .agg #[.bool s, .int .u64 (ah : Int), .int .u64 (al : Int), .int .i64 m]] (.bool b) := fun w _ => by
  have := rMeet_any six hi lo n s ah al m w hf.1 hf.2 hg.1 hg.2
  rw [h] at this
  exact this
theorem gPk {i n : Int} (h : 1 ≤ n) (hn : n ≤ 100000) : GG 54 #[.int .i64 i, .int .i64 n] (.int .i64 (pick i n)) := fun w _ => (Pick_any i n w h hn).mono fun _ _ x => ⟨x.1, by rw [← x.2]; exact Below.refl _ _⟩
end
theorem fit0 : fitA (false, 0, 167772160) := by unfold fitA; decide
theorem l51 : GG 33 #[.string ⟨#[49, 48, 46, 48, 46, 48, 46, 48, 47, 51, 48]⟩] (.tuple #[.agg #[.bool false, .int .u64 0, .int .u64 167772160, .int .i64 30], .int .i64 0]) := gRr (six := false) (hi := 0) (lo := 167772160) (b := 30) (e := 0) (by decide) (by decide +kernel)
theorem l52 : GG 37 #[.agg #[.bool false, .int .u64 0, .int .u64 167772160, .int .i64 30], .int .i64 3] (.tuple #[.agg #[.bool false, .int .u64 0, .int .u64 167772163], .bool true]) := gAr (six := false) (hi := 0) (lo := 167772160) (n := 30) (s := false) (ah := 0) (al := 167772163) (is := true) fit0 (by decide +kernel)
theorem l53 : GG 33 #[.string ⟨#[49, 48, 46, 48, 46, 48, 46, 49, 47, 51, 48]⟩] (.tuple #[.agg #[.bool false, .int .u64 0, .int .u64 0, .int .i64 0], .int .i64 2]) := gRr (six := false) (hi := 0) (lo := 0) (b := 0) (e := 2) (by decide) (by decide +kernel)
theorem l54 : GG 38 #[.agg #[.bool false, .int .u64 0, .int .u64 167772160, .int .i64 30]] (.int .i64 4) := gSr (six := false) (hi := 0) (lo := 167772160) (n := 30) (z := 4) fit0 (by decide +kernel)
theorem l55 : GG 36 #[.int .u8 10, .int .u8 0, .int .u8 0, .int .u8 3] (.agg #[.bool false, .int .u64 0, .int .u64 167772163]) := gFr 10 0 0 3
theorem eq5 (wx : World) : (Op.equalIn 10000 24 (.agg #[.bool false, .int .u64 0, .int .u64 167772163]) (.agg #[.bool false, .int .u64 0, .int .u64 167772163])).run Tryz.prog wx = .ok true wx := (ad_equal false 0 167772163 false 0 167772163 wx).trans (by rw [decide_eq_true rfl])
set_option maxHeartbeats 2000000 in
theorem lives5 : GG 32 #[] (.bool true) := fun w hg => by
  have HG := Lib.hid hg
  clear hg
  go_enter Tryz.func32, Tryz.ntmps32
  go_wp2_with (first | (go_at_call 33; (first | ((with_reducible refine (l51.go _ HG.out).mono ?_); rintro e w1 ⟨rfl, hb1⟩; have HB1 := Lib.hid (hb1.alloc hb1.size (.cells #[.bool false, .int .u64 0, .int .u64 167772160, .int .i64 30] 49)); clear hb1; have HR1 : Hid (RgB (w1.alloc (.cells #[.bool false, .int .u64 0, .int .u64 167772160, .int .i64 30] 49)) w1.heap.size false 0 167772160 30) := Lib.hid (Lies.new _ _ _)) | ((with_reducible refine (l53.go _ (HG.out.next HB2.out)).mono ?_); rintro e w3 ⟨rfl, hb3⟩; have HB3 := Lib.hid (next HB2.out hb3); have HB4 := Lib.hid (HB3.out.alloc HB3.out.size (.cells #[.bool false, .int .u64 0, .int .u64 0, .int .i64 0] 49)); have HR4 : Hid (RgB (w3.alloc (.cells #[.bool false, .int .u64 0, .int .u64 0, .int .i64 0] 49)) w1.heap.size false 0 167772160 30) := Lib.hid ((Lies.next HR2.out hb3).alloc _); have HA4 : Hid (AdB (w3.alloc (.cells #[.bool false, .int .u64 0, .int .u64 0, .int .i64 0] 49)) w2.heap.size false 0 167772163) := Lib.hid ((Lies.next HA2.out hb3).alloc _); clear hb3))) | (go_at_call 37; (with_reducible refine (l52.go _ (HG.out.next HB1.out)).mono ?_); rintro e w2 ⟨rfl, hb2⟩; have HR2 : Hid (RgB (w2.alloc (.cells #[.bool false, .int .u64 0, .int .u64 167772163] 24)) w1.heap.size false 0 167772160 30) := Lib.hid ((Lies.next HR1.out hb2).alloc _); have HA2 : Hid (AdB (w2.alloc (.cells #[.bool false, .int .u64 0, .int .u64 167772163] 24)) w2.heap.size false 0 167772163) := Lib.hid (Lies.new _ _ _); have hb2' := next HB1.out hb2; have HB2 := Lib.hid (hb2'.alloc hb2'.size (.cells #[.bool false, .int .u64 0, .int .u64 167772163] 24)); clear hb2 hb2') | fail)
  obtain ⟨w4, hw4⟩ : ∃ w4, w4 = w3.alloc (.cells #[.bool false, .int .u64 0, .int .u64 0, .int .i64 0] 49) := ⟨_, rfl⟩
  rw [← hw4] at HB4 HR4 HA4 ⊢
  clear hw4
  obtain ⟨Ix, f, i0, hf0, hCn', hstep'⟩ := class_of w4
  have HCn := Lib.hid hCn'
  have Hstep := Lib.hid hstep'
  clear hCn' hstep'
  haveI : Nonempty Ix := ⟨i0⟩
  have k0 : ∀ m, (f m).cell? ⟨w1.heap.size, 0, none⟩ = some (.bool false) := fun m => (Lies.next HR4.out (HCn.out m)).cell 0
  have k1 : ∀ m, (f m).cell? ⟨w1.heap.size, 1, none⟩ = some (.int .u64 0) := fun m => (Lies.next HR4.out (HCn.out m)).cell 1
  have k2 : ∀ m, (f m).cell? ⟨w1.heap.size, 2, none⟩ = some (.int .u64 167772160) := fun m => (Lies.next HR4.out (HCn.out m)).cell 2
  have k3 : ∀ m, (f m).cell? ⟨w1.heap.size, 3, none⟩ = some (.int .i64 30) := fun m => (Lies.next HR4.out (HCn.out m)).cell 3
  have a0 : ∀ m, (f m).cell? ⟨w2.heap.size, 0, none⟩ = some (.bool false) := fun m => (Lies.next HA4.out (HCn.out m)).cell 0
  have a1 : ∀ m, (f m).cell? ⟨w2.heap.size, 1, none⟩ = some (.int .u64 0) := fun m => (Lies.next HA4.out (HCn.out m)).cell 1
  have a2 : ∀ m, (f m).cell? ⟨w2.heap.size, 2, none⟩ = some (.int .u64 167772163) := fun m => (Lies.next HA4.out (HCn.out m)).cell 2
  have V0 := Lib.hid (class_go l54 (HG.out.next HB4.out) HCn.out Hstep.out)
  have V1 := Lib.hid (class_go l55 (HG.out.next HB4.out) HCn.out Hstep.out)
  have EQ := eq5
  refine wp_region_class f (by kernel_rfl) (lexB_of (by kernel_rfl) (by as_aux_lemma => kernel_rfl)) i0 hf0 ?_
  clear hf0
  repeat (go_big_quiet_step (first | (with_reducible exact V0.out _) | (with_reducible exact V1.out _)))
  all_goals
    refine wpQuiet_nil ?_
    intro _ hw'
    obtain ⟨nE, hw''⟩ := hw'
    subst hw''
    have hbE := next HB4.out (HCn.out nE)
    go_wp2
    go_ret
    exact ⟨rfl, hbE⟩
end Go.Proofs.YtjadghmanpkgoaaGreatDoor
