/-
  What name.Fold answers: the walk. Condition: the name is no longer than Go's own limit.
-/
import Derived.Test.YtmjhofgcfolelaaNmLabels
import Derived.Test.YtmjhofgcfolelaaNmPut
import Derived.Shelf.RegionOpen
namespace Go.Proofs.Ytmjhofgcfolelaa
open Go.RowKit Go.Shelf
set_option linter.unusedVariables false
attribute [local go_sem] Oper.semAt_some

def fe (pre : List Lab) : List UInt8 := enc ((pre.map lb).map fold)
theorem fe_snoc (pre : List Lab) (x : Lab) : fe (pre ++ [x]) = fe pre ++ enc1 (fold (bs x.1)) := by
  unfold fe
  rw [List.map_append, List.map_append, enc_append]
  simp [lb, enc_one]
theorem fe_len (pre : List Lab) : (fe pre).length ≤ 64 * pre.length := by
  unfold fe
  rw [enc_fold_len]
  exact lb_le pre
/-- What Fold's loop keeps. -/
def FoI (w : World) (b : Nat) (pre : List Lab) (W : World) : Prop := (∃ v, Boxed W b 46 v ∧ W.ownsRow w.heap.size 5 1 v (fe pre).length ((fe pre).map B) ∧ True) ∧ Below w.heap.size w W
theorem foI_own (w : World) (b K : Nat) (hK : w.heap.size ≤ K) : OwnFrom K (FoI w b) :=
  OwnFrom.and (Own.from (holdsRow_own w.heap.size b 46 5 1 (fun pre : List Lab => (fe pre).length) (fun pre => (fe pre).map B) (fun _ _ => True)) _) (ownFrom_below (Nat.le_refl _) hK)

theorem nFold_bad (n : ByteArray) (w : World) (hs : n.size ≤ maxLen) (hc : chkN (bs n) ≠ 0) : Calls Try.prog 21 #[.string n] w fun e w' => e = .returned (.string ⟨(foldN (bs n)).toArray⟩) ∧ Below w.heap.size w w' := by
  have HC := Lib.hid (fun wx => nCheck_any n wx hs)
  have hb : ((chkN (bs n) : Int) != 0) = true := bne_iff_ne.2 (by omega)
  have HE : Hid (foldN (bs n) = []) := Lib.hid (if_neg hc)
  clear hc hs
  go_enter Try.func21, Try.ntmps21
  go_wp2_with (go_at_call 22; refine (HC.out _).mono ?_; rintro e w1 ⟨rfl, hb1⟩)
  go_ret
  exact ⟨by rw [HE.out]; rfl, hb1⟩

set_option maxRecDepth 100000 in
set_option maxHeartbeats 4000000 in
theorem nFold_ok (n : ByteArray) (w : World) (hc : chkN (bs n) = 0) : Calls Try.prog 21 #[.string n] w fun e w' => e = .returned (.string ⟨(foldN (bs n)).toArray⟩) ∧ Below w.heap.size w w' := by
  obtain ⟨L, l1, l2, l3, l4⟩ := chkN_out hc
  have hns : n.size ≤ 254 := by have := (chkN_iff.1 hc).1; rw [bs_length] at this; exact this
  have hN : (labs (bs n)).length ≤ 254 := by
    have := enc_two l1
    rw [l3]
    omega
  have hm : n.size ≤ maxLen := by unfold maxLen; omega
  have HC : Hid (∀ wx, Calls Try.prog 22 #[.string n] wx fun e w' => e = .returned (.int .i64 0) ∧ Below wx.heap.size wx w') := Lib.hid (fun wx => by
    have := nCheck_any n wx hm
    rw [hc] at this
    exact this)
  have HE := Lib.hid (foldN_facts hc).1
  clear hc l1 l2 l3 l4
  refine (callsIn_wide (n := 9)).1 ?_
  refine callsIn_of_wp_marks Try.func21 rfl trivial ?_ rfl
  simp only [Try.ntmps21, List.size_toArray, List.length_cons, List.length_nil, Nat.reduceAdd, Nat.reduceSub, Array.replicate_succ, Array.replicate_zero, List.push_toArray, List.append_toArray, List.nil_append, List.cons_append]
  gi_wp2_with (first | (refine ⟨trivial, ?_⟩; gi_at_call 22; refine (callsIn_wide.2 (HC.out _)).mono ?_; rintro e w1 ⟨rfl, hb1⟩) | (refine ⟨trivial, ?_⟩; gi_at_call 26; refine (callsIn_wide.2 (each_any _ _)).mono ?_; rintro e w2 ⟨rfl, rfl⟩))
  have hz1 := hb1.size
  have bO := Boxed.new w1 46 (.slice none 0 0)
  have bN := Boxed.new (w1.alloc (.cells #[.slice none 0 0] 46)) 26 (.string n)
  rw [World.size_alloc] at bN
  have hB0 : Below w.heap.size w ((w1.alloc (.cells #[.slice none 0 0] 46)).alloc (.cells #[.string n] 26)) := (hb1.alloc hz1 _).alloc (by simp; omega) _
  refine wpIn_rangeFunc_ownG rfl (by omega) (gf := 36) (lb := #[.pointer (some ⟨w1.heap.size + 1, 0, none⟩)]) rfl trivial (enters_of Try.func36 (by kernel_rfl) rfl)
    (each_stops _ (w1.heap.size + 1) (by omega) n hm _ (by simp) bN.cell) (fun _ _ => trivial) (fun _ _ _ _ _ _ _ _ => trivial) (Below.refl _ _) (fun _ => rfl)
    (FoI w w1.heap.size) (fun _ _ _ => False) (foI_own w _ _ (by simp; omega)) (fun _ _ _ _ _ hs _ _ => hs)
    ⟨⟨_, bO.alloc _, World.ownsRow_nil _ _ _ _, trivial⟩, hB0⟩ ?a1 ?assign ?body ?done ?stop
  case assign =>
    intro l x W K hK
    gi_wp2
    exact hK
  case body =>
    rintro l pre x W ⟨⟨v, hv, hrow, _⟩, hB⟩ hlt
    have hc := hv.cell
    have hle := fe_len pre
    have hown : Own 5 W w.heap.size v (fe pre) := hrow
    obtain ⟨A, cap, rfl⟩ := hown.shape
    obtain ⟨F, hF⟩ : ∃ F : ByteArray, F = ⟨(fold (bs x.1)).toArray⟩ := ⟨_, rfl⟩
    have hFb : bs F = fold (bs x.1) := by rw [hF, bs_mk]
    have hFs : F.size ≤ 63 := by rw [← bs_length, hFb, fold_length]; exact x.2.2
    have hxm : x.1.size ≤ maxLen := by have := x.2.2; rw [bs_length] at this; unfold maxLen; omega
    have HX := Lib.hid (fun wx => Fold_any x.1 wx hxm)
    rw [← hF] at HX
    have HF : Hid (fe pre ++ enc1 (bs F) = fe (pre ++ [x])) := Lib.hid (by rw [fe_snoc, hFb])
    have HB := Lib.hid hB
    have HR := Lib.hid hrow
    have hle2 : (fe pre).length ≤ 1099511627776 := by omega
    have hmx : Try.prog.follows .mixedOrders = true := by kernel_rfl
    clear hF hFb hrow
    gi_wp2
    gi_region_with_o (first | (refine ⟨trivial, ?_⟩; gi_at_call 28; refine (CallsIn.inRound l (callsIn_wide.2 (HX.out _))).mono ?_; rintro e w3 ⟨rfl, hb3⟩; have hv3 := boxed_below (boxed_drew hv) hb3; have hc3 := hv3.cell; have hf3 := hv3.frozen; have hown3 := hown.drew.below hb3 (Nat.le_refl _); have hz3 := Nat.le_trans hB.size hb3.size) | (refine ⟨trivial, ?_⟩; gi_at_call 27; refine (CallsIn.inRound l (callsIn_wide.2 (put_any w.heap.size _ (fe pre) F w3 hown3 hz3 hFs hle2))).mono ?_; rintro e w4 ⟨v4, rfl, hown4, hg4⟩; obtain ⟨A4, cap4, rfl⟩ := hown4.shape; obtain ⟨k1, k2, k3, k4, k5⟩ := boxed_put hv3 (by decide) hown3 hz3 hz1 hown4 hg4; have hc4 := k1.cell; have hf4 := k1.frozen))
    all_goals gi_wp2
    all_goals (try go_bits)
    all_goals
      rw [HF.out] at k2 k3 k4 k5
      rw [← List.length_append, HF.out]
      exact ⟨(((KeepsOthers.drew _).from _).trans (keepsFrom_below hb3)).trans (k4.from _), trivial, ⟨_, k2, k3, trivial⟩, ((HB.out.drew).trans (hb3.mono HB.out.size)).trans k5⟩
  case done =>
    rintro D ys W hD hS ⟨⟨v, hv, hrow, _⟩, hB⟩ hK
    have hc := hv.cell
    have hfe : fe ys = foldN (bs n) := by rw [HE.out]; unfold fe; rw [hS]
    rw [hfe] at hrow
    have hown : Own 5 W w.heap.size v (foldN (bs n)) := hrow
    have hcv := btN.conv_own hown
    obtain ⟨A, cap, rfl⟩ := hown.shape
    have hD' : w.heap.size ≤ D := by simp at hD; omega
    clear hS hfe hown hD
    gi_wp2
    refine ⟨by simp, .inl ⟨_, _, rfl, run_takeDeferred hK, ?_⟩⟩
    exact ⟨_, results_tmp rfl _ _ _, rfl, hB.trans (belowK_b (w := w) (Nat.le_refl _) W D _ _ hD' hK rfl rfl)⟩
  case stop =>
    rintro D c pre W _ _ h _
    exact h.elim

theorem nFold_any (n : ByteArray) (w : World) (hs : n.size ≤ maxLen) : Calls Try.prog 21 #[.string n] w fun e w' => e = .returned (.string ⟨(foldN (bs n)).toArray⟩) ∧ Below w.heap.size w w' := by
  by_cases hc : chkN (bs n) = 0
  · exact nFold_ok n w hc
  · exact nFold_bad n w hs hc
end Go.Proofs.Ytmjhofgcfolelaa
