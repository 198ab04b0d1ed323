/-
  What name.Labels answers, by slices.Collect over each: the walks. Condition: the name is no longer than Go's own limit.
-/
import Derived.Test.YtmjhofgcfolelaaNmCheck
import Derived.Maps.AppendAt
namespace Go.Proofs.Ytmjhofgcfolelaa
open Go.RowKit Go.Shelf
set_option linter.unusedVariables false
attribute [local go_sem] Oper.semAt_some

theorem infoS : (Try.prog.info? 9).map (fun i => (i.zero, i.size, i.bytes)) = some (some (.string ⟨#[]⟩), 1, 16) := by kernel_rfl
def strs (L : List Lab) : List Value := L.map fun x => Value.string x.1
theorem strs_snoc (L : List Lab) (x : Lab) : strs (L ++ [x]) = strs L ++ [Value.string x.1] := by simp [strs]
theorem strs_len (L : List Lab) : (strs L).length = L.length := by simp [strs]

/-- A row of labels that the call made: a new slice of strings. -/
def SOwn (W : World) (base : Nat) (v : Value) (L : List Lab) : Prop := W.ownsRow base 9 1 v L.length (strs L)
def LbI (w : World) (n₀ B : Nat) (pre : List Lab) (W : World) : Prop := (∃ v, Boxed W B 57 v ∧ W.ownsRow n₀ 9 1 v pre.length (strs pre) ∧ True) ∧ Below w.heap.size w W
theorem lbI_own (w : World) (n₀ B K : Nat) (hB : w.heap.size ≤ K) : OwnFrom K (LbI w n₀ B) :=
  OwnFrom.and (Own.from (holdsRow_own n₀ B 57 9 1 (fun pre : List Lab => pre.length) strs (fun _ _ => True)) _) (ownFrom_below (Nat.le_refl _) hB)

theorem SOwn.row {W : World} {base : Nat} {v : Value} {L : List Lab} (h : SOwn W base v L) : SRow W v (L.map Subtype.val) := by
  refine SRow.of_own (base := base) (t := 9) ?_
  have e : (L.map Subtype.val).map Value.string = strs L := by simp [strs]
  rw [e, List.length_map]
  exact h

set_option maxRecDepth 100000 in
set_option maxHeartbeats 2000000 in
theorem AppendSeq_each (Bn : Nat) (n : ByteArray) (w : World) (hs : n.size ≤ 254) (hBn : Bn < w.heap.size) (hcn : w.cell? ⟨Bn, 0, none⟩ = some (.string n)) :
    Calls Try.prog 52 #[.slice none 0 0, .func (.func 36) #[] #[.pointer (some ⟨Bn, 0, none⟩)]] w fun e w' => ∃ v ys, e = .returned v ∧ ys.map lb = labs (bs n) ∧ SOwn w' w.heap.size v ys ∧ Below w.heap.size w w' := by
  have hN : (labs (bs n)).length ≤ 254 := by
    obtain ⟨h1, r, h2, _⟩ := labs_pre _ (bs n) (Nat.le_refl _)
    have := enc_two h1
    have h3 := congrArg List.length h2
    rw [List.length_append, bs_length] at h3
    omega
  have hm : n.size ≤ maxLen := by unfold maxLen; omega
  obtain ⟨i0, hi, hz0, hz1, hz2⟩ := info_parts infoS
  refine (callsIn_wide (n := 9)).1 ?_
  refine callsIn_of_wp_marks Try.func52 rfl trivial ?_ rfl
  simp only [Try.ntmps52, List.size_toArray, List.length_cons, List.length_nil, Nat.reduceAdd, Nat.reduceSub, Array.replicate_succ, Array.replicate_zero, List.push_toArray, List.append_toArray, List.nil_append, List.cons_append]
  gi_wp2
  have bO := Boxed.new w 57 (.slice none 0 0)
  have hB0 : Below w.heap.size w (w.alloc (.cells #[.slice none 0 0] 57)) := (Below.refl _ w).alloc (Nat.le_refl _) _
  refine wpIn_rangeFunc_ownG rfl (by omega) (gf := 36) (lb := #[.pointer (some ⟨Bn, 0, none⟩)]) rfl trivial (enters_of Try.func36 (by kernel_rfl) rfl)
    (each_stops _ Bn (by omega) n hm _ (by simp; omega) ((hB0.cell (p := ⟨Bn, 0, none⟩) hBn).trans hcn)) (fun _ _ => trivial) (fun _ _ _ _ _ _ _ _ => trivial) (Below.refl _ _) (fun _ => rfl)
    (LbI w w.heap.size w.heap.size) (fun _ _ _ => False) (lbI_own w _ _ _ (by simp)) (fun _ _ _ _ _ hs _ _ => hs)
    ⟨⟨_, bO, World.ownsRow_nil _ _ _ _, trivial⟩, hB0⟩ ?a1 ?assign ?body ?done ?stop
  case assign =>
    intro l x W K hK
    gi_wp2
    exact hK
  case body =>
    rintro l pre x W ⟨⟨v, hv, hrow, _⟩, hB⟩ hlt
    have hc := hv.cell
    gi_wp2_with (gi_at_builtin; refine wpListIn_append_own _ rfl _ _ 57 rfl w.heap.size 9 i0 (.string ⟨#[]⟩) 1 16 Try.underlying57 hi hz0 hz1 hz2 rfl (by decide) _ _ _ rfl (hrow.alloc _) ⟨W.heap.size, 0, none⟩ 1 1 [.string x.1] rfl rfl (cell_one_new _ _ _) (by simp [Value.oneCell']) (by unfold maxLen; omega) (by omega) (by have := hB.size; simp; omega) ?_; intro v' w1 hown' hgrow _; obtain ⟨g', cap', rfl⟩ := ownsRow_succ hown'; obtain ⟨hv1, hv2, hr2, hk2, hb2⟩ := hv.appended (by decide) hrow hB.size (Nat.le_refl _) hown' hgrow; have hc1 := hv1.cell; have hf1 := hv1.frozen)
    exact ⟨hk2.from _, trivial, ⟨_, hv2, by rw [strs_snoc, List.length_append]; exact hr2, trivial⟩, hB.trans hb2⟩
  case done =>
    rintro D ys W hD hS ⟨⟨v, hv, hrow, _⟩, hB⟩ hK
    have hc := hv.cell
    have hD' : w.heap.size ≤ D := by simp at hD; omega
    gi_wp2
    refine ⟨by simp, .inl ⟨_, _, rfl, run_takeDeferred hK, ?_⟩⟩
    exact ⟨_, results_tmp rfl _ _ _, v, ys, rfl, hS, ownsRow_putObj hrow _ hK rfl, hB.trans (belowK_b (w := w) (Nat.le_refl _) W D _ _ hD' hK rfl rfl)⟩
  case stop =>
    rintro D c pre W _ _ h _
    exact h.elim

theorem Collect_each (Bn : Nat) (n : ByteArray) (w : World) (hs : n.size ≤ 254) (hBn : Bn < w.heap.size) (hcn : w.cell? ⟨Bn, 0, none⟩ = some (.string n)) :
    Calls Try.prog 49 #[.func (.func 36) #[] #[.pointer (some ⟨Bn, 0, none⟩)]] w fun e w' => ∃ v ys, e = .returned v ∧ ys.map lb = labs (bs n) ∧ SOwn w' w.heap.size v ys ∧ Below w.heap.size w w' := by
  have HC := Lib.hid (AppendSeq_each Bn n w hs hBn hcn)
  clear hcn hBn
  go_enter Try.func49, Try.ntmps49
  go_wp2_with (go_at_call 52; refine HC.out.mono ?_; rintro e w1 ⟨v, ys, rfl, hys, hown, hb1⟩; have HY := Lib.hid hys; clear hys)
  go_ret
  exact ⟨v, ys, rfl, HY.out, hown, hb1⟩

/-- What Labels answers: a new slice of the labels. -/
def Lbs (w : World) (l : List (List UInt8)) (e : Ending) (w' : World) : Prop := ∃ v L, e = .returned v ∧ SRow w' v L ∧ L.map bs = l ∧ Below w.heap.size w w'
theorem map_val (ys : List Lab) : (ys.map Subtype.val).map bs = ys.map lb := by simp [lb]

set_option maxHeartbeats 1000000 in
theorem Labels_any (n : ByteArray) (w : World) (hs : n.size ≤ maxLen) : Calls Try.prog 46 #[.string n] w (Lbs w (nlabs (bs n))) := by
  have HC := Lib.hid (fun wx => nCheck_any n wx hs)
  by_cases hc : chkN (bs n) = 0
  · have hle := (chkN_iff.1 hc).1
    rw [bs_length] at hle
    have hb : ((chkN (bs n) : Int) != 0) = false := by rw [hc]; rfl
    have HE := Lib.hid (nlabs_yes hc)
    clear hc hs
    go_enter Try.func46, Try.ntmps46
    go_wp2_with (first | (go_at_call 22; refine (HC.out _).mono ?_; rintro e w1 ⟨rfl, hb1⟩) | (go_at_call 26; refine (each_any _ _).mono ?_; rintro e w2 ⟨rfl, rfl⟩) | (go_at_call 49; refine (Collect_each w1.heap.size n _ hle (by simp) (by simp)).mono ?_; rintro e w3 ⟨v, ys, rfl, hys, hown, hb3⟩; have HY := Lib.hid hys; clear hys))
    go_ret
    refine ⟨v, _, rfl, hown.row, ?_, ?_⟩
    · rw [map_val, HY.out, HE.out]
    · exact (hb1.trans (((Below.refl _ w1).alloc (Nat.le_refl _) _).mono hb1.size)).trans (hb3.mono (Nat.le_trans hb1.size (by simp)))
  · have hb : ((chkN (bs n) : Int) != 0) = true := bne_iff_ne.2 (by omega)
    have HE := Lib.hid (nlabs_no hc)
    clear hc hs
    go_enter Try.func46, Try.ntmps46
    go_wp2_with (go_at_call 22; refine (HC.out _).mono ?_; rintro e w1 ⟨rfl, hb1⟩)
    go_ret
    exact ⟨_, [], rfl, .inl ⟨_, rfl, rfl⟩, HE.out.symm, hb1⟩
end Go.Proofs.Ytmjhofgcfolelaa
