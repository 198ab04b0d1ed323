/-
  What name.Check answers: the walk. Condition: the name is no longer than Go's own limit.
-/
import Derived.Test.YtmjhofgcfolelaaNmEach
namespace Go.Proofs.Ytmjhofgcfolelaa
open Go.RowKit Go.Shelf
set_option linter.unusedVariables false
attribute [local go_sem] Oper.semAt_some

/-- The sum that Check makes. -/
def CkI (w : World) (B : Nat) (pre : List Lab) (W : World) : Prop := Boxed W B 3 (.int .i64 (enc (pre.map lb)).length) ∧ Below w.heap.size w W
theorem ckI_own (w : World) (B K : Nat) (hB : w.heap.size ≤ K) : OwnFrom K (CkI w B) :=
  OwnFrom.and (Own.from (boxed_own B 3 (fun pre : List Lab => Value.int .i64 (enc (pre.map lb)).length)) _) (ownFrom_below (Nat.le_refl _) hB)

theorem nCheck_long (n : ByteArray) (w : World) (hs : n.size ≤ maxLen) (h : 254 < n.size) :
    Calls Try.prog 22 #[.string n] w fun e w' => e = .returned (.int .i64 (chkN (bs n))) ∧ Below w.heap.size w w' := by
  have HP := Lib.hid (chkN_long (l := bs n) (by rw [bs_length]; exact h))
  unfold maxLen at hs
  go_enter Try.func22, Try.ntmps22
  go_wp2
  go_ret
  exact ⟨by rw [HP.out]; rfl, Below.refl _ _⟩

set_option maxRecDepth 100000 in
set_option maxHeartbeats 2000000 in
theorem nCheck_short (n : ByteArray) (w : World) (hs : n.size ≤ 254) :
    Calls Try.prog 22 #[.string n] w fun e w' => e = .returned (.int .i64 (chkN (bs n))) ∧ Below w.heap.size w w' := by
  have hN : (labs (bs n)).length ≤ 254 := by
    obtain ⟨h1, r, h2, _⟩ := labs_pre _ (bs n) (Nat.le_refl _)
    have := enc_two h1
    have h3 := congrArg List.length h2
    rw [List.length_append, bs_length] at h3
    omega
  have hm : n.size ≤ maxLen := by unfold maxLen; omega
  have HP : Hid (chkN (bs n) = if (enc (labs (bs n))).length = n.size then 0 else 4) := Lib.hid (by
    unfold chkN
    rw [bs_length, if_neg (by omega)])
  refine (callsIn_wide (n := 9)).1 ?_
  refine callsIn_of_wp_marks Try.func22 rfl trivial ?_ rfl
  simp only [Try.ntmps22, List.size_toArray, List.length_cons, List.length_nil, Nat.reduceAdd, Nat.reduceSub, Array.replicate_succ, Array.replicate_zero, List.push_toArray, List.append_toArray, List.nil_append, List.cons_append]
  gi_wp2_with (refine ⟨trivial, ?_⟩; gi_at_call 26; refine (callsIn_wide.2 (each_any _ _)).mono ?_; rintro e w' ⟨rfl, rfl⟩)
  have bO := Boxed.new w 3 (.int .i64 0)
  have bN := Boxed.new (w.alloc (.cells #[.int .i64 0] 3)) 26 (.string n)
  rw [World.size_alloc] at bN
  have hB0 : Below w.heap.size w ((w.alloc (.cells #[.int .i64 0] 3)).alloc (.cells #[.string n] 26)) := ((Below.refl _ w).alloc (Nat.le_refl _) _).alloc (by simp) _
  refine wpIn_rangeFunc_ownG rfl (by omega) (gf := 36) (lb := #[.pointer (some ⟨w.heap.size + 1, 0, none⟩)]) rfl trivial (enters_of Try.func36 (by kernel_rfl) rfl)
    (each_stops _ (w.heap.size + 1) (by omega) n hm _ (by simp) bN.cell) (fun _ _ => trivial) (fun _ _ _ _ _ _ _ _ => trivial) (Below.refl _ _) (fun _ => rfl)
    (CkI w w.heap.size) (fun _ _ _ => False) (ckI_own w _ _ (by simp; omega)) (fun _ _ _ _ _ hs _ _ => hs)
    ⟨bO.alloc _, hB0⟩ ?a1 ?assign ?body ?done ?stop
  case assign =>
    intro l x W K hK
    gi_wp2
    exact hK
  case body =>
    rintro l pre x W ⟨hv, hB⟩ hlt
    have hc := hv.cell
    have hf := hv.frozen
    have hle := lb_le pre
    have hx : x.1.size ≤ 63 := by have := x.2.2; rw [bs_length] at this; exact this
    have HS := Lib.hid (congrArg List.length (lb_snoc pre x))
    gi_wp2
    have e : ((enc (pre.map lb)).length : Int) + (1 + (x.1.size : Int)) = ((enc ((pre ++ [x]).map lb)).length : Nat) := by
      have := HS.out
      rw [List.length_append, enc1_length, bs_length] at this
      omega
    rw [e]
    exact ⟨(KeepsOthers.setCell _ _ _).from _, trivial, hv.set _, hB.setCell (p := ⟨w.heap.size, 0, none⟩) (Nat.le_refl _) _⟩
  case done =>
    rintro D ys W hD hS ⟨hv, hB⟩ hK
    rw [hS] at hv
    have hc := hv.cell
    have hD' : w.heap.size ≤ D := by simp at hD; omega
    by_cases he : (enc (labs (bs n))).length = n.size
    · have hb : (((enc (labs (bs n))).length : Int) != (n.size : Int)) = false := bne_eq_false_iff_eq.2 (by omega)
      have HE : Hid (chkN (bs n) = 0) := Lib.hid (by rw [HP.out, if_pos he])
      clear he hS
      gi_wp2
      refine ⟨by simp, .inl ⟨_, _, rfl, run_takeDeferred hK, ?_⟩⟩
      refine ⟨_, results_tmp rfl _ _ _, by rw [HE.out]; rfl, hB.trans (belowK_b (w := w) (Nat.le_refl _) W D _ _ hD' hK rfl rfl)⟩
    · have hb : (((enc (labs (bs n))).length : Int) != (n.size : Int)) = true := bne_iff_ne.2 (by omega)
      have HE : Hid (chkN (bs n) = 4) := Lib.hid (by rw [HP.out, if_neg he])
      clear he hS
      gi_wp2
      refine ⟨by simp, .inl ⟨_, _, rfl, run_takeDeferred hK, ?_⟩⟩
      refine ⟨_, results_tmp rfl _ _ _, by rw [HE.out]; rfl, hB.trans (belowK_b (w := w) (Nat.le_refl _) W D _ _ hD' hK rfl rfl)⟩
  case stop =>
    rintro D c pre W _ _ h _
    exact h.elim

theorem nCheck_any (n : ByteArray) (w : World) (hs : n.size ≤ maxLen) :
    Calls Try.prog 22 #[.string n] w fun e w' => e = .returned (.int .i64 (chkN (bs n))) ∧ Below w.heap.size w w' := by
  by_cases h : 254 < n.size
  · exact nCheck_long n w hs h
  · exact nCheck_short n w (by omega)
end Go.Proofs.Ytmjhofgcfolelaa
