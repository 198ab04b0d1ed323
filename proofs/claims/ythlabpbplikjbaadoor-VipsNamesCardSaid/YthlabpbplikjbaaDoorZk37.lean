/-
  Who is held, as a row: slices.Collect over maps.Values. Conditions: at most 100,000 are held.
-/
import Derived.Test.YthlabpbplikjbaaDoorZk36
import Derived.Test.YthlabpbplikjbaaDoorZk13
import Derived.Maps.OwnIn
namespace Go.Proofs.YthlabpbplikjbaaDoor
open Go.RowKit Go.Maps Go.Shelf Go.ChangeMaps Go.MapKept
set_option linter.unusedVariables false
attribute [local go_sem] Oper.semAt_some

def csH (x : Hd) : List Value := [.string x.1, .bool x.2.1, .int .u64 (x.2.2.1 : Int), .int .u64 (x.2.2.2 : Int)]
def allH (L : List Hd) : List Value := L.flatMap csH
theorem allH_snoc (D : List Hd) (x : Hd) : allH (D ++ [x]) = allH D ++ csH x := by simp [allH]
/-- The call owns the row. -/
def OwnH (w : World) (base : Nat) (v : Value) (D : List Hd) : Prop := w.ownsRow base 61 4 v D.length (allH D)
theorem infoHd : (Tryd.prog.info? 61).map (fun i => (i.zero, i.size, i.bytes)) = some (some (.agg #[.string ⟨#[]⟩, .bool false, .int .u64 0, .int .u64 0]), 4, 40) := by kernel_rfl
theorem csH_one (x : Hd) : ∀ u ∈ csH x, u.oneCell' = true := by
  intro u hu
  simp only [csH, List.mem_cons, List.not_mem_nil, or_false] at hu
  rcases hu with rfl | rfl | rfl | rfl <;> rfl
theorem csH_new (w : World) (x : Hd) (t : TypeId) : ∀ j u, (csH x)[j]? = some u → (w.alloc (.cells #[.string x.1, .bool x.2.1, .int .u64 (x.2.2.1 : Int), .int .u64 (x.2.2.2 : Int)] t)).cell? ((⟨w.heap.size, 0, none⟩ : Addr).add j) = some u := by
  intro j u hu
  rw [Addr.add_mid, Nat.zero_add, (Lies.new w t _).cell j, ← hu]
  simp [csH]
/-- Between two rounds: the row so far lies in its box. -/
structure HI (w : World) (pre : List Hd) (T : Nat → Prop) (W : World) : Prop where
  row : ∃ v, T = TBox w.heap.size v ∧ Boxed W w.heap.size 50 v ∧ OwnH W w.heap.size v pre
  bel : Below w.heap.size w W
theorem hi_own2 (w : World) (T : Nat → Prop) {n : Nat} (hn : w.heap.size < n) : OwnFrom n fun (pre : List Hd) W => HI w pre T W := by
  intro s X Y row h hg hr
  obtain ⟨v, e, hb, ho⟩ := h.row
  refine ⟨⟨v, e, hb.kept hg fun e => by have := (hr _ e.symm).1; omega, World.ownsRow.kept ho hg ?_⟩, h.bel.grown hg h.bel.size fun j hj => by have := (hr j hj).1; omega⟩
  rcases ho.2 with ⟨rfl, _⟩ | ⟨g, cap, cur, rfl, _, hgb, _⟩
  · exact .inl rfl
  · refine .inr fun e' => ?_
    obtain ⟨_, o, ho, hc⟩ := hr g e'.symm
    rw [hgb] at ho
    cases ho
    cases hc
set_option maxRecDepth 100000 in
set_option maxHeartbeats 4000000 in
theorem AppendSeq_held (bx b : Nat) (H : List Hd) (w : World) (hbx : w.cell? ⟨bx, 0, none⟩ = some (.map (some b))) (hb : MapE Tryd.prog 29 w b (entH H)) (hl : H.length ≤ 100000) :
    Calls Tryd.prog 75 #[.slice none 0 0, .func (.func 54) #[] #[.pointer (some ⟨bx, 0, none⟩)]] w fun e w' => ∃ v L, e = .returned v ∧ List.Perm L H ∧ OwnH w' w.heap.size v L ∧ Below w.heap.size w w' := by
  obtain ⟨i0, hi, hz0, hz1, hz2⟩ := info_parts infoHd
  refine (callsIn_wide (n := 9)).1 ?_
  refine callsIn_of_wp_marks Tryd.func75 rfl trivial ?_ rfl
  simp only [Tryd.ntmps75, List.size_toArray, List.length_cons, List.length_nil, Nat.reduceAdd, Nat.reduceSub, Array.replicate_succ, Array.replicate_zero, List.push_toArray, List.append_toArray, List.nil_append, List.cons_append]
  gi_wp2
  have bO := Boxed.new w 50 (.slice none 0 0)
  have hB0 : Below w.heap.size w (w.alloc (.cells #[.slice none 0 0] 50)) := (Below.refl _ w).alloc (Nat.le_refl _) _
  have hbl := hb.lt
  have hs0 := values_seq 8 (by decide) bx b H w hbx hb
  refine range_own rfl (by omega) (gf := 54) (bd := #[]) (lb := #[.pointer (some ⟨bx, 0, none⟩)]) rfl trivial (enters_of Tryd.func54 (by kernel_rfl) rfl)
    hs0 hB0 (fun c h => by subst h; simp; omega) (fun _ => rfl)
    (HI w) (fun _ _ _ => False) (fun T => hi_own2 w T (by simp)) (fun _ _ _ _ _ h _ _ => h) (fun _ e => by cases e) ?hfresh
    (TBox w.heap.size (.slice none 0 0)) (fun c h => by subst h; unfold TBox Value.ownBlock; simp; omega) ⟨⟨_, rfl, bO, World.ownsRow_nil _ _ _ _⟩, hB0⟩ ?Ax ?hAx ?assign ?body ?done ?stop
  case stop => exact fun _ _ _ _ _ _ h _ => h.elim
  case hfresh =>
    rintro pre T W h
    obtain ⟨v, rfl, hb, hr⟩ := h.row
    exact tbox_fresh hb hr
  case Ax => exact fun x a' W => ∃ q, a' = { tmps := #[.slice none 0 0, .func (.func 54) #[] #[.pointer (some ⟨bx, 0, none⟩)], .pointer (some ⟨w.heap.size, 0, none⟩), undef, .slice none 0 0, .pointer (some ⟨q, 0, none⟩), .func (.func 54) #[] #[.pointer (some ⟨bx, 0, none⟩)], .agg #[.string x.1, .bool x.2.1, .int .u64 (x.2.2.1 : Int), .int .u64 (x.2.2.2 : Int)], undef, undef, undef, undef, undef], defers := [] } ∧ Lies W q 61 #[.string x.1, .bool x.2.1, .int .u64 (x.2.2.1 : Int), .int .u64 (x.2.2.2 : Int)]
  case hAx =>
    rintro x a' s A C row ⟨q, e, hq⟩ hg hr
    refine ⟨q, e, hq.grown hg fun e' => ?_⟩
    obtain ⟨_, o, ho, hc⟩ := hr q e'.symm
    rw [show A.heap[q]? = _ from hq] at ho
    cases ho
    cases hc
  case assign =>
    intro l pre x T W K hI hK
    simp only [hdv]
    gi_wp2
    exact hK _ _ _ (Kpt.alloc _ _ _) ((hi_own2 w T (Nat.lt_succ_self _)).alloc _ hI) ⟨_, rfl, Lies.new _ _ _⟩
  case body =>
    rintro l pre x a' T W _ _ hI ⟨q, rfl, hq⟩ ⟨Rs, hRs⟩
    obtain ⟨v, rfl, hv, hrow⟩ := hI.row
    have hlen : pre.length + 1 ≤ 100000 := by
      have := hRs.length_eq
      rw [List.length_append, List.length_cons] at this
      omega
    have hc := hv.cell
    have hlo := hv.lt
    have q0 : W.cell? ⟨q, 0, none⟩ = some (.string x.1) := hq.cell 0
    have q1 : W.cell? ⟨q, 1, none⟩ = some (.bool x.2.1) := hq.cell 1
    have q2 : W.cell? ⟨q, 2, none⟩ = some (.int .u64 (x.2.2.1 : Int)) := hq.cell 2
    have q3 : W.cell? ⟨q, 3, none⟩ = some (.int .u64 (x.2.2.2 : Int)) := hq.cell 3
    have HI1 := Lib.hid hI
    have HN := Lib.hid (csH_new W x 61)
    have H1c := Lib.hid (csH_one x)
    clear hI hRs
    obtain ⟨A, cap, rfl⟩ := own_shape hrow
    gi_wp2_with (gi_at_builtin; refine wpListIn_append_own_at _ rfl _ _ 50 rfl w.heap.size 61 i0 (.agg #[.string ⟨#[]⟩, .bool false, .int .u64 0, .int .u64 0]) 4 40 Tryd.underlying50 hi hz0 hz1 hz2 rfl (by decide) _ _ _ rfl (World.ownsRow.alloc hrow _) ⟨W.heap.size, 0, none⟩ 1 1 (csH x) rfl rfl HN.out H1c.out (by unfold maxLen; omega) (by omega) (by have := HI1.out.bel.size; simp; omega) ?_; intro v' w4 hown' hgrow _ hob; obtain ⟨g', cap', rfl⟩ := ownsRow_succ hown'; obtain ⟨hv1, hv2, hr2, hk2, hb2⟩ := hv.appended (by decide) hrow HI1.out.bel.size (Nat.le_refl _) hown' hgrow; have hc1 := hv1.cell; have hf1 := hv1.frozen)
    have hkp := kpt_append (B := w.heap.size) hgrow hob
    refine ⟨TBox w.heap.size (.slice (some ⟨g', 0, none⟩) (pre.length + 1) cap'), hkp, ⟨_, rfl, hv2, ?_⟩, HI1.out.bel.trans hb2⟩
    unfold OwnH
    rw [allH_snoc, List.length_append]
    exact hr2
  case done =>
    rintro D L T W hD hnD hS hI hK
    obtain ⟨v, rfl, hv, hrow⟩ := hI.row
    have hc := hv.cell
    have hB := hI.bel
    have hD' : w.heap.size ≤ D := by simp at hD; omega
    gi_wp2
    refine ⟨by simp, .inl ⟨_, _, rfl, run_takeDeferred hK, ?_⟩⟩
    exact ⟨_, results_tmp rfl _ _ _, v, L, rfl, hS, ownsRow_putObj hrow _ hK rfl, hB.trans (belowK_b (w := w) (Nat.le_refl _) W D _ _ hD' hK rfl rfl)⟩
set_option maxHeartbeats 1000000 in
theorem Collect_held (bx b : Nat) (H : List Hd) (w : World) (hbx : w.cell? ⟨bx, 0, none⟩ = some (.map (some b))) (hb : MapE Tryd.prog 29 w b (entH H)) (hl : H.length ≤ 100000) :
    Calls Tryd.prog 52 #[.func (.func 54) #[] #[.pointer (some ⟨bx, 0, none⟩)]] w fun e w' => ∃ v L, e = .returned v ∧ List.Perm L H ∧ OwnH w' w.heap.size v L ∧ Below w.heap.size w w' := by
  have HC := Lib.hid (AppendSeq_held bx b H w hbx hb hl)
  clear hbx hb hl
  go_enter Tryd.func52, Tryd.ntmps52
  go_wp2_with (go_at_call 75; refine HC.out.mono ?_; rintro e w1 ⟨v, L, rfl, hp, hown, hb1⟩; have HP := Lib.hid hp; clear hp)
  go_ret
  exact ⟨v, L, rfl, HP.out, hown, hb1⟩
end Go.Proofs.YthlabpbplikjbaaDoor
