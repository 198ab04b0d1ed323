/-
  A list's keys, in order, as a row of strings. Condition: at most 2^40 keys.
-/
import Derived.Test.YtabhapohkohbmaaLrH
namespace Go.Proofs.Ytabhapohkohbmaa
open Go.RowKit Go.Maps
set_option linter.unusedVariables false
set_option linter.unusedSimpArgs false
attribute [local go_sem] Oper.semAt_some

/-- The call owns a row of strings. -/
def OwnK (w : World) (base : Nat) (v : Value) (D : List ByteArray) : Prop := w.ownsRow base 9 1 v D.length (D.map Value.string)
theorem infoS : (Try.prog.info? 9).map (fun i => (i.zero, i.size, i.bytes)) = some (some (.string ⟨#[]⟩), 1, 16) := by kernel_rfl
theorem ownK_shape {w : World} {base : Nat} {v : Value} {D : List ByteArray} (h : OwnK w base v D) : ∃ A cap, v = .slice A D.length cap := by
  rcases h.2 with ⟨rfl, e⟩ | ⟨g, cap, cur, e, _⟩
  · exact ⟨none, 0, by rw [e]⟩
  · exact ⟨_, _, e⟩
/-- Between two rounds: the keys so far lie in their box. -/
structure KI (w : World) (pre : List (ByteArray × Int)) (T : Nat → Prop) (W : World) : Prop where
  row : ∃ v, T = TBox w.heap.size v ∧ Boxed W w.heap.size 50 v ∧ OwnK W w.heap.size v (pre.map (·.1))
  bel : Below w.heap.size w W
theorem ki_own (w : World) (T : Nat → Prop) {n : Nat} (hn : w.heap.size < n) : OwnFrom n fun (pre : List (ByteArray × Int)) W => KI w pre T W := by
  intro s X Y row h hg hr
  obtain ⟨v, e, hb, ho⟩ := h.row
  refine ⟨⟨v, e, hb.kept hg fun e => by have := (hr _ e.symm).1; omega, World.ownsRow.kept ho hg ?_⟩, h.bel.grown hg h.bel.size fun j hj => by have := (hr j hj).1; omega⟩
  rcases ho.2 with ⟨rfl, _⟩ | ⟨g, cap, cur, rfl, _, hgb, _⟩
  · exact .inl rfl
  · refine .inr fun e' => ?_
    obtain ⟨_, o, ho, hc⟩ := hr g e'.symm
    rw [hgb] at ho
    cases ho
    cases hc
set_option maxRecDepth 100000 in
set_option maxHeartbeats 8000000 in
theorem keys_anyP (a : Option Addr) (R : List (ByteArray × Int)) (w : World) (hl : R.length ≤ 1099511627776)
    (hS : ∀ W, Below w.heap.size w W → Calls Try.prog 52 #[.pointer a] W fun e w' => ∃ v, e = .returned v ∧ OwnP w' W.heap.size v R ∧ Below W.heap.size W w') :
    Calls Try.prog 32 #[.pointer a] w fun e w' => ∃ v, e = .returned v ∧ OwnK w' w.heap.size v (R.map (·.1)) ∧ Below w.heap.size w w' := by
  obtain ⟨i0, hi, hz0, hz1, hz2⟩ := info_parts infoS
  have hB1 : Below w.heap.size w (w.alloc (.cells #[.slice none 0 0] 50)) := (Below.refl _ w).alloc (Nat.le_refl _) _
  have hB0 : Below w.heap.size w ((w.alloc (.cells #[.slice none 0 0] 50)).alloc (.cells #[.pointer a] 36)) := hB1.alloc (by simp) _
  have hbx : ((w.alloc (.cells #[.slice none 0 0] 50)).alloc (.cells #[.pointer a] 36)).cell? ⟨w.heap.size + 1, 0, none⟩ = some (.pointer a) := by
    have := (Lies.new (w.alloc (.cells #[.slice none 0 0] 50)) 36 #[.pointer a]).cell 0
    simp
  have hq := Lib.hid (all_seqP 8 (by decide) (w.heap.size + 1) a R _ hbx hl fun W hW => hS W (hB0.trans (hW.mono hB0.size)))
  have bO := (Boxed.new w 50 (.slice none 0 0)).alloc (.cells #[.pointer a] 36)
  have HB0 := Lib.hid hB0
  have HBO := Lib.hid bO
  clear hB1 hB0 hbx bO hS
  refine (callsIn_wide (n := 9)).1 ?_
  refine callsIn_of_wp_marks Try.func32 rfl trivial ?_ rfl
  simp only [Try.ntmps32, List.size_toArray, List.length_cons, List.length_nil, Nat.reduceAdd, Nat.reduceSub, Array.replicate_succ, Array.replicate_zero, List.push_toArray, List.append_toArray, List.nil_append, List.cons_append]
  gi_wp2_with (refine ⟨trivial, ?_⟩; gi_at_call 34; refine (callsIn_wide.2 (All_any _ _)).mono ?_; rintro e w1 ⟨rfl, rfl⟩)
  refine range_own1 rfl (by decide) (gf := 51) (bd := #[]) (lb := #[.pointer (some ⟨w.heap.size + 1, 0, none⟩)]) rfl trivial (enters_of Try.func51 (by kernel_rfl) rfl)
    hq.out (Below.refl _ _) (fun c h => h.elim) (fun _ => rfl)
    (KI w) (fun _ _ _ => False) (fun T => ki_own w T (by simp; omega)) (fun _ _ _ _ _ h _ _ => h) (fun _ e => by cases e) ?hfresh
    (TBox w.heap.size (.slice none 0 0)) (fun c h => h.elim) ⟨⟨_, rfl, HBO.out, World.ownsRow_nil _ _ _ _⟩, HB0.out⟩ ?a1 ?assign ?body ?done ?stop
  case assign =>
    intro l2 x W' K hK
    gi_wp2
    exact hK
  case stop => exact fun _ _ _ _ _ _ h _ => h.elim
  case hfresh =>
    rintro pre T W h
    obtain ⟨v, rfl, hb, hr⟩ := h.row
    exact tbox_fresh hb hr
  case body =>
    rintro l pre x T W _ _ hI hRs
    obtain ⟨v, rfl, hv, hrow⟩ := hI.row
    have hlen : (pre.map (·.1)).length + 1 ≤ 1099511627776 := by
      have := hRs.length_le
      simp at this ⊢
      omega
    have hc := hv.cell
    have hlo := hv.lt
    have HI1 := Lib.hid hI
    obtain ⟨D, hD⟩ : ∃ D, pre.map (·.1) = D := ⟨_, rfl⟩
    rw [hD] at hrow hlen
    have HD := Lib.hid hD
    clear hI hRs hD
    obtain ⟨A, cap, rfl⟩ := ownK_shape hrow
    gi_wp2_with (gi_at_builtin; refine wpListIn_append_own_at _ rfl _ _ 50 rfl w.heap.size 9 i0 (.string ⟨#[]⟩) 1 16 Try.underlying50 hi hz0 hz1 hz2 rfl (by decide) (.slice A D.length cap) D.length (D.map Value.string) rfl (World.ownsRow.alloc hrow _) ⟨W.heap.size, 0, none⟩ 1 1 [.string x.1] rfl rfl (cell_one_new _ _ _) (fun u hu => by rw [List.mem_singleton.1 hu]; rfl) (by unfold maxLen; omega) (by omega) (by have := HI1.out.bel.size; simp; omega) ?_; intro v' w4 hown' hgrow _ hob; obtain ⟨g', cap', rfl⟩ := ownsRow_succ hown'; obtain ⟨hv1, hv2, hr2, hk2, hb2⟩ := hv.appended (by decide) hrow HI1.out.bel.size (Nat.le_refl _) hown' hgrow; have hc1 := hv1.cell; have hf1 := hv1.frozen)
    have hkp := kpt_append (B := w.heap.size) hgrow hob
    refine ⟨TBox w.heap.size (.slice (some ⟨g', 0, none⟩) (D.length + 1) cap'), hkp, ⟨_, rfl, hv2, ?_⟩, HI1.out.bel.trans hb2⟩
    have e : ∀ x : ByteArray × Int, (pre ++ [x]).map (·.1) = pre.map (·.1) ++ [x.1] := fun x => by simp
    unfold OwnK
    rw [e, HD.out, List.map_append, List.length_append]
    exact hr2
  case done =>
    rintro D xs T W hD hnD rfl hI hK
    obtain ⟨v, rfl, hv, hrow⟩ := hI.row
    have hc := hv.cell
    have hB := hI.bel
    have hD' : w.heap.size ≤ D := by simp at hD; omega
    gi_wp2
    refine ⟨by simp, .inl ⟨_, _, rfl, run_takeDeferred hK, ?_⟩⟩
    exact ⟨_, results_tmp rfl _ _ _, v, rfl, ownsRow_putObj hrow _ hK rfl, hB.trans (belowK_b (w := w) (Nat.le_refl _) W D _ _ hD' hK rfl rfl)⟩
end Go.Proofs.Ytabhapohkohbmaa
