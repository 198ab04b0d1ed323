/-
  HashCalls: the walk. Condition: the strings are no longer than Go's own limit, the numbers fit their kinds.
-/
import Derived.Test.YtmjhofgcfolelaaHsK
import Derived.Deep.RegionWith
namespace Go.Proofs.Ytmjhofgcfolelaa
open Go.RowKit Go.Shelf
set_option linter.unusedVariables false
attribute [local go_sem] Oper.semAt_some

/-- What the law's loop keeps: the row of all that have come. -/
structure LI (w : World) (KB : Nat) (L : List Int) (pre : List Int) (T : Nat → Prop) (W : World) : Prop where
  pfx : pre <+: L
  row : ∃ v, T = TBox KB v ∧ Boxed W KB 32 v ∧ RowI W KB v pre
  res : Boxed W w.heap.size 4 (.bool false)
  bel : Below w.heap.size w W
theorem li_own {w : World} {KB : Nat} {L : List Int} (hK : w.heap.size < KB) (B' : Nat) (hB : KB + 1 ≤ B') (T : Nat → Prop) : OwnFrom B' fun pre W => LI w KB L pre T W := by
  rintro pre X Y row ⟨h1, ⟨v, e, hb, hr⟩, h3, h4⟩ hg hr'
  refine ⟨h1, ⟨v, e, hb.kept hg fun e => by have := (hr' _ e.symm).1; omega, World.ownsRow.kept hr hg ?_⟩, h3.kept hg fun e => by have := (hr' _ e.symm).1; omega, ownFrom_below (β := Unit) (Nat.le_refl _) (show w.heap.size ≤ B' by omega) () X Y row h4 hg hr'⟩
  rcases hr.2 with ⟨rfl, _⟩ | ⟨g, cap, cur, rfl, _, hgb, _⟩
  · exact .inl rfl
  · refine .inr fun e' => ?_
    obtain ⟨_, o, ho, hc⟩ := hr' g e'.symm
    rw [hgb] at ho
    cases ho
    cases hc

/-- The ways that go on alone. -/
def onlyN (Q : Exit → Act → World → Prop) : Exit → Act → World → Prop
  | .normal, a, w => Q .normal a w
  | _, _, _ => False
theorem onlyN_in {Q : Exit → Act → World → Prop} {a : Act} {w : World} (h : Q .normal a w) : onlyN Q .normal a w := h
theorem onlyN_out {Q : Exit → Act → World → Prop} {e : Exit} {a : Act} {w : World} (h : onlyN Q e a w) : Q e a w := by
  cases e with
  | normal => exact h
  | _ => exact h.elim

set_option maxRecDepth 100000 in
set_option maxHeartbeats 4000000 in
theorem hcalls_in (n s : ByteArray) (a k : Int) (w : World) (hn : n.size ≤ 400) (hs : s.size ≤ 400) (hk : k ≤ 400) :
    Calls Try.prog 4 #[.string n, .string s, .int .u64 a, .int .i64 k] w fun e w' => e = .returned (.bool true) ∧ Below w.heap.size w w' := by
  have hnm : n.size ≤ maxLen := by unfold maxLen; omega
  have hsm : s.size ≤ maxLen := by unfold maxLen; omega
  have hL := Lib.hid lives13
  obtain ⟨V, hV⟩ : ∃ V, sumH (bs s) = V := ⟨_, rfl⟩
  obtain ⟨U, hU⟩ : ∃ U, moreH a (bs s) = U := ⟨_, rfl⟩
  obtain ⟨M, hM⟩ : ∃ M, nameH (bs n) = M := ⟨_, rfl⟩
  obtain ⟨S, hS⟩ : ∃ S, slotH (bs n) k = S := ⟨_, rfl⟩
  have g1 := Lib.hid (gSum hsm hV)
  have g2 := Lib.hid (gRSum hsm hV)
  have g3 := Lib.hid (gMore a hsm hU)
  have g4 := Lib.hid (gRMore a hsm hU)
  have g5 := Lib.hid (gName hnm hM)
  have g6 := Lib.hid (gRName hnm hM)
  have g7 := Lib.hid (gSlot hnm (k := k) (by omega) hS)
  have g8 := Lib.hid (gRSlot hnm (k := k) (by omega) hS)
  have hP := Lib.hid fun wx => Probe_any hnm (k := k) (by omega) wx
  have hR := Lib.hid fun wx => rProbe_any n k wx hnm hk
  rw [hS] at hP hR
  have hS0 : 0 ≤ S ∧ S ≤ 400 := by
    rcases Int.lt_or_le k 1 with h | h
    · rw [← hS, show slotH (bs n) k = 0 from if_pos h]; omega
    · have := slotH_range (bs n) h
      omega
  have hLl : (rnd S k).length ≤ 400 := by
    unfold rnd
    rw [List.length_append, upto_len, upto_len]
    rcases Int.lt_or_le k 1 with h | h
    · have : S = 0 := by rw [← hS]; exact if_pos h
      omega
    · have := slotH_range (bs n) h
      omega
  have n1 : (V != V) = false := by simp
  have n2 : (U != U) = false := by simp
  have n3 : (M != M) = false := by simp
  have n4 : (S != S) = false := by simp
  have b0 := Boxed.new w 4 (.bool false)
  have hB0 : Below w.heap.size w (w.alloc (.cells #[.bool false] 4)) := (Below.refl _ w).alloc (Nat.le_refl _) _
  clear hV hU hM hS
  refine (callsIn_wide (n := 19)).1 ?_
  refine callsIn_of_wp_marks Try.func4 rfl trivial ?_ rfl
  simp only [Try.ntmps4, List.size_toArray, List.length_cons, List.length_nil, Nat.reduceAdd, Nat.reduceSub, Array.replicate_succ, Array.replicate_zero, List.push_toArray, List.append_toArray, List.nil_append, List.cons_append]
  refine wpIn_wide.2 ?_
  have HB0 := Lib.hid hB0
  clear hB0
  go_wp2_with fail
  refine (hL.out.go _).mono ?_
  rintro e w1 ⟨rfl, hb⟩
  have HB1 := Lib.hid (HB0.out.trans (hb.mono HB0.out.size))
  have b1 := boxed_below b0 hb
  clear hb b0
  go_wp2_with fail
  refine (g1.out.go _).mono ?_
  rintro e w2 ⟨rfl, hb⟩
  have HB2 := Lib.hid (HB1.out.trans (hb.mono HB1.out.size))
  have b2 := boxed_below b1 hb
  clear hb b1
  go_wp2_with fail
  refine (g2.out.go _).mono ?_
  rintro e w3 ⟨rfl, hb⟩
  have HB3 := Lib.hid (HB2.out.trans (hb.mono HB2.out.size))
  have b3 := boxed_below b2 hb
  clear hb b2
  go_wp2_with fail
  refine (g3.out.go _).mono ?_
  rintro e w4 ⟨rfl, hb⟩
  have HB4 := Lib.hid (HB3.out.trans (hb.mono HB3.out.size))
  have b4 := boxed_below b3 hb
  clear hb b3
  go_wp2_with fail
  refine (g4.out.go _).mono ?_
  rintro e w5 ⟨rfl, hb⟩
  have HB5 := Lib.hid (HB4.out.trans (hb.mono HB4.out.size))
  have b5 := boxed_below b4 hb
  clear hb b4
  go_wp2_with fail
  refine (g5.out.go _).mono ?_
  rintro e w6 ⟨rfl, hb⟩
  have HB6 := Lib.hid (HB5.out.trans (hb.mono HB5.out.size))
  have b6 := boxed_below b5 hb
  clear hb b5
  go_wp2_with fail
  refine (g6.out.go _).mono ?_
  rintro e w7 ⟨rfl, hb⟩
  have HB7 := Lib.hid (HB6.out.trans (hb.mono HB6.out.size))
  have b7 := boxed_below b6 hb
  clear hb b6
  go_wp2_with fail
  refine (g7.out.go _).mono ?_
  rintro e w8 ⟨rfl, hb⟩
  have HB8 := Lib.hid (HB7.out.trans (hb.mono HB7.out.size))
  have b8 := boxed_below b7 hb
  clear hb b7
  go_wp2_with fail
  refine (g8.out.go _).mono ?_
  rintro e w9 ⟨rfl, hb⟩
  have HB9 := Lib.hid (HB8.out.trans (hb.mono HB8.out.size))
  have b9 := boxed_below b8 hb
  clear hb b8
  go_wp2_with fail
  refine (hP.out _).mono ?_
  rintro e wp ⟨v, g, rfl, hv⟩
  obtain ⟨hval, hb2, hge, hlt, p1, p2⟩ := hv
  subst hval
  have hnn := not_nil g
  have b9 := boxed_below b9 hb2
  have HBp := Lib.hid (HB9.out.trans (hb2.mono HB9.out.size))
  have hz9 := HB9.out.size
  have hwl := b9.lt
  clear hb2
  go_wp2
  obtain ⟨KB, hKB⟩ : ∃ KB, wp.heap.size = KB := ⟨_, rfl⟩
  obtain ⟨W0, hW0⟩ : ∃ W0, wp.alloc (.cells #[.slice none 0 0] 32) = W0 := ⟨_, rfl⟩
  have hzW : W0.heap.size = KB + 1 := by rw [← hW0, ← hKB]; simp
  have r0 : Boxed W0 KB 32 (.slice none 0 0) := by rw [← hW0, ← hKB]; exact Boxed.new _ _ _
  have hwKB : w.heap.size < KB := by omega
  have hgK : g + 1 < KB := by omega
  have hI0 : LI w KB (rnd S k) [] (TBox KB (.slice none 0 0)) W0 := ⟨List.nil_prefix, ⟨_, rfl, r0, RowI.nil _ _⟩, by rw [← hW0]; exact b9.alloc _, by rw [← hW0]; exact HBp.out.alloc (by omega) _⟩
  have q1 : Boxed W0 g 3 (.int .i64 S) := by rw [← hW0]; exact p1.alloc _
  have q2 : Boxed W0 (g + 1) 3 (.int .i64 k) := by rw [← hW0]; exact p2.alloc _
  obtain ⟨i0, hi, hz0, hz1, hz2⟩ := info_parts infoIn
  have HBp2 := Lib.hid HBp.out
  rw [hW0]
  simp only [hKB]
  clear hW0 hKB p1 p2 b9 hnn HBp r0 HB0 HB1 HB2 HB3 HB4 HB5 HB6 HB7 HB8 HB9 hz9 hwl
  refine (wpIn_wide (n := 18)).1 ?_
  refine range_own1 rfl (by decide) (gf := 31) (bd := #[]) (lb := #[.pointer (some ⟨g, 0, none⟩), .pointer (some ⟨g + 1, 0, none⟩)]) rfl trivial (enters_of Try.func31 (by kernel_rfl) rfl)
    (round_seq _ g (by decide) S k W0 hS0.1 (by omega) (by omega) (by omega) q1 q2) (Below.refl _ _) (fun b h => by rcases h with rfl | rfl <;> omega) (fun _ => rfl)
    (LI w KB (rnd S k)) (fun _ _ _ => False) (li_own hwKB _ (by omega)) (fun _ _ _ _ _ h _ _ => h) (fun _ e => by cases e) ?hfresh
    (TBox KB (.slice none 0 0)) (fun b h => by unfold TBox Value.ownBlock; rcases h with rfl | rfl <;> simp <;> omega) hI0 ?a1 ?assign ?body ?done ?stop
  case assign =>
    intro l2 x W' K hK
    gi_wp2
    exact hK
  case stop => exact fun _ _ _ _ _ _ h _ => h.elim
  case hfresh =>
    rintro pre T W' h
    obtain ⟨v, rfl, hb, hr⟩ := h.row
    exact tbox_fresh hb hr
  case body =>
    rintro l2 pre x T W _ _ hI hlt
    obtain ⟨v, rfl, hv, hrow⟩ := hI.row
    have hpl : pre.length < (rnd S k).length := by have := hlt.length_le; rw [List.length_append, List.length_singleton] at this; omega
    have hp4 : pre.length < 400 := by omega
    have hp5 : ¬ (400 : Int) < (pre.length : Int) := by omega
    have hc := hv.cell
    have hlo := hv.lt
    have hsh := hrow.shape
    have hvs : ∃ A cap, v = .slice A pre.length cap := by
      rcases hsh with ⟨h1, h2⟩ | ⟨g, cap, h1⟩
      · exact ⟨none, 0, by rw [h1, h2]; rfl⟩
      · exact ⟨_, cap, h1⟩
    obtain ⟨A, cap, hvA⟩ := hvs
    subst hvA
    have HI := Lib.hid hI
    have HLT := Lib.hid hlt
    clear hI hlt hsh hpl
    gi_wp2_with (gi_at_builtin; refine wpListIn_append_own_at _ rfl _ _ 32 rfl KB 3 i0 (.int .i64 0) 1 8 Try.underlying32 hi hz0 hz1 hz2 rfl (by decide) _ _ _ rfl (World.ownsRow.alloc hrow _) ⟨W.heap.size, 0, none⟩ 1 1 [vI x] rfl rfl (cell_one_new _ _ _) (fun u hu => by rw [List.mem_singleton.1 hu]; rfl) (by unfold maxLen; omega) (by omega) (by simp; omega) ?_; intro v' w4 hown' hgrow _ hob; obtain ⟨g', cap', rfl⟩ := ownsRow_succ hown'; obtain ⟨hv1, hv2, hr2, hk2, hb2⟩ := hv.appended (by decide) hrow (by omega) (Nat.le_refl _) hown' hgrow; have hc1 := hv1.cell; have hf1 := hv1.frozen)
    have hkp := kpt_append (B := KB) hgrow hob
    refine ⟨TBox KB (.slice (some ⟨g', 0, none⟩) (pre.length + 1) cap'), hkp, HLT.out, ⟨_, rfl, hv2, RowI.snoc hr2⟩, ?_, HI.out.bel.trans (hb2.mono (by omega))⟩
    have hnb : ¬ TBox KB (.slice A pre.length cap) w.heap.size := by
      rintro (h | h)
      · omega
      · have := (World.ownsRow.lt hrow _ h).1; omega
    exact (hkp.at HI.out.res hnb).1
  case done =>
    rintro D xs T W hD hnD rfl hI hK
    obtain ⟨v, rfl, hv, hrow⟩ := hI.row
    have hres := hI.res
    have HB := Lib.hid hI.bel
    have hc := hv.cell
    have hRW := Lib.hid hrow
    have hK0 := hK
    clear hI
    go_wp2_with fail
    have hss : RowI W KB v (rnd S k) := hRW.out
    have harm : ∀ wx, Below W.heap.size W wx → wx.cell? ⟨KB, 0, none⟩ = some v := fun wx hb => (boxed_below hv hb).cell
    have HR := Lib.hid hR.out
    clear hR
    refine Code.wp_mono (Q := onlyN _) (fun e a w h => onlyN_out h) ?_
    go_region_with (first | (go_at_call 19; (with_reducible refine (HR.out _).mono ?_); rintro e wq ⟨v2, rfl, hr2, hbq⟩; have hcq : wq.cell? ⟨KB, 0, none⟩ = some v := (boxed_below (boxed_drew hv) hbq).cell; have hvq := boxed_below (boxed_drew hres) hbq; have hrq : RowI wq KB v (rnd S k) := RowI.next (w := W.drew) hRW.out hbq) | (go_at_call 18; (with_reducible refine (Same_ints wq _ _ v v2 (rnd S k) hrq hr2 (by omega)).mono ?_); rintro e wr ⟨rfl, hbr⟩; have hvr := boxed_below hvq hbr; have hcr := hvr.cell; have hfr := hvr.frozen))
    all_goals
      have hne : D ≠ w.heap.size := by omega
      have hKr := below_defer hbr (below_defer (w := W.drew) hbq hK)
      have HE := Lib.hid (next (next (w1 := W.drew) HB.out.drew hbq) hbr)
      refine onlyN_in ?_
      clear hbr hbq
      go_wp2
      have y1 : (wr.setCell ⟨w.heap.size, 0, none⟩ (.bool true)).heap[D]? = some (.deferred (some [])) := (Below.heap_setCell wr ⟨w.heap.size, 0, none⟩ _ D hne).trans hKr
      have y3 : Boxed ((wr.setCell ⟨w.heap.size, 0, none⟩ (.bool true)).putObj D (.deferred none)) w.heap.size 4 (.bool true) := (World.putObj_heap_other (Ne.symm hne)).trans (hvr.set (.bool true))
      have hbf := (HE.out.setCell (p := ⟨w.heap.size, 0, none⟩) (Nat.le_refl _) (.bool true)).trans (belowK_b (w := w) (Nat.le_refl _) _ D _ (.deferred none) (by omega) y1 rfl rfl)
      have cz := y3.cell
      refine ⟨by simp, .inl ⟨_, _, rfl, run_takeDeferred y1, ?_⟩⟩
      refine ⟨.bool true, ?_, rfl, hbf⟩
      simp [results, Try.f4, go_sem, cz]

set_option maxHeartbeats 4000000 in
theorem hcalls_out (n s : ByteArray) (a k : Int) (w : World) (hn : n.size ≤ maxLen) (hs : s.size ≤ maxLen) (h : 400 < n.size ∨ n.size ≤ 400 ∧ 400 < s.size) :
    Calls Try.prog 4 #[.string n, .string s, .int .u64 a, .int .i64 k] w fun e w' => e = .returned (.bool true) ∧ Below w.heap.size w w' := by
  have hL := Lib.hid lives13
  have b0 := Boxed.new w 4 (.bool false)
  have hB0 : Below w.heap.size w (w.alloc (.cells #[.bool false] 4)) := (Below.refl _ w).alloc (Nat.le_refl _) _
  unfold maxLen at hn hs
  rcases h with h | ⟨h1, h⟩
  all_goals
    go_enter Try.func4, Try.ntmps4
    go_wp2_with fail
    refine (hL.out.go _).mono ?_
    rintro e w1 ⟨rfl, hb1⟩
    have b0 := boxed_below b0 hb1
    have hB1 := Lib.hid (hB0.trans (hb1.mono hB0.size))
    clear hb1
    have c0 := b0.cell
    have f0 := b0.frozen
    go_wp2
    have c4 := (b0.set (.bool true)).cell
    refine bodyPost_ret (v := .bool true) (by simp [results, Try.f4, go_sem, c4]) rfl ?_
    exact ⟨rfl, hB1.out.setCell (p := ⟨w.heap.size, 0, none⟩) (Nat.le_refl _) _⟩

set_option maxHeartbeats 4000000 in
theorem hcalls_many (n s : ByteArray) (a k : Int) (w : World) (hn : n.size ≤ 400) (hs : s.size ≤ 400) (hk : 400 < k) (hk2 : k ≤ 9223372036854775807) :
    Calls Try.prog 4 #[.string n, .string s, .int .u64 a, .int .i64 k] w fun e w' => e = .returned (.bool true) ∧ Below w.heap.size w w' := by
  have hnm : n.size ≤ maxLen := by unfold maxLen; omega
  have hsm : s.size ≤ maxLen := by unfold maxLen; omega
  have hL := Lib.hid lives13
  obtain ⟨V, hV⟩ : ∃ V, sumH (bs s) = V := ⟨_, rfl⟩
  obtain ⟨U, hU⟩ : ∃ U, moreH a (bs s) = U := ⟨_, rfl⟩
  obtain ⟨M, hM⟩ : ∃ M, nameH (bs n) = M := ⟨_, rfl⟩
  obtain ⟨S, hS⟩ : ∃ S, slotH (bs n) k = S := ⟨_, rfl⟩
  have g1 := Lib.hid (gSum hsm hV)
  have g2 := Lib.hid (gRSum hsm hV)
  have g3 := Lib.hid (gMore a hsm hU)
  have g4 := Lib.hid (gRMore a hsm hU)
  have g5 := Lib.hid (gName hnm hM)
  have g6 := Lib.hid (gRName hnm hM)
  have g7 := Lib.hid (gSlot hnm (k := k) hk2 hS)
  have g8 := Lib.hid (gRSlot hnm (k := k) hk2 hS)
  have n1 : (V != V) = false := by simp
  have n2 : (U != U) = false := by simp
  have n3 : (M != M) = false := by simp
  have n4 : (S != S) = false := by simp
  have b0 := Boxed.new w 4 (.bool false)
  have hB0 : Below w.heap.size w (w.alloc (.cells #[.bool false] 4)) := (Below.refl _ w).alloc (Nat.le_refl _) _
  clear hV hU hM hS
  go_enter Try.func4, Try.ntmps4
  have HB0 := Lib.hid hB0
  clear hB0
  go_wp2_with fail
  refine (hL.out.go _).mono ?_
  rintro e w1 ⟨rfl, hb⟩
  have HB1 := Lib.hid (HB0.out.trans (hb.mono HB0.out.size))
  have b1 := boxed_below b0 hb
  clear hb b0
  go_wp2_with fail
  refine (g1.out.go _).mono ?_
  rintro e w2 ⟨rfl, hb⟩
  have HB2 := Lib.hid (HB1.out.trans (hb.mono HB1.out.size))
  have b2 := boxed_below b1 hb
  clear hb b1
  go_wp2_with fail
  refine (g2.out.go _).mono ?_
  rintro e w3 ⟨rfl, hb⟩
  have HB3 := Lib.hid (HB2.out.trans (hb.mono HB2.out.size))
  have b3 := boxed_below b2 hb
  clear hb b2
  go_wp2_with fail
  refine (g3.out.go _).mono ?_
  rintro e w4 ⟨rfl, hb⟩
  have HB4 := Lib.hid (HB3.out.trans (hb.mono HB3.out.size))
  have b4 := boxed_below b3 hb
  clear hb b3
  go_wp2_with fail
  refine (g4.out.go _).mono ?_
  rintro e w5 ⟨rfl, hb⟩
  have HB5 := Lib.hid (HB4.out.trans (hb.mono HB4.out.size))
  have b5 := boxed_below b4 hb
  clear hb b4
  go_wp2_with fail
  refine (g5.out.go _).mono ?_
  rintro e w6 ⟨rfl, hb⟩
  have HB6 := Lib.hid (HB5.out.trans (hb.mono HB5.out.size))
  have b6 := boxed_below b5 hb
  clear hb b5
  go_wp2_with fail
  refine (g6.out.go _).mono ?_
  rintro e w7 ⟨rfl, hb⟩
  have HB7 := Lib.hid (HB6.out.trans (hb.mono HB6.out.size))
  have b7 := boxed_below b6 hb
  clear hb b6
  go_wp2_with fail
  refine (g7.out.go _).mono ?_
  rintro e w8 ⟨rfl, hb⟩
  have HB8 := Lib.hid (HB7.out.trans (hb.mono HB7.out.size))
  have b8 := boxed_below b7 hb
  clear hb b7
  go_wp2_with fail
  refine (g8.out.go _).mono ?_
  rintro e w9 ⟨rfl, hb⟩
  have HB9 := Lib.hid (HB8.out.trans (hb.mono HB8.out.size))
  have b9 := boxed_below b8 hb
  clear hb b8
  have c9 := b9.cell
  have f9 := b9.frozen
  go_wp2
  have c4 := (b9.set (.bool true)).cell
  refine bodyPost_ret (v := .bool true) (by simp [results, Try.f4, go_sem, c4]) rfl ?_
  exact ⟨rfl, HB9.out.setCell (p := ⟨w.heap.size, 0, none⟩) (Nat.le_refl _) _⟩

theorem HashCalls_w0 (n s : ByteArray) (a k : Int) (hn : n.size ≤ maxLen) (hs : s.size ≤ maxLen) (hk : k ≤ 9223372036854775807) (w : World) :
    Calls Try.prog 4 #[.string n, .string s, .int .u64 a, .int .i64 k] w fun e w' => e = .returned (.bool true) ∧ Below w.heap.size w w' := by
  by_cases h1 : n.size ≤ 400
  · by_cases h2 : s.size ≤ 400
    · rcases Int.lt_or_le 400 k with h | h
      · exact hcalls_many n s a k w h1 h2 h hk
      · exact hcalls_in n s a k w h1 h2 h
    · exact hcalls_out n s a k w hn hs (.inr ⟨h1, by omega⟩)
  · exact hcalls_out n s a k w hn hs (.inl (by omega))
theorem HashCalls_walk (n s : ByteArray) (a k : Int) (hn : n.size ≤ maxLen) (hs : s.size ≤ maxLen) (_ha : (Lit.int .u64 a).wf = true) (hk : (Lit.int .i64 k).wf = true) (w : World) :
    Calls Try.prog 4 #[.string n, .string s, .int .u64 a, .int .i64 k] w fun e w' => e = .returned (.bool true) ∧ Below w.heap.size w w' :=
  HashCalls_w0 n s a k hn hs (wf64 hk) w
end Go.Proofs.Ytmjhofgcfolelaa
