/-
  What the laws on messages share: rows of records appended whole; Own, Records: the walks. Condition: Go can have the message; its rows are short.
-/
import Derived.Test.YtdpgcgaalamgkaaGreatZk30
import Derived.Laws.OwnMore
namespace Go.Proofs.YtdpgcgaalamgkaaGreat
open Go.RowKit Go.Maps
set_option linter.unusedVariables false
set_option maxRecDepth 100000

theorem CRow.news {w : World} {a : Addr} {n cap : Nat} {L : List RV} (h : CRow csR 16 w (.slice (some a) n cap) L) : ∀ j u, (allC csR L)[j]? = some u → w.cell? (a.add j) = some u := by
  intro j u hu
  have hj : j < L.length * 16 := by
    have := (List.getElem?_eq_some_iff.1 hu).1
    rwa [allC_len csR_len] at this
  have hq : j / 16 < L.length := by omega
  obtain ⟨g, o, e, _, hr⟩ := h.at (j / 16) hq
  injection e with e
  subst e
  have hm := allC_at csR_len L (j / 16) (j % 16) hq (Nat.mod_lt _ (by decide))
  rw [show j / 16 * 16 + j % 16 = j by omega] at hm
  rw [Addr.add_mid]
  have := hr (j % 16) u (by rw [← hm]; exact hu)
  rw [show o + j / 16 * 16 + j % 16 = o + j by omega] at this
  exact this
theorem run_app {w : World} {base : Nat} {v sv : Value} {X Y : List RV} (hown : RowR w base v X) (ty : TypeId) (hr : CRow csR 16 w sv Y) (hn : NilOk sv) (hY : ∀ y ∈ Y, FitR w y.1 y.2) (hf : ∀ y ∈ Y, ∀ j, blk y.2 = some j → v.ownBlock ≠ some j) (hfew : X.length + Y.length ≤ 100000) (hbase : base ≤ w.heap.size) :
    ∃ v' w', (Builtin.append_ #[52, 52] ty #[v, sv]).run Tryz.prog w = .ok v' w' ∧ RowR w' base v' (X ++ Y) ∧ Below base w w' := by
  obtain ⟨i, hi, hz, hsz, hb⟩ := info_parts infoRb
  obtain ⟨A, cap, rfl, hl, hc, _⟩ := hr.shape
  cases A with
  | none =>
    have hc0 := hn _ _ rfl
    subst hc0
    have hY0 : Y = [] := List.eq_nil_of_length_eq_zero (Nat.le_zero.1 hl)
    subst hY0
    refine ⟨v, w, run_append_owned_none (P := Tryz.prog) w base 52 ty 32 i 16 Tryz.underlying52 hi v X.length (allC csR X) hown.own, ?_, Below.refl _ _⟩
    rw [List.append_nil]
    exact hown
  | some a =>
    obtain ⟨v', w', h1, h2, h3, _, h5⟩ := run_append_own_at (P := Tryz.prog) w base 52 ty 32 i _ 16 160 Tryz.underlying52 hi hz hsz hb rfl (by decide) v X.length (allC csR X) hown.own a Y.length cap (allC csR Y) (allC_len csR_len Y) hr.news (fun u hu => by
      obtain ⟨y, hy, hu'⟩ := List.mem_flatMap.1 hu
      exact csR_one (hY y hy) u hu') (by unfold maxLen; omega) (by omega) hbase
    have ho : OwnC csR 16 32 w' base v' (X ++ Y) := by
      unfold OwnC
      rw [List.length_append, allC_app]
      exact h2
    exact ⟨v', w', h1, hown.snoc ho h3 h5 hY hf, hown.own.app_below h3 hbase⟩
section
variable {w : World} {ops : Array Oper} {rest : List Oper} {o : Oper} {a : Act} {Q : Exit → Act → World → Prop}
theorem wpList_app (hgd : o.guard = none) (s x : Operand) (ho : o.op = .call { callee := .builtin .append, args := #[s, x], argTypes := #[52, 52] }) {base : Nat} {v sv : Value} {X Y : List RV} (hs : a.eval s = v) (hx : a.eval x = sv) (hown : RowR w base v X) (hr : CRow csR 16 w sv Y) (hn : NilOk sv) (hY : ∀ y ∈ Y, FitR w y.1 y.2) (hf : ∀ y ∈ Y, ∀ j, blk y.2 = some j → v.ownBlock ≠ some j) (hfew : X.length + Y.length ≤ 100000) (hbase : base ≤ w.heap.size)
    (h : ∀ v' w', RowR w' base v' (X ++ Y) → Below base w w' → wpList Tryz.prog ops Q rest (a.put o.dst v') w') : wpList Tryz.prog ops Q (o :: rest) a w := by
  refine wpList_plain hgd fun K hK => ?_
  obtain ⟨v', w', h1, h2, h3⟩ := run_app hown o.type hr hn hY hf hfew hbase
  unfold Oper.wp execOp
  simp only [ho, resolve, invoke, builtin, Sem.run_bind, Sem.run_pure, Result.andThen_ok, List.map_toArray, List.map_cons, List.map_nil, hs, hx, h1]
  exact hK _ _ (h v' w' h2 h3)
theorem step_app {K : Act → World → Prop} {E : Prop} (hgd : o.guard = none) (s x : Operand) (ho : o.op = .call { callee := .builtin .append, args := #[s, x], argTypes := #[52, 52] }) {base : Nat} {v sv : Value} {X Y : List RV} (hs : a.eval s = v) (hx : a.eval x = sv) (hown : RowR w base v X) (hr : CRow csR 16 w sv Y) (hn : NilOk sv) (hY : ∀ y ∈ Y, FitR w y.1 y.2) (hf : ∀ y ∈ Y, ∀ j, blk y.2 = some j → v.ownBlock ≠ some j) (hfew : X.length + Y.length ≤ 100000) (hbase : base ≤ w.heap.size)
    (h : ∀ v' w', RowR w' base v' (X ++ Y) → Below base w w' → K (a.put o.dst v') w') :
    if Region.wanted o (yielded ops a.tmps) = true then Oper.wp Tryz.prog o a w K Q else E := by
  have hw : Region.wanted o (yielded ops a.tmps) = true := by simp [Region.wanted, hgd]
  rw [if_pos hw]
  obtain ⟨v', w', h1, h2, h3⟩ := run_app hown o.type hr hn hY hf hfew hbase
  unfold Oper.wp execOp
  simp only [ho, resolve, invoke, builtin, Sem.run_bind, Sem.run_pure, Result.andThen_ok, List.map_toArray, List.map_cons, List.map_nil, hs, hx, h1]
  exact h v' w' h2 h3
end
/-- A row of its own, of those that came. -/
def OwnR (w : World) (base : Nat) (L : List RV) (e : Ending) (w' : World) : Prop := ∃ v, e = .returned v ∧ RowR w' base v L ∧ Below w.heap.size w w'
theorem ownR_far {w : World} {base : Nat} {v : Value} {X Y : List RV} (h : RowR w base v X) (hlo : ∀ y ∈ Y, ∀ j, blk y.2 = some j → j < base) : ∀ y ∈ Y, ∀ j, blk y.2 = some j → v.ownBlock ≠ some j := fun y hy j hj e => by
  have h1 := hlo y hy j hj
  have h2 := (h.own.block e).1
  omega
set_option maxHeartbeats 1000000 in
theorem ownRec_any (sv : Value) (L : List RV) (w : World) (hr : CRow csR 16 w sv L) (hn : NilOk sv) (hf : ∀ x ∈ L, FitR w x.1 x.2) (hfew : L.length ≤ 100000) :
    Calls Tryz.prog 94 #[sv] w (OwnR w w.heap.size L) := by
  have h0 : RowR (w.alloc (.cells #[] 32)) w.heap.size (.slice (some ⟨w.heap.size, 0, none⟩) 0 0) [] :=
    ⟨⟨rfl, .inr ⟨w.heap.size, 0, #[], rfl, Nat.le_refl _, Lies.new _ _ _, Nat.le_refl _, Nat.zero_le _, rfl, rfl⟩⟩, fun x h => (nomatch h), fun x h => (nomatch h)⟩
  have hB : Below w.heap.size w (w.alloc (.cells #[] 32)) := (Below.refl _ _).alloc (Nat.le_refl _) _
  have H0 := Lib.hid h0
  have HB := Lib.hid hB
  have HR := Lib.hid (hr.below hB)
  have HN := Lib.hid hn
  have HF := Lib.hid fun x hx => (hf x hx).next hB
  have HLo : Hid (∀ y ∈ L, ∀ j, blk y.2 = some j → j < w.heap.size) := Lib.hid fun y hy j hj => blk_ltC (hf y hy).d.row j hj
  have HFew : Hid (([] : List RV).length + L.length ≤ 100000) := Lib.hid (by simpa using hfew)
  clear h0 hB hr hn hf hfew
  go_enter Tryz.func94, Tryz.ntmps94
  go_wp2_with (at_builtin; refine wpList_app rfl (.tmp 3) (.tmp 4) rfl rfl rfl H0.out HR.out HN.out HF.out (ownR_far H0.out HLo.out) HFew.out HB.out.size ?_; intro v5 w5 h5 hb5; have HO5 := Lib.hid h5; have HB5 := Lib.hid (HB.out.trans hb5); clear h5 hb5)
  go_ret
  exact ⟨v5, rfl, HO5.out, HB5.out⟩
set_option maxHeartbeats 4000000 in
theorem records_any (m : MM) (vq va vu vm : Value) (w : World) (hf : FitM w m vq va vu vm) (hfew : m.recs.length ≤ 100000) :
    Calls Tryz.prog 39 #[msgV m.h vq va vu vm] w (OwnR w w.heap.size m.recs) := by
  have hlo : ∀ y ∈ m.recs, ∀ j, blk y.2 = some j → j < w.heap.size := fun y hy j hj => blk_ltC (hf.rs y hy).d.row j hj
  have hlen : m.a.length + m.u.length + m.m.length ≤ 100000 := by unfold MM.recs at hfew; rw [List.length_append, List.length_append] at hfew; exact hfew
  obtain ⟨Aq, cq, Aa, ca, Au, cu, Am, cm, rfl, rfl, rfl, rfl, _⟩ := hf.shapes
  obtain ⟨C, hC⟩ : ∃ C, cellsM m.h (.slice Aq m.q.length cq) (.slice Aa m.a.length ca) (.slice Au m.u.length cu) (.slice Am m.m.length cm) = C := ⟨_, rfl⟩
  obtain ⟨V, hV⟩ : ∃ V, msgV m.h (.slice Aq m.q.length cq) (.slice Aa m.a.length ca) (.slice Au m.u.length cu) (.slice Am m.m.length cm) = V := ⟨_, rfl⟩
  have hbx := box_m m.h Aq Aa Au Am m.q.length m.a.length m.u.length m.m.length cq ca cu cm w
  obtain ⟨W, hW⟩ : ∃ W, W = w.alloc (.cells C 54) := ⟨_, rfl⟩
  rw [hC, hV, ← hW] at hbx
  have hB0 : Below w.heap.size w W := by rw [hW]; exact (Below.refl _ _).alloc (Nat.le_refl _) _
  have hL0 : Lies W w.heap.size 54 C := by rw [hW]; exact Lies.new _ _ _
  have HL : Hid (∀ wx, Below W.heap.size W wx → wx.cell? ⟨w.heap.size, 15, none⟩ = some (.slice Aa m.a.length ca) ∧ wx.cell? ⟨w.heap.size, 16, none⟩ = some (.slice Au m.u.length cu) ∧ wx.cell? ⟨w.heap.size, 17, none⟩ = some (.slice Am m.m.length cm)) := Lib.hid fun wx hb => by
    have l := hL0.next hb
    rw [← hC] at l
    exact ⟨l.cell 15, l.cell 16, l.cell 17⟩
  have HBx := Lib.hid hbx
  have HB0 := Lib.hid hB0
  have HF := Lib.hid hf
  have HLo := Lib.hid hlo
  have HLen := Lib.hid hlen
  have hsz : w.heap.size ≤ W.heap.size := hB0.size
  have HOwn := Lib.hid fun wx (hb : Below w.heap.size w wx) => ownRec_any _ _ wx (hf.a.below hb) hf.nl.1 (fun x hx => (hf.rs x (mem_recs.2 (.inl hx))).next hb) (by omega)
  rw [hV]
  clear hbx hB0 hL0 hC hV hW hf hlo hlen hfew
  go_enter Tryz.func39, Tryz.ntmps39
  go_wp2_with (refine wpList_box1 rfl 54 (.tmp 0) rfl V _ rfl HBx.out ?_)
  have HD : Hid (Below W.heap.size W W.drew) := Lib.hid ⟨rfl, rfl, rfl, Nat.le_refl _, fun _ _ => rfl⟩
  have HU : Hid (∀ wx, Below W.heap.size W wx → ∀ v X, RowR wx W.heap.size v X → X.length ≤ m.a.length → CRow csR 16 wx (.slice Au m.u.length cu) m.u ∧ NilOk (.slice Au m.u.length cu) ∧ (∀ y ∈ m.u, FitR wx y.1 y.2) ∧ (∀ y ∈ m.u, ∀ j, blk y.2 = some j → v.ownBlock ≠ some j) ∧ X.length + m.u.length ≤ 100000) := Lib.hid fun wx hb v X hr hx => by
    have hw := HB0.out.trans (hb.mono HB0.out.size)
    exact ⟨HF.out.u.below hw, HF.out.nl.2.1, fun y hy => (HF.out.rs y (mem_recs.2 (.inr (.inl hy)))).next hw, ownR_far hr fun y hy j hj => Nat.lt_of_lt_of_le (HLo.out y (mem_recs.2 (.inr (.inl hy))) j hj) hsz, by have := HLen.out; omega⟩
  have HM : Hid (∀ wx, Below W.heap.size W wx → ∀ v X, RowR wx W.heap.size v X → X.length ≤ m.a.length + m.u.length → CRow csR 16 wx (.slice Am m.m.length cm) m.m ∧ NilOk (.slice Am m.m.length cm) ∧ (∀ y ∈ m.m, FitR wx y.1 y.2) ∧ (∀ y ∈ m.m, ∀ j, blk y.2 = some j → v.ownBlock ≠ some j) ∧ X.length + m.m.length ≤ 100000) := Lib.hid fun wx hb v X hr hx => by
    have hw := HB0.out.trans (hb.mono HB0.out.size)
    exact ⟨HF.out.rm.below hw, HF.out.nl.2.2, fun y hy => (HF.out.rs y (mem_recs.2 (.inr (.inr hy)))).next hw, ownR_far hr fun y hy j hj => Nat.lt_of_lt_of_le (HLo.out y (mem_recs.2 (.inr (.inr hy))) j hj) hsz, by have := HLen.out; omega⟩
  go_region_held3 (fun w' => w'.cell? ⟨w.heap.size, 15, none⟩ = some (.slice Aa m.a.length ca) ∧ w'.cell? ⟨w.heap.size, 16, none⟩ = some (.slice Au m.u.length cu) ∧ w'.cell? ⟨w.heap.size, 17, none⟩ = some (.slice Am m.m.length cm)) (first | exact HL.out _ HB5.out | exact HL.out _ HB4.out | exact HL.out _ HB3.out | exact HL.out _ HD.out | go_keep) (first | (go_at_call 94; (refine (HOwn.out _ (HB0.out.trans (HD.out.mono HB0.out.size))).mono ?_); rintro e w3 ⟨v3, rfl, hr3, hb3⟩; have HR3 := Lib.hid (show RowR w3 W.heap.size v3 m.a from hr3); have HB3 := Lib.hid (HD.out.trans (show Below W.heap.size W.drew w3 from hb3)); clear hr3 hb3) | (refine step_app rfl (.tmp 5) (.tmp 7) rfl rfl rfl HR3.out (HU.out _ HB3.out _ _ HR3.out (Nat.le_refl _)).1 (HU.out _ HB3.out _ _ HR3.out (Nat.le_refl _)).2.1 (HU.out _ HB3.out _ _ HR3.out (Nat.le_refl _)).2.2.1 (HU.out _ HB3.out _ _ HR3.out (Nat.le_refl _)).2.2.2.1 (HU.out _ HB3.out _ _ HR3.out (Nat.le_refl _)).2.2.2.2 HB3.out.size ?_; intro v4 w4 h4 hb4; have HR4 := Lib.hid h4; have HB4 := Lib.hid (HB3.out.trans hb4); clear h4 hb4) | (refine step_app rfl (.tmp 8) (.tmp 10) rfl rfl rfl HR4.out (HM.out _ HB4.out _ _ HR4.out (by rw [List.length_append]; exact Nat.le_refl _)).1 (HM.out _ HB4.out _ _ HR4.out (by rw [List.length_append]; exact Nat.le_refl _)).2.1 (HM.out _ HB4.out _ _ HR4.out (by rw [List.length_append]; exact Nat.le_refl _)).2.2.1 (HM.out _ HB4.out _ _ HR4.out (by rw [List.length_append]; exact Nat.le_refl _)).2.2.2.1 (HM.out _ HB4.out _ _ HR4.out (by rw [List.length_append]; exact Nat.le_refl _)).2.2.2.2 HB4.out.size ?_; intro v5 w5 h5 hb5; have HR5 := Lib.hid h5; have HB5 := Lib.hid (HB4.out.trans hb5); clear h5 hb5) | fail)
  all_goals
    go_wp2
    go_ret
    exact ⟨v5, rfl, { HR5.out with own := HR5.out.own.base_le hsz }, HB0.out.trans (HB5.out.mono HB0.out.size)⟩
end Go.Proofs.YtdpgcgaalamgkaaGreat
