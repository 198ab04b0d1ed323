/-
  The kit's LightMessage: the walk. Condition: Go can have the message, its rows are no longer than memory.
-/
import Derived.Test.YtdpgcgaalamgkaaGreatZk39
namespace Go.Proofs.YtdpgcgaalamgkaaGreat
open Go.RowKit Go.Maps
set_option linter.unusedVariables false
set_option maxRecDepth 100000

/-- LightData tells some Boolean; true of data that may be: they are light. -/
def LightD (r : MR) (w : World) (e : Ending) (w' : World) : Prop := ∃ c, e = .returned (.bool c) ∧ (c = true → checkR r = 0 → octD r.d + sizeT r.d.L ≤ 2000) ∧ Below w.heap.size w w'
theorem lightD_b (r : MR) (tv : Value) (w : World) (hf : FitR w r tv) : Calls Tryz.prog 42 #[dataV r.d tv] w (LightD r w) := by
  by_cases hc : checkR r = 0
  · have hall : octD r.d + sizeT r.d.L ≤ 66500 := by
      obtain ⟨hcq, hcd⟩ := checkR_zero hc
      have ht : isT r.t = true := (checkQ_zero hcq).2.1
      unfold checkD at hcd
      rw [if_pos ht] at hcd
      exact (small_all hcd).1
    refine (Light_small r.d tv w hf.d hall).mono ?_
    rintro e w' ⟨rfl, hb⟩
    exact ⟨_, rfl, fun h _ => of_decide_eq_true h, hb⟩
  · refine (Light_any r.d tv w hf.d).mono ?_
    rintro e w' ⟨c, rfl, hb⟩
    exact ⟨c, rfl, fun _ h => absurd h hc, hb⟩
/-- LightMessage tells some Boolean; true of a message that may be: it is light. -/
def LightW (w : World) (m : MM) (e : Ending) (w' : World) : Prop :=
  ∃ c, e = .returned (.bool c) ∧ (c = true → m.q.length + m.recs.length ≤ 24 ∧ ∀ x ∈ m.recs, checkR x.1 = 0 → octD x.1.d + sizeT x.1.d.L ≤ 2000) ∧ Below w.heap.size w w'
theorem recs_len (m : MM) : m.recs.length = m.a.length + m.u.length + m.m.length := by
  unfold MM.recs
  rw [List.length_append, List.length_append]
theorem r_cells' {w : World} {g o : Nat} {r : MR} {tv : Value} (h : w.rangeAt g o (csR (r, tv))) : w.cell? ⟨g, o, none⟩ = some (.string r.n) ∧ w.cell? ⟨g, o + 4, none⟩ = some (.bool r.d.six) ∧ w.cell? ⟨g, o + 5, none⟩ = some (.int .u64 (r.d.hi : Int)) ∧ w.cell? ⟨g, o + 6, none⟩ = some (.int .u64 (r.d.lo : Int)) ∧
    w.cell? ⟨g, o + 7, none⟩ = some (.string r.d.n) ∧ w.cell? ⟨g, o + 8, none⟩ = some (.string r.d.m) ∧ w.cell? ⟨g, o + 9, none⟩ = some (.int .u32 (r.d.v0 : Int)) ∧ w.cell? ⟨g, o + 10, none⟩ = some (.int .u32 (r.d.v1 : Int)) ∧ w.cell? ⟨g, o + 11, none⟩ = some (.int .u32 (r.d.v2 : Int)) ∧ w.cell? ⟨g, o + 12, none⟩ = some (.int .u32 (r.d.v3 : Int)) ∧ w.cell? ⟨g, o + 13, none⟩ = some (.int .u32 (r.d.v4 : Int)) ∧ w.cell? ⟨g, o + 14, none⟩ = some tv ∧ w.cell? ⟨g, o + 15, none⟩ = some (.string r.d.r) :=
  ⟨h 0 _ rfl, h 4 _ rfl, h 5 _ rfl, h 6 _ rfl, h 7 _ rfl, h 8 _ rfl, h 9 _ rfl, h 10 _ rfl, h 11 _ rfl, h 12 _ rfl, h 13 _ rfl, h 14 _ rfl, h 15 _ rfl⟩
theorem CRow.r_at {w : World} {A : Option Addr} {n cap : Nat} {L : List RV} (h : CRow csR 16 w (.slice A n cap) L) (j : Nat) (hj : j < L.length) : ∃ g o, A = some ⟨g, o, none⟩ ∧ ∀ wx, Below w.heap.size w wx → wx.rangeAt g (o + j * 16) (csR L[j]) := by
  obtain ⟨g, o, e1, e2, e3⟩ := h.at j hj
  exact ⟨g, o, e1, fun wx hb i v hv => (hb.cell (p := ⟨g, o + j * 16 + i, none⟩) e2).trans (e3 i v hv)⟩
def LtR (W : World) (m : MM) (vi : Value) (wr : World) : Prop := ∃ k : Nat, vi = .int .i64 k ∧ k ≤ m.recs.length ∧ (∀ j (h : j < m.recs.length), j < k → checkR m.recs[j].1 = 0 → octD m.recs[j].1.d + sizeT m.recs[j].1.d.L ≤ 2000) ∧ Below W.heap.size W wr
def LtQ (W : World) (m : MM) (vi : Value) (wr : World) : Prop := ∃ k : Nat, vi = .int .i64 k ∧ k ≤ m.q.length ∧ Below W.heap.size W wr
set_option maxHeartbeats 4000000 in
theorem lightM_any (m : MM) (vq va vu vm : Value) (w : World) (hf : FitM w m vq va vu vm) (hs : ShortM m) :
    Calls Tryz.prog 28 #[msgV m.h vq va vu vm, .int .i64 24] w (LightW w m) := by
  have HRc := Lib.hid fun wx (hb : Below w.heap.size w wx) h => records_any m vq va vu vm wx (hf.next hb) h
  obtain ⟨Aq, cq, Aa, ca, Au, cu, Am, cm, rfl, rfl, rfl, rfl, _⟩ := hf.shapes
  obtain ⟨C, hC⟩ : ∃ C, cellsM m.h (.slice Aq m.q.length cq) (.slice Aa m.a.length ca) (.slice Au m.u.length cu) (.slice Am m.m.length cm) = C := ⟨_, rfl⟩
  obtain ⟨V, hV⟩ : ∃ V, msgV m.h (.slice Aq m.q.length cq) (.slice Aa m.a.length ca) (.slice Au m.u.length cu) (.slice Am m.m.length cm) = V := ⟨_, rfl⟩
  have hbx := box_m m.h Aq Aa Au Am m.q.length m.a.length m.u.length m.m.length cq ca cu cm w
  obtain ⟨W, hW⟩ : ∃ W, W = w.alloc (.cells C 54) := ⟨_, rfl⟩
  rw [hC, hV, ← hW] at hbx
  rw [hV] at HRc ⊢
  have hB0 : Below w.heap.size w W := by rw [hW]; exact (Below.refl _ _).alloc (Nat.le_refl _) _
  have hL0 : Lies W w.heap.size 54 C := by rw [hW]; exact Lies.new _ _ _
  have HL : Hid (∀ wx, Below W.heap.size W wx → wx.cell? ⟨w.heap.size, 14, none⟩ = some (.slice Aq m.q.length cq)) := Lib.hid fun wx hb => by
    have l := hL0.next hb
    rw [← hC] at l
    exact l.cell 14
  have HLd : Hid (∀ wx, Below W.heap.size W wx → (Instr.loadAt 54 (pp w.heap.size)).run Tryz.prog wx = .ok V wx) := Lib.hid fun wx hb => by
    rw [← hV]
    refine load_ml ?_
    rw [hC]
    exact hL0.next hb
  have y14 := HL.out W (Below.refl _ _)
  have y15 : W.cell? ⟨w.heap.size, 15, none⟩ = some (.slice Aa m.a.length ca) := by have l := hL0; rw [← hC] at l; exact l.cell 15
  have y16 : W.cell? ⟨w.heap.size, 16, none⟩ = some (.slice Au m.u.length cu) := by have l := hL0; rw [← hC] at l; exact l.cell 16
  have y17 : W.cell? ⟨w.heap.size, 17, none⟩ = some (.slice Am m.m.length cm) := by have l := hL0; rw [← hC] at l; exact l.cell 17
  have HBx := Lib.hid hbx
  have HB0 := Lib.hid hB0
  have HF := Lib.hid hf
  obtain ⟨k1, k2, k3, k4⟩ := hs
  have hrl := recs_len m
  have HEnt : Hid (∀ wx, Below W.heap.size W wx → Below w.heap.size w wx) := Lib.hid fun wx hb => HB0.out.trans (hb.mono HB0.out.size)
  have HRl := Lib.hid hrl
  clear hbx hB0 hL0 hC hV hW hf hrl
  by_cases hbig : 24 < m.q.length + m.a.length + m.u.length + m.m.length
  · have hd : decide ((24 : Int) < (m.q.length : Int) + (m.a.length : Int) + (m.u.length : Int) + (m.m.length : Int)) = true := by simpa using (by omega : (24 : Int) < (m.q.length : Int) + (m.a.length : Int) + (m.u.length : Int) + (m.m.length : Int))
    clear hbig
    go_enter Tryz.func28, Tryz.ntmps28
    go_wp2_with (refine wpList_box1 rfl 54 (.tmp 0) rfl V _ rfl HBx.out ?_)
    go_ret
    exact ⟨false, rfl, fun h => (by cases h), HB0.out⟩
  · have hd : decide ((24 : Int) < (m.q.length : Int) + (m.a.length : Int) + (m.u.length : Int) + (m.m.length : Int)) = false := by simpa using (by omega : (m.q.length : Int) + (m.a.length : Int) + (m.u.length : Int) + (m.m.length : Int) ≤ 24)
    have hn : m.q.length + m.recs.length ≤ 24 := by rw [HRl.out]; omega
    have HN := Lib.hid hn
    have hq24 : m.q.length ≤ 24 := by omega
    clear hbig hn
    have HST : Hid (LtQ W m (.int .i64 0) W) := Lib.hid ⟨0, rfl, Nat.zero_le _, Below.refl _ _⟩
    go_enter Tryz.func28, Tryz.ntmps28
    go_wp2_with (refine wpList_box1 rfl 54 (.tmp 0) rfl V _ rfl HBx.out ?_)
    go_loopw [5] (fun vi wr => LtQ W m vi wr) (fun vi _ => m.q.length - (intOf vi).toNat)
    case atStart => exact HST.out
    case round =>
      clear HST y14 y15 y16 y17 hd k1 k2 k3 k4
      obtain ⟨k, rfl, hk, hb⟩ := hrel
      have HB := Lib.hid hb
      have y14 := HL.out _ hb
      clear hb
      rcases Nat.lt_or_ge k m.q.length with hlt | hge
      · obtain ⟨gq, oq, rfl, hc⟩ := HF.out.q.q_at k hlt
        have c0 := (hc _ (HEnt.out _ HB.out)).1
        obtain ⟨x, hx⟩ : ∃ x, x = m.q[k].n := ⟨_, rfl⟩
        rw [← hx] at c0
        clear hc hx
        by_cases hn : 400 < x.size
        · have hdn : decide ((400 : Int) < (x.size : Int)) = true := by simpa using (by omega : (400 : Int) < x.size)
          go_wp2
          go_ret
          exact ⟨false, rfl, fun h => (by cases h), HEnt.out _ HB.out⟩
        · have hdn : decide ((400 : Int) < (x.size : Int)) = false := by simpa using (by omega : (x.size : Int) ≤ 400)
          go_wp2
          go_roundw
          case rel => exact ⟨k + 1, by go_num, hlt, HB.out⟩
          case measure => simp [intOf]; omega
      · obtain rfl : k = m.q.length := by omega
        have HRc' := Lib.hid (HRc.out _ (HEnt.out _ HB.out) (by have := HN.out; omega))
        clear hge hk
        go_wp2_with (first | (refine wpList_load1 rfl 54 (.tmp 2) rfl (pp w.heap.size) V rfl (HLd.out _ HB.out) ?_) | (go_at_call 39; (with_reducible refine HRc'.out.mono ?_); rintro e w3 ⟨v6, rfl, hr6, hb3⟩; obtain ⟨A6, c6, rfl, _, _⟩ := hr6.own.shape; have HR6 := Lib.hid hr6; have HB3 := Lib.hid (HB.out.trans (hb3.mono HB.out.size)); clear hr6 hb3))
        have HST2 : Hid (LtR w3 m (.int .i64 0) w3) := Lib.hid ⟨0, rfl, Nat.zero_le _, fun j h h0 => absurd h0 (Nat.not_lt_zero _), Below.refl _ _⟩
        have hr24 : m.recs.length ≤ 24 := by have := HN.out; omega
        clear y14 HRc'
        go_loopw [7] (fun vi wr => LtR w3 m vi wr) (fun vi _ => m.recs.length - (intOf vi).toNat)
        case atStart => exact HST2.out
        case round =>
          clear HST2
          obtain ⟨k, rfl, hk, hlt0, hb⟩ := hrel
          have HLt := Lib.hid hlt0
          have HB := Lib.hid hb
          have HBw := Lib.hid (HEnt.out _ (HB3.out.trans (hb.mono HB3.out.size)))
          clear hb hlt0
          rcases Nat.lt_or_ge k m.recs.length with hlt | hge
          · as_aux_lemma =>
              obtain ⟨gr, or_, rfl, hat⟩ := (HR6.out.own.crow csR_len).r_at k hlt
              have hfit := (HR6.out.fit _ (List.getElem_mem hlt)).next HB.out
              have hx0 := hat _ HB.out
              have HLt1 : Hid (∀ c : Bool, (c = true → checkR m.recs[k].1 = 0 → octD m.recs[k].1.d + sizeT m.recs[k].1.d.L ≤ 2000) → c = true → ∀ j (h : j < m.recs.length), j < k + 1 → checkR m.recs[j].1 = 0 → octD m.recs[j].1.d + sizeT m.recs[j].1.d.L ≤ 2000) := Lib.hid fun c hc he j h hj => by
                rcases Nat.lt_or_ge j k with h1 | h1
                · exact HLt.out j h h1
                · obtain rfl : j = k := by omega
                  exact hc he
              obtain ⟨x, hx⟩ : ∃ x, x = m.recs[k] := ⟨_, rfl⟩
              rw [← hx] at hx0 hfit HLt1
              clear hat hx
              obtain ⟨r, tv⟩ := x
              replace hfit : FitR wr r tv := hfit
              obtain ⟨A, cap, htv, _, _⟩ := hfit.d.row.shape
              obtain ⟨n, htv'⟩ : ∃ n, tv = .slice A n cap := ⟨_, htv⟩
              clear htv
              subst htv'
              obtain ⟨z0, z4, z5, z6, z7, z8, z9, z10, z11, z12, z13, z14, z15⟩ := r_cells' hx0
              have hlD := lightD_b r (.slice A n cap) wr hfit
              have HLD := Lib.hid hlD
              clear hlD hx0 hfit
              unfold dataV cellsD at HLD
              by_cases hn : 400 < r.n.size
              · have hdn : decide ((400 : Int) < (r.n.size : Int)) = true := by simpa using (by omega : (400 : Int) < r.n.size)
                clear hn
                go_wp2
                go_ret
                exact ⟨false, rfl, fun h => (by cases h), HBw.out⟩
              · have hdn : decide ((400 : Int) < (r.n.size : Int)) = false := by simpa using (by omega : (r.n.size : Int) ≤ 400)
                clear hn
                go_wp2_with fail
                refine HLD.out.mono ?_
                rintro e w5 ⟨c, rfl, hc, hb5⟩
                have HB5 := Lib.hid (HB.out.trans (hb5.mono HB.out.size))
                have HBw5 := Lib.hid (HBw.out.trans (hb5.mono HBw.out.size))
                have HC := Lib.hid hc
                clear hb5 hc
                cases c
                · go_wp2
                  go_ret
                  exact ⟨false, rfl, fun h => (by cases h), HBw5.out⟩
                · go_wp2
                  go_roundw
                  case rel => exact ⟨k + 1, by go_num, hlt, HLt1.out true (fun _ => HC.out trivial) rfl, HB5.out⟩
                  case measure => simp [intOf]; omega
          · obtain rfl : k = m.recs.length := by omega
            go_wp2
            go_ret
            exact ⟨true, rfl, fun _ => ⟨HN.out, fun x hx => by
              obtain ⟨j, hj, rfl⟩ := List.getElem_of_mem hx
              exact HLt.out j hj hj⟩, HBw.out⟩
end Go.Proofs.YtdpgcgaalamgkaaGreat
