/-
  message.put, Put: the walks. Condition: Go can have the message. message.Put: the walk. Condition: Go can have the message.
-/
import Derived.Test.YtadeflehdfmilaaGreatZk44
import Derived.Test.YtadeflehdfmilaaGreatZk45
namespace Go.Proofs.YtadeflehdfmilaaGreat
open Go.RowKit Go.Maps
set_option linter.unusedVariables false
set_option maxRecDepth 100000

/-- What put leaves. -/
def PutM (w : World) (m : MM) (M : Nat) (e : Ending) (w' : World) : Prop :=
  e = .returned (.tuple #[.string ⟨(putT M m).toArray⟩, .int .i64 ((putMs M m).1 : Nat), .int .i64 ((putMs M m).2.f : Nat)]) ∧ (putMs M m).2.l.length ≤ M ∧ Below w.heap.size w w'
/-- The first loop: the questions from k on are still to be put. -/
structure PtQ (W : World) (b g M : Nat) (q : List MQ) (S1 : PS) (k : Nat) (F : Nat → Prop) (s : PS) (wr : World) : Prop where
  pk : PK wr b F g M s
  eq : putQs M (q.drop k) s = S1
  bel : Below W.heap.size W wr
/-- The other loops: L is still to be put, n records stand. -/
structure PtR (W : World) (b g M : Nat) (L : List RV) (fin : Nat × PS) (n : Nat) (F : Nat → Prop) (s : PS) (wr : World) : Prop where
  pk : PK wr b F g M s
  eq : (n + (putRs M L s).1, (putRs M L s).2) = fin
  bel : Below W.heap.size W wr
  few : n + L.length ≤ 200000
def restAt (m : MM) : Nat → List RV
  | 0 => m.a ++ m.u ++ m.m
  | 1 => m.u ++ m.m
  | 2 => m.m
  | _ => []
theorem restAt_succ (m : MM) {j : Nat} (h : j < 3) : restAt m j = rowAt m j ++ restAt m (j + 1) := by
  obtain rfl | rfl | rfl : j = 0 ∨ j = 1 ∨ j = 2 := by omega
  · show m.a ++ m.u ++ m.m = m.a ++ (m.u ++ m.m); rw [List.append_assoc]
  · rfl
  · show m.m = m.m ++ []; rw [List.append_nil]
def PtQR (W : World) (b g M : Nat) (q : List MQ) (S1 : PS) (vi : Value) (wr : World) : Prop := ∃ (k : Nat) (F : Nat → Prop) (s : PS), vi = .int .i64 k ∧ k ≤ q.length ∧ PtQ W b g M q S1 k F s wr
def PtOR (W : World) (b g M : Nat) (m : MM) (fin : Nat × PS) (gn : Nat) (vn vj : Value) (wr : World) : Prop := ∃ (j n : Nat) (F : Nat → Prop) (s : PS), vn = .int .i64 n ∧ vj = .int .i64 j ∧ gn + j = 3 ∧ PtR W b g M (restAt m j) fin n F s wr
def PtIR (W : World) (b g M : Nat) (L rest : List RV) (fin : Nat × PS) (gn : Nat) (vn vk : Value) (wr : World) : Prop := ∃ (k n : Nat) (F : Nat → Prop) (s : PS), vn = .int .i64 n ∧ vk = .int .i64 k ∧ gn + k = L.length ∧ PtR W b g M (L.drop k ++ rest) fin n F s wr
theorem PtQ.step {W wr w' : World} {b g M : Nat} {q : List MQ} {S1 : PS} {k : Nat} {F F' : Nat → Prop} {s : PS} (h : PtQ W b g M q S1 k F s wr) (hk : k < q.length) (hW : W.heap.size ≤ b) (o : Obj) (hp : PK w' b F' g M (putQ M q[k] s).2) (hkf : Kf b F F' (wr.alloc o) w') : PtQ W b g M q S1 (k + 1) F' (putQ M q[k] s).2 w' :=
  ⟨hp, by have := h.eq; rw [List.drop_eq_getElem_cons hk] at this; exact this, (h.bel.alloc h.bel.size o).trans (hkf.below.mono hW)⟩
theorem PtR.step {W wr w' : World} {b g M : Nat} {x : RV} {L : List RV} {fin : Nat × PS} {n : Nat} {F F' : Nat → Prop} {s : PS} (h : PtR W b g M (x :: L) fin n F s wr) (hW : W.heap.size ≤ b) (o : Obj) (hz : (putR M x.1 s).1 = 0) (hp : PK w' b F' g M (putR M x.1 s).2) (hkf : Kf b F F' (wr.alloc o) w') : PtR W b g M L fin (n + 1) F' (putR M x.1 s).2 w' :=
  ⟨hp, by have := h.eq; rw [putRs, if_pos hz] at this; rw [← this, Nat.add_assoc, Nat.add_comm 1], (h.bel.alloc h.bel.size o).trans (hkf.below.mono hW), by have := h.few; rw [List.length_cons] at this; omega⟩
theorem PtR.stop {W wr w' : World} {b g M : Nat} {x : RV} {L : List RV} {fin : Nat × PS} {n : Nat} {F F' : Nat → Prop} {s : PS} (h : PtR W b g M (x :: L) fin n F s wr) (hW : W.heap.size ≤ b) (o : Obj) (hz : (putR M x.1 s).1 ≠ 0) (hp : PK w' b F' g M (putR M x.1 s).2) (hkf : Kf b F F' (wr.alloc o) w') : PtR W b g M [] fin n F' (putR M x.1 s).2 w' :=
  ⟨hp, by have := h.eq; rw [putRs, if_neg hz] at this; exact this, (h.bel.alloc h.bel.size o).trans (hkf.below.mono hW), by have := h.few; rw [List.length_cons] at this; simp; omega⟩
set_option maxHeartbeats 4000000 in
theorem mput_any (m : MM) (vq va vu vm : Value) (most : Int) (w : World) (hf : FitM w m vq va vu vm) (ok : OkM m) (hmo : most ≤ 9223372036854775807) :
    Calls Tryz.prog 54 #[msgV m.h vq va vu vm, .int .i64 most] w (PutM w m (min most 65535).toNat) := by
  obtain ⟨Aq, cq, Aa, ca, Au, cu, Am, cm, rfl, rfl, rfl, rfl, ⟨l1, l2, l3, l4⟩, _⟩ := hf.shapes
  obtain ⟨M, hM⟩ : ∃ M, (min most 65535).toNat = M := ⟨_, rfl⟩
  have hM65 : M ≤ 65535 := by omega
  have HN := Lib.hid fun wx => pNew_any most wx hmo
  rw [hM] at HN ⊢
  have hfew : m.recs.length ≤ 200000 := by
    have a1 := ok.may.n1; have a2 := ok.may.n2; have a3 := ok.may.n3
    rw [ok.n1] at a1; rw [ok.n2] at a2; rw [ok.n3] at a3
    unfold MM.recs
    rw [List.length_append, List.length_append]
    omega
  obtain ⟨S0, hS0⟩ : ∃ S0 : ByteArray, S0 = ⟨(ocH m.h).toArray⟩ := ⟨_, rfl⟩
  have hS0b : bs S0 = ocH m.h := by rw [hS0, bs_mk]
  have hS0s : S0.size ≤ 1099511627776 := by rw [← bs_length, hS0b, ocH_length]; omega
  have HH : Hid (∀ wx, Calls Tryz.prog 98 #[hv m.h] wx (Told wx (.tuple #[.string S0, .int .i64 0]))) := Lib.hid fun wx => by
    have h := Put_any m.h hf.h.id wx
    have e1 : ptV m.h = ocH m.h := by unfold ptV; rw [if_pos (mayB_yes.2 ok.may)]
    rw [e1, ← hS0, chkH_ok ok.may] at h
    exact h
  have HPt := Lib.hid fun wx F b g (hp : PK wx b F g M ps0) => pPut_any hp S0 hS0s
  have hhd : (putS M ps0 (bs S0)).2 = putHd M m.h := by rw [hS0b]; rfl
  rw [hhd] at HPt
  obtain ⟨C, hC⟩ : ∃ C, cellsM m.h (.slice Aq m.q.length cq) (.slice Aa m.a.length ca) (.slice Au m.u.length cu) (.slice Am m.m.length cm) = C := ⟨_, rfl⟩
  obtain ⟨V, hV⟩ : ∃ V, msgV m.h (.slice Aq m.q.length cq) (.slice Aa m.a.length ca) (.slice Au m.u.length cu) (.slice Am m.m.length cm) = V := ⟨_, rfl⟩
  obtain ⟨Vh, hVh⟩ : ∃ V, hv m.h = V := ⟨_, rfl⟩
  have hbx := box_m m.h Aq Aa Au Am m.q.length m.a.length m.u.length m.m.length cq ca cu cm w
  obtain ⟨W, hW⟩ : ∃ W, W = w.alloc (.cells C 54) := ⟨_, rfl⟩
  rw [hC, hV, ← hW] at hbx
  have hB0 : Below w.heap.size w W := by rw [hW]; exact (Below.refl _ _).alloc (Nat.le_refl _) _
  have hL0 : Lies W w.heap.size 54 C := by rw [hW]; exact Lies.new _ _ _
  have HL : Hid (∀ wx, Below W.heap.size W wx → Lies wx w.heap.size 54 (cellsM m.h (.slice Aq m.q.length cq) (.slice Aa m.a.length ca) (.slice Au m.u.length cu) (.slice Am m.m.length cm))) := Lib.hid fun wx hb => by rw [hC]; exact hL0.next hb
  have HLdH : Hid (∀ wx, Below W.heap.size W wx → (Instr.loadAt 50 (pp w.heap.size)).run Tryz.prog wx = .ok Vh wx) := Lib.hid fun wx hb => by rw [← hVh]; exact load_hd (HL.out wx hb)
  rw [hVh] at HH
  rw [hV]
  have HB0 := Lib.hid hB0
  have HBx := Lib.hid hbx
  have HF := Lib.hid hf
  have HRow := Lib.hid (hf.row (t := 54) HL.out)
  have HMs : Hid (putMs M m = putRs M m.recs (putQs M m.q (putHd M m.h))) := Lib.hid rfl
  obtain ⟨fin, hfin⟩ : ∃ fin, putMs M m = fin := ⟨_, rfl⟩
  have HT : Hid (putT M m = if fin.2.f = 0 then fin.2.l else []) := Lib.hid (by unfold putT; rw [hfin])
  have HPutM : Hid (∀ e w', (e = .returned (.tuple #[.string ⟨(putT M m).toArray⟩, .int .i64 (fin.1 : Nat), .int .i64 (fin.2.f : Nat)]) ∧ fin.2.l.length ≤ M ∧ Below w.heap.size w w') → PutM w m M e w') := Lib.hid fun e w' h => by unfold PutM; rw [hfin]; exact h
  rw [hfin] at HMs
  obtain ⟨S1, hS1⟩ : ∃ S1, putQs M m.q (putHd M m.h) = S1 := ⟨_, rfl⟩
  rw [hS1] at HMs
  have HS1 := Lib.hid hS1
  have HFew := Lib.hid hfew
  unfold maxLen at l1 l2 l3 l4
  clear hM hS0 hS0b hS0s hhd hfin hS1 hB0 hL0 hf hfew ok hC hV hVh hW hbx hmo
  go_enter Tryz.func54, Tryz.ntmps54
  go_wp2_with (refine wpList_box1 rfl 54 (.tmp 0) rfl V _ rfl HBx.out ?_)
  go_step3
  go_wp2_with (first | (go_at_call 10; (with_reducible refine (HN.out _).mono ?_); rintro e w1 ⟨g, F, rfl, hp, hb⟩; have HP1 := Lib.hid hp; have HB1 := Lib.hid hb; clear hp hb) | (refine wpList_load1 rfl 50 (.tmp 19) rfl _ Vh rfl (HLdH.out _ HB1.out) ?_) | (go_at_call 98; (with_reducible refine (HH.out _).mono ?_); rintro e w2 ⟨rfl, hb2⟩; have HP2 := Lib.hid (HP1.out.next hb2); have HB2 := Lib.hid (HB1.out.trans (hb2.mono HB1.out.size)); clear hb2))

  go_wp2_with fail
  refine (HPt.out _ _ _ _ HP2.out).mono ?_
  rintro e w3 ⟨rfl, F3', hp3, hk3⟩
  have HST : Hid (PtQR W W.heap.size g M m.q S1 (.int .i64 0) w3) := Lib.hid ⟨0, F3', _, rfl, Nat.zero_le _, hp3, HS1.out, HB2.out.trans hk3.below⟩
  have y14 := (liesM (HL.out w3 (HB2.out.trans hk3.below))).2.1
  clear hp3 hk3 HPt HP1 HP2
  go_wp2
  go_loopw [30] (fun vi wr => PtQR W W.heap.size g M m.q S1 vi wr) (fun vi _ => m.q.length - (intOf vi).toNat)
  case atStart => exact HST.out
  case round =>
    clear HST y14
    obtain ⟨k, F, s, rfl, hk, hq⟩ := hrel
    have HQ := Lib.hid hq
    clear hq
    rcases Nat.lt_or_ge k m.q.length with hlt | hge
    · as_aux_lemma =>
        obtain ⟨gq, oq, rfl, hc⟩ := HF.out.q.q_at k hlt
        obtain ⟨c0, c1, c2⟩ := hc _ (HB0.out.trans (HQ.out.bel.mono HB0.out.size))
        have hxn := HF.out.qs _ (List.getElem_mem hlt)
        have HPQ := Lib.hid fun wx (hp : PK wx W.heap.size F g M s) => rcPutQ_any m.q[k] wx hp hxn
        have HNx := Lib.hid fun o w' F' hp hkf => HQ.out.step (w' := w') (F' := F') hlt (Nat.le_refl _) o hp hkf
        obtain ⟨x, hx⟩ : ∃ x, x = m.q[k] := ⟨_, rfl⟩
        rw [← hx] at c0 c1 c2 HPQ HNx
        clear hc hxn hx
        go_wp2_with (go_at_call 37; (with_reducible refine (HPQ.out _ (HQ.out.pk.next ((Below.refl _ _).alloc (Nat.le_refl _) _))).mono ?_); rintro e w4 ⟨rfl, F4, hp4, hk4⟩; have HN4 := Lib.hid (HNx.out _ _ _ hp4 hk4); clear hp4 hk4)
        go_roundw
        case rel => exact ⟨k + 1, F4, _, by go_num, hlt, HN4.out⟩
        case measure => simp [intOf]; omega
    · obtain rfl : k = m.q.length := by omega
      have HSQ : Hid (s = S1) := Lib.hid (by have := HQ.out.eq; rw [List.drop_length] at this; exact this)
      have HRo := Lib.hid fun wx => rowsOf_any w.heap.size wx
      clear hge hk
      go_wp2
      go_step3
      go_wp2_with (go_at_call 62; (with_reducible refine (HRo.out _).mono ?_); rintro e w4 ⟨rfl, hb4⟩; have HP4 := Lib.hid (HQ.out.pk.next hb4); have HB4 := Lib.hid (HQ.out.bel.trans (hb4.mono HQ.out.bel.size)); clear hb4)
      have HO : Hid (PtOR W W.heap.size g M m fin 3 (.int .i64 0) (.int .i64 0) w4) := Lib.hid ⟨0, 0, F, s, rfl, rfl, rfl, ⟨HP4.out, by rw [HMs.out, ← HSQ.out, Nat.zero_add]; rfl, HB4.out, by have := HFew.out; show 0 + (m.a ++ m.u ++ m.m).length ≤ _; unfold MM.recs at this; omega⟩⟩
      clear HP4 HB4 HQ HSQ HMs HS1 HRo
      go_loopg [5, 39] 3 (fun gn vn vj wr => PtOR W W.heap.size g M m fin gn vn vj wr)
      case atStart => exact HO.out
      case round =>
        clear HO
        obtain ⟨j, n, F, s, rfl, rfl, hj, hr⟩ := hrel
        have HR := Lib.hid hr
        clear hr
        rcases Nat.lt_or_ge j 3 with hlt | hge
        · obtain ⟨A, c, hrow, hcell, hidx, hfit, hlen⟩ := HRow.out j hlt
          have hrs := restAt_succ m hlt
          have hy := hcell _ HR.out.bel
          have HHead := Lib.hid hcell
          obtain ⟨L, hL⟩ : ∃ L, rowAt m j = L := ⟨_, rfl⟩
          obtain ⟨rest, hrest⟩ : ∃ R, restAt m (j + 1) = R := ⟨_, rfl⟩
          rw [hL] at hrow hy hfit hlen hrs
          rw [hrest] at hrs
          have HRest := Lib.hid hrest
          have HCr := Lib.hid hrow
          have HFt := Lib.hid hfit
          have HI : Hid (PtIR W W.heap.size g M L rest fin L.length (.int .i64 (n : Int)) (.int .i64 0) wr) := Lib.hid ⟨0, n, F, s, rfl, rfl, rfl, ⟨HR.out.pk, by have := HR.out.eq; rw [hrs] at this; exact this, HR.out.bel, by have := HR.out.few; rw [hrs] at this; exact this⟩⟩
          unfold maxLen at hlen
          have hnn := HR.out.few
          have HMj := Lib.hid (show 3 - (j + 1) < gk by omega)
          have hd3 : decide ((j : Int) < 3) = true := by simpa using (by omega : (j : Int) < 3)
          clear hcell hrow hfit hrs hL hrest HHead
          replace hnn : n ≤ 200000 := by omega
          clear HR
          go_wp2
          go_loopg [5, 46] L.length (fun gn vn vk wr => PtIR W W.heap.size g M L rest fin gn vn vk wr)
          case atStart => exact HI.out
          case round =>
            clear HI hnn
            obtain ⟨k, n, F, s, rfl, rfl, hk, hr⟩ := hrel
            have HR := Lib.hid hr
            have hnf := hr.few
            clear hr
            rcases Nat.lt_or_ge k L.length with hkl | hkg
            · as_aux_lemma =>
                rw [List.length_append, List.length_drop] at hnf
                replace hnf : n ≤ 200000 := by omega
                have hdrop := List.drop_eq_getElem_cons hkl
                obtain ⟨gr, or_, rfl, hld⟩ := HCr.out.ld_r k hkl
                have hfitx := HFt.out _ (List.getElem_mem hkl)
                have hr2 := HR.out
                rw [hdrop, List.cons_append] at hr2
                obtain ⟨x, hx⟩ : ∃ x, x = L[k] := ⟨_, rfl⟩
                rw [← hx] at hld hfitx hr2
                clear hx hdrop
                obtain ⟨r, tv⟩ := x
                replace hfitx : FitR w r tv := hfitx
                obtain ⟨A1, cap1, htv, _, _⟩ := hfitx.d.row.shape
                obtain ⟨n1, htv'⟩ : ∃ n1, tv = .slice A1 n1 cap1 := ⟨_, htv⟩
                clear htv
                subst htv'
                have hbw := HB0.out.trans (hr2.bel.mono HB0.out.size)
                have hput := fun wx (hp : PK wx W.heap.size F g M s) (hb : Below w.heap.size w wx) => rcPut_any r (.slice A1 n1 cap1) wx hp (hfitx.next hb) fun i hi => Nat.lt_of_lt_of_le (blk_ltC hfitx.d.row i hi) HB0.out.size
                have hst := store_r r A1 n1 cap1
                have hl2 := fun wx : World => load_rl (Lies.new wx 32 (cellsR r (.slice A1 n1 cap1)))
                obtain ⟨C, hC⟩ : ∃ C, cellsR r (.slice A1 n1 cap1) = C := ⟨_, rfl⟩
                obtain ⟨V, hV⟩ : ∃ V, recV r (.slice A1 n1 cap1) = V := ⟨_, rfl⟩
                simp only [hV] at hld hput hst hl2
                simp only [hC] at hst hl2
                have HLd := Lib.hid (hld _ hbw)
                have HStr := Lib.hid hst
                have HL2 := Lib.hid hl2
                have hput2 := hput _ (hr2.pk.next ((Below.refl _ _).alloc (Nat.le_refl _) (.cells C 32))) (hbw.trans (((Below.refl _ _).alloc (Nat.le_refl _) _).mono hbw.size))
                have hok : (putR M r s).1 = 0 → ∀ o w' F', PK w' W.heap.size F' g M (putR M r s).2 → Kf W.heap.size F F' (wr.alloc o) w' → PtR W W.heap.size g M (L.drop (k + 1) ++ rest) fin (n + 1) F' (putR M r s).2 w' := fun hz o w' F' hp hkf => hr2.step (Nat.le_refl _) o hz hp hkf
                have hno : (putR M r s).1 ≠ 0 → ∀ o w' F', PK w' W.heap.size F' g M (putR M r s).2 → Kf W.heap.size F F' (wr.alloc o) w' → PtR W W.heap.size g M [] fin n F' (putR M r s).2 w' := fun hz o w' F' hp hkf => hr2.stop (Nat.le_refl _) o hz hp hkf
                obtain ⟨q, hq⟩ : ∃ q, putR M r s = q := ⟨_, rfl⟩
                rw [hq] at hput2 hok hno
                clear hq hld hput hst hl2 hV hC hfitx hr2 hbw
                by_cases hz : q.1 = 0
                · rw [hz] at hput2
                  have hne : ((((0 : Nat) : Nat) : Int) != 0) = false := rfl
                  have HPut := Lib.hid hput2
                  have HNx := Lib.hid (hok hz)
                  clear hput2 hok hno hz
                  go_wp2_with (first | (refine wpList_load1 rfl 32 (.tmp 48) rfl _ V rfl HLd.out ?_) | (refine wpList_alloc1 rfl 32 rfl _ (alloc_r _) ?_) | (refine wpList_store1 rfl 32 (.tmp 15) (.tmp 49) rfl _ V rfl rfl (HStr.out _) ?_) | (refine wpList_load1 rfl 32 (.tmp 15) rfl _ V rfl (HL2.out _) ?_) | (go_at_call 11; (with_reducible refine HPut.out.mono ?_); rintro e w4 ⟨rfl, F4, hp4, hk4⟩; have HN4 := Lib.hid (HNx.out _ _ _ hp4 hk4); clear hp4 hk4))
                  go_roundg (L.length - (k + 1))
                  case measure => omega
                  case rel => exact ⟨k + 1, n + 1, F4, _, by go_num, by go_num, by omega, HN4.out⟩
                · have hne : (((q.1 : Nat) : Int) != 0) = true := by simpa using hz
                  have HPut := Lib.hid hput2
                  have HNx := Lib.hid (hno hz)
                  clear hput2 hok hno hz
                  go_upto_region 19 with ((first | (refine wpList_load1 rfl 32 (.tmp 48) rfl _ V rfl HLd.out ?_) | (refine wpList_alloc1 rfl 32 rfl _ (alloc_r _) ?_) | (refine wpList_store1 rfl 32 (.tmp 15) (.tmp 49) rfl _ V rfl rfl (HStr.out _) ?_) | (refine wpList_load1 rfl 32 (.tmp 15) rfl _ V rfl (HL2.out _) ?_) | (go_at_call 11; (with_reducible refine HPut.out.mono ?_); rintro e w4 ⟨rfl, F4, hp4, hk4⟩; have HN4 := Lib.hid (HNx.out _ _ _ hp4 hk4); clear hp4 hk4)))
                  obtain ⟨s, hs⟩ : ∃ s, q.2 = s := ⟨_, rfl⟩
                  have hn4 := HN4.out
                  rw [hs] at hn4
                  have HPk := Lib.hid hn4.pk
                  have HQe : Hid (fin = (n, s)) := Lib.hid hn4.eq.symm
                  have HBw := Lib.hid (HB0.out.trans (hn4.bel.mono HB0.out.size))
                  clear hn4 hs HN4 HNx HPut hne
                  obtain rfl : fin = (n, s) := HQe.out
                  have HErr := Lib.hid (pErr_any HPk.out)
                  have HTxt := Lib.hid (pText_any HPk.out)
                  have HIn := Lib.hid (PK.inv HPk.out).le
                  obtain ⟨f, hf⟩ : ∃ f, s.f = f := ⟨_, rfl⟩
                  have HT' : Hid (putT M m = if f = 0 then s.l else []) := Lib.hid (by rw [HT.out]; show (if s.f = 0 then s.l else []) = _; rw [hf])
                  have HPutM' : Hid (∀ e w', (e = .returned (.tuple #[.string ⟨(putT M m).toArray⟩, .int .i64 (n : Nat), .int .i64 (f : Nat)]) ∧ s.l.length ≤ M ∧ Below w.heap.size w w') → PutM w m M e w') := Lib.hid fun e w' h => HPutM.out e w' (by show e = .returned (.tuple #[_, .int .i64 ((n : Nat) : Int), .int .i64 ((s.f : Nat) : Int)]) ∧ s.l.length ≤ M ∧ _; rw [hf]; exact h)
                  rw [hf] at HErr
                  clear hf HT HPutM
                  by_cases hz : f = 0
                  · subst hz
                    have hne : ((((0 : Nat) : Nat) : Int) != 0) = false := rfl
                    go_wp2_with (first | (go_at_call 43; (with_reducible refine HErr.out.mono ?_); rintro e w' ⟨rfl, rfl⟩) | (go_at_call 13; (with_reducible refine HTxt.out.mono ?_); rintro e w' ⟨rfl, rfl⟩))
                    refine bodyPost_ret (v := .tuple #[.string ⟨s.l.toArray⟩, .int .i64 (n : Nat), .int .i64 0]) (by simp [results, Tryz.results54, go_sem]) rfl (HPutM'.out _ _ ⟨by rw [HT'.out]; rfl, HIn.out, HBw.out⟩)
                  · have hne : (((f : Nat) : Int) != 0) = true := by simpa using hz
                    go_wp2_with (first | (go_at_call 43; (with_reducible refine HErr.out.mono ?_); rintro e w' ⟨rfl, rfl⟩) | (go_at_call 13; (with_reducible refine HTxt.out.mono ?_); rintro e w' ⟨rfl, rfl⟩))
                    refine bodyPost_ret (v := .tuple #[.string ⟨#[]⟩, .int .i64 (n : Nat), .int .i64 (f : Nat)]) (by simp [results, Tryz.results54, go_sem]) rfl (HPutM'.out _ _ ⟨by rw [HT'.out, if_neg hz], HIn.out, HBw.out⟩)
            · obtain rfl : k = L.length := by omega
              have hd0 : L.drop L.length ++ rest = rest := by rw [List.drop_length]; rfl
              have hr2 := HR.out
              rw [hd0] at hr2
              have HNo : Hid (PtR W W.heap.size g M (restAt m (j + 1)) fin n F s wr) := Lib.hid (by rw [HRest.out]; exact hr2)
              clear hd0 hr2 hnf hkg hk
              go_wp2
              go_roundg (3 - (j + 1))
              case measure => exact HMj.out
              case rel => exact ⟨j + 1, n, F, s, rfl, by go_num, by omega, HNo.out⟩
        · obtain rfl : j = 3 := by omega
          have HPk := Lib.hid HR.out.pk
          have HQe : Hid (fin = (n, s)) := Lib.hid HR.out.eq.symm
          have HBw := Lib.hid (HB0.out.trans (HR.out.bel.mono HB0.out.size))
          clear HR hge hj
          obtain rfl : fin = (n, s) := HQe.out
          have HErr := Lib.hid (pErr_any HPk.out)
          have HTxt := Lib.hid (pText_any HPk.out)
          have HIn := Lib.hid (PK.inv HPk.out).le
          obtain ⟨f, hf⟩ : ∃ f, s.f = f := ⟨_, rfl⟩
          have HT' : Hid (putT M m = if f = 0 then s.l else []) := Lib.hid (by rw [HT.out]; show (if s.f = 0 then s.l else []) = _; rw [hf])
          have HPutM' : Hid (∀ e w', (e = .returned (.tuple #[.string ⟨(putT M m).toArray⟩, .int .i64 (n : Nat), .int .i64 (f : Nat)]) ∧ s.l.length ≤ M ∧ Below w.heap.size w w') → PutM w m M e w') := Lib.hid fun e w' h => HPutM.out e w' (by show e = .returned (.tuple #[_, .int .i64 ((n : Nat) : Int), .int .i64 ((s.f : Nat) : Int)]) ∧ s.l.length ≤ M ∧ _; rw [hf]; exact h)
          rw [hf] at HErr
          clear hf HT HPutM
          by_cases hz : f = 0
          · subst hz
            have hne : ((((0 : Nat) : Nat) : Int) != 0) = false := rfl
            go_wp2_with (first | (go_at_call 43; (with_reducible refine HErr.out.mono ?_); rintro e w' ⟨rfl, rfl⟩) | (go_at_call 13; (with_reducible refine HTxt.out.mono ?_); rintro e w' ⟨rfl, rfl⟩))
            refine bodyPost_ret (v := .tuple #[.string ⟨s.l.toArray⟩, .int .i64 (n : Nat), .int .i64 0]) (by simp [results, Tryz.results54, go_sem]) rfl (HPutM'.out _ _ ⟨by rw [HT'.out]; rfl, HIn.out, HBw.out⟩)
          · have hne : (((f : Nat) : Int) != 0) = true := by simpa using hz
            go_wp2_with (first | (go_at_call 43; (with_reducible refine HErr.out.mono ?_); rintro e w' ⟨rfl, rfl⟩) | (go_at_call 13; (with_reducible refine HTxt.out.mono ?_); rintro e w' ⟨rfl, rfl⟩))
            refine bodyPost_ret (v := .tuple #[.string ⟨#[]⟩, .int .i64 (n : Nat), .int .i64 (f : Nat)]) (by simp [results, Tryz.results54, go_sem]) rfl (HPutM'.out _ _ ⟨by rw [HT'.out, if_neg hz], HIn.out, HBw.out⟩)
end Go.Proofs.YtadeflehdfmilaaGreat
namespace Go.Proofs.YtadeflehdfmilaaGreat
open Go.RowKit Go.Maps
set_option linter.unusedVariables false
set_option maxRecDepth 100000

def putErr (M : Nat) (m : MM) : Nat := if checkM m = 0 then (putMs M m).2.f else checkM m
def putTx (M : Nat) (m : MM) : List UInt8 := if checkM m = 0 then putT M m else []
/-- What Put leaves. -/
def PutW (w : World) (m : MM) (M : Nat) (e : Ending) (w' : World) : Prop :=
  e = .returned (.tuple #[.string ⟨(putTx M m).toArray⟩, .int .i64 (putErr M m : Nat)]) ∧ (checkM m = 0 → (putMs M m).2.l.length ≤ M) ∧ Below w.heap.size w w'
set_option maxHeartbeats 1000000 in
theorem mPut_any (m : MM) (vq va vu vm : Value) (most : Int) (w : World) (hf : FitM w m vq va vu vm) (hmo : most ≤ 9223372036854775807) :
    Calls Tryz.prog 18 #[msgV m.h vq va vu vm, .int .i64 most] w (PutW w m (min most 65535).toNat) := by
  have HCk := Lib.hid fun wx (hb : Below w.heap.size w wx) => mCheck_any m vq va vu vm wx (hf.next hb)
  have HPt := Lib.hid fun wx (hb : Below w.heap.size w wx) ok => mput_any m vq va vu vm most wx (hf.next hb) ok hmo
  obtain ⟨Aq, cq, Aa, ca, Au, cu, Am, cm, rfl, rfl, rfl, rfl, ⟨l1, l2, l3, l4⟩, _⟩ := hf.shapes
  have hbx := box_m m.h Aq Aa Au Am m.q.length m.a.length m.u.length m.m.length cq ca cu cm w
  have hld := fun wx g (l : Lies wx g 54 (cellsM m.h (.slice Aq m.q.length cq) (.slice Aa m.a.length ca) (.slice Au m.u.length cu) (.slice Am m.m.length cm))) => load_ml l
  obtain ⟨M, hM⟩ : ∃ M, (min most 65535).toNat = M := ⟨_, rfl⟩
  rw [hM] at HPt ⊢
  obtain ⟨C, hC⟩ : ∃ C, cellsM m.h (.slice Aq m.q.length cq) (.slice Aa m.a.length ca) (.slice Au m.u.length cu) (.slice Am m.m.length cm) = C := ⟨_, rfl⟩
  obtain ⟨V, hV⟩ : ∃ V, msgV m.h (.slice Aq m.q.length cq) (.slice Aa m.a.length ca) (.slice Au m.u.length cu) (.slice Am m.m.length cm) = V := ⟨_, rfl⟩
  rw [hV] at HCk HPt ⊢
  rw [hV, hC] at hbx
  simp only [hV, hC] at hld
  have hB0 : Below w.heap.size w (w.alloc (.cells C 54)) := (Below.refl _ _).alloc (Nat.le_refl _) _
  have HBx := Lib.hid hbx
  have HLd := Lib.hid hld
  have HB0 := Lib.hid hB0
  clear hf l1 l2 l3 l4 hM hC hV hbx hld hB0
  obtain ⟨c, hc⟩ : ∃ c, checkM m = c := ⟨_, rfl⟩
  have HPW : Hid (∀ e w', e = .returned (.tuple #[.string ⟨(if c = 0 then putT M m else []).toArray⟩, .int .i64 (if c = 0 then (putMs M m).2.f else c : Nat)]) ∧ (c = 0 → (putMs M m).2.l.length ≤ M) ∧ Below w.heap.size w w' → PutW w m M e w') := Lib.hid fun e w' h => by unfold PutW putTx putErr; rw [hc]; exact h
  rw [hc] at HCk
  have HC := Lib.hid hc
  clear hc
  by_cases hz : c = 0
  · subst hz
    have HOk := Lib.hid (checkM_zero.1 HC.out)
    have hne : ((((0 : Nat) : Nat) : Int) != 0) = false := rfl
    go_enter Tryz.func18, Tryz.ntmps18
    go_wp2_with (first | (refine wpList_box1 rfl 54 (.tmp 0) rfl V _ rfl HBx.out ?_) | (refine wpList_load1 rfl 54 (.tmp 2) rfl _ V rfl (HLd.out _ _ (Lies.new _ _ _)) ?_) | (refine wpList_load1 rfl 54 (.tmp 2) rfl _ V rfl (HLd.out _ _ HL1.out) ?_) | (go_at_call 22; (with_reducible refine (HCk.out _ HB0.out).mono ?_); rintro e w1 ⟨rfl, hb1⟩; have HL1 := Lib.hid ((Lies.new w 54 C).next hb1); have HB1 := Lib.hid (HB0.out.trans (hb1.mono HB0.out.size)); clear hb1) | (go_at_call 54; (with_reducible refine (HPt.out _ HB1.out HOk.out).mono ?_); rintro e w2 ⟨rfl, hl, hb2⟩; have HLe := Lib.hid hl; have HB2 := Lib.hid (HB1.out.trans (hb2.mono HB1.out.size)); clear hb2 hl))
    go_ret2
    exact HPW.out _ _ ⟨rfl, fun _ => HLe.out, HB2.out⟩
  · have hne : (((c : Nat) : Int) != 0) = true := by simpa using hz
    go_enter Tryz.func18, Tryz.ntmps18
    go_wp2_with (first | (refine wpList_box1 rfl 54 (.tmp 0) rfl V _ rfl HBx.out ?_) | (refine wpList_load1 rfl 54 (.tmp 2) rfl _ V rfl (HLd.out _ _ (Lies.new _ _ _)) ?_) | (go_at_call 22; (with_reducible refine (HCk.out _ HB0.out).mono ?_); rintro e w1 ⟨rfl, hb1⟩; have HB1 := Lib.hid (HB0.out.trans (hb1.mono HB0.out.size)); clear hb1))
    go_ret2
    exact HPW.out _ _ ⟨(by rw [if_neg hz, if_neg hz]; first | done | rfl), fun h => absurd h hz, HB1.out⟩
end Go.Proofs.YtadeflehdfmilaaGreat
