/-
  message.put, Put: the walks. Condition: Go can have the message. message.Put: the walk. Condition: Go can have the message. message.questionSize, sum, Size: the walks. Condition: Go can have the message. slices.EqualFunc over questions, over records; message.Same: the walks. Condition: Go can have the messages. slices.EqualFunc over records. Condition: Go can have the rows. A message that is put is read as the same: plain mathematics. Conditions as each theorem names them. message.Cut where all fits: the walk. Condition: the message may be, and fits. message.Same: the walk. Condition: Go can have the messages. message.Same: the walk. Condition: Go can have the messages.
-/
import Derived.Test.YtdpgcgaalamgkaaGreatZk44
import Derived.Test.YtdpgcgaalamgkaaGreatZk38
import Derived.Test.YtdpgcgaalamgkaaGreatZk42
import Derived.Test.YtdpgcgaalamgkaaGreatZk43
namespace Go.Proofs.YtdpgcgaalamgkaaGreat
open Go.RowKit Go.Maps
set_option linter.unusedVariables false
set_option maxRecDepth 100000

/-- What put leaves. -/
def PutM (w : World) (m : MM) (M : Nat) (e : Ending) (w' : World) : Prop :=
  e = .returned (.tuple #[.string ⟨(putT M m).toArray⟩, .int .i64 ((putMs M m).1 : Nat), .int .i64 ((putMs M m).2.f : Nat)]) ∧ (putMs M m).2.l.length ≤ M ∧ Below w.heap.size w w'
/-- The first loop: the questions from k on are still to be put. -/
structure PtQ (W : World) (b g M : Nat) (q : List MQ) (S1 : PS) (k : Nat) (F : Nat → Prop) (s : PS) (wr : World) : Prop where
  pk : PK wr b F g M s
  eq : putQs M (q.drop k) s = S1
  bel : Below W.heap.size W wr
/-- The other loops: L is still to be put, n records stand. -/
structure PtR (W : World) (b g M : Nat) (L : List RV) (fin : Nat × PS) (n : Nat) (F : Nat → Prop) (s : PS) (wr : World) : Prop where
  pk : PK wr b F g M s
  eq : (n + (putRs M L s).1, (putRs M L s).2) = fin
  bel : Below W.heap.size W wr
  few : n + L.length ≤ 200000
def restAt (m : MM) : Nat → List RV
  | 0 => m.a ++ m.u ++ m.m
  | 1 => m.u ++ m.m
  | 2 => m.m
  | _ => []
theorem restAt_succ (m : MM) {j : Nat} (h : j < 3) : restAt m j = rowAt m j ++ restAt m (j + 1) := by
  obtain rfl | rfl | rfl : j = 0 ∨ j = 1 ∨ j = 2 := by omega
  · show m.a ++ m.u ++ m.m = m.a ++ (m.u ++ m.m); rw [List.append_assoc]
  · rfl
  · show m.m = m.m ++ []; rw [List.append_nil]
def PtQR (W : World) (b g M : Nat) (q : List MQ) (S1 : PS) (vi : Value) (wr : World) : Prop := ∃ (k : Nat) (F : Nat → Prop) (s : PS), vi = .int .i64 k ∧ k ≤ q.length ∧ PtQ W b g M q S1 k F s wr
def PtOR (W : World) (b g M : Nat) (m : MM) (fin : Nat × PS) (gn : Nat) (vn vj : Value) (wr : World) : Prop := ∃ (j n : Nat) (F : Nat → Prop) (s : PS), vn = .int .i64 n ∧ vj = .int .i64 j ∧ gn + j = 3 ∧ PtR W b g M (restAt m j) fin n F s wr
def PtIR (W : World) (b g M : Nat) (L rest : List RV) (fin : Nat × PS) (gn : Nat) (vn vk : Value) (wr : World) : Prop := ∃ (k n : Nat) (F : Nat → Prop) (s : PS), vn = .int .i64 n ∧ vk = .int .i64 k ∧ gn + k = L.length ∧ PtR W b g M (L.drop k ++ rest) fin n F s wr
theorem PtQ.step {W wr w' : World} {b g M : Nat} {q : List MQ} {S1 : PS} {k : Nat} {F F' : Nat → Prop} {s : PS} (h : PtQ W b g M q S1 k F s wr) (hk : k < q.length) (hW : W.heap.size ≤ b) (o : Obj) (hp : PK w' b F' g M (putQ M q[k] s).2) (hkf : Kf b F F' (wr.alloc o) w') : PtQ W b g M q S1 (k + 1) F' (putQ M q[k] s).2 w' :=
  ⟨hp, by have := h.eq; rw [List.drop_eq_getElem_cons hk] at this; exact this, (h.bel.alloc h.bel.size o).trans (hkf.below.mono hW)⟩
theorem PtR.step {W wr w' : World} {b g M : Nat} {x : RV} {L : List RV} {fin : Nat × PS} {n : Nat} {F F' : Nat → Prop} {s : PS} (h : PtR W b g M (x :: L) fin n F s wr) (hW : W.heap.size ≤ b) (o : Obj) (hz : (putR M x.1 s).1 = 0) (hp : PK w' b F' g M (putR M x.1 s).2) (hkf : Kf b F F' (wr.alloc o) w') : PtR W b g M L fin (n + 1) F' (putR M x.1 s).2 w' :=
  ⟨hp, by have := h.eq; rw [putRs, if_pos hz] at this; rw [← this, Nat.add_assoc, Nat.add_comm 1], (h.bel.alloc h.bel.size o).trans (hkf.below.mono hW), by have := h.few; rw [List.length_cons] at this; omega⟩
theorem PtR.stop {W wr w' : World} {b g M : Nat} {x : RV} {L : List RV} {fin : Nat × PS} {n : Nat} {F F' : Nat → Prop} {s : PS} (h : PtR W b g M (x :: L) fin n F s wr) (hW : W.heap.size ≤ b) (o : Obj) (hz : (putR M x.1 s).1 ≠ 0) (hp : PK w' b F' g M (putR M x.1 s).2) (hkf : Kf b F F' (wr.alloc o) w') : PtR W b g M [] fin n F' (putR M x.1 s).2 w' :=
  ⟨hp, by have := h.eq; rw [putRs, if_neg hz] at this; exact this, (h.bel.alloc h.bel.size o).trans (hkf.below.mono hW), by have := h.few; rw [List.length_cons] at this; simp; omega⟩
set_option maxHeartbeats 4000000 in
theorem mput_any (m : MM) (vq va vu vm : Value) (most : Int) (w : World) (hf : FitM w m vq va vu vm) (ok : OkM m) (hmo : most ≤ 9223372036854775807) :
    Calls Tryz.prog 66 #[msgV m.h vq va vu vm, .int .i64 most] w (PutM w m (min most 65535).toNat) := by
  obtain ⟨Aq, cq, Aa, ca, Au, cu, Am, cm, rfl, rfl, rfl, rfl, ⟨l1, l2, l3, l4⟩, _⟩ := hf.shapes
  obtain ⟨M, hM⟩ : ∃ M, (min most 65535).toNat = M := ⟨_, rfl⟩
  have hM65 : M ≤ 65535 := by omega
  have HN := Lib.hid fun wx => pNew_any most wx hmo
  rw [hM] at HN ⊢
  have hfew : m.recs.length ≤ 200000 := by
    have a1 := ok.may.n1; have a2 := ok.may.n2; have a3 := ok.may.n3
    rw [ok.n1] at a1; rw [ok.n2] at a2; rw [ok.n3] at a3
    unfold MM.recs
    rw [List.length_append, List.length_append]
    omega
  obtain ⟨S0, hS0⟩ : ∃ S0 : ByteArray, S0 = ⟨(ocH m.h).toArray⟩ := ⟨_, rfl⟩
  have hS0b : bs S0 = ocH m.h := by rw [hS0, bs_mk]
  have hS0s : S0.size ≤ 1099511627776 := by rw [← bs_length, hS0b, ocH_length]; omega
  have HH : Hid (∀ wx, Calls Tryz.prog 119 #[hv m.h] wx (Told wx (.tuple #[.string S0, .int .i64 0]))) := Lib.hid fun wx => by
    have h := Put_any m.h hf.h.id wx
    have e1 : ptV m.h = ocH m.h := by unfold ptV; rw [if_pos (mayB_yes.2 ok.may)]
    rw [e1, ← hS0, chkH_ok ok.may] at h
    exact h
  have HPt := Lib.hid fun wx F b g (hp : PK wx b F g M ps0) => pPut_any hp S0 hS0s
  have hhd : (putS M ps0 (bs S0)).2 = putHd M m.h := by rw [hS0b]; rfl
  rw [hhd] at HPt
  obtain ⟨C, hC⟩ : ∃ C, cellsM m.h (.slice Aq m.q.length cq) (.slice Aa m.a.length ca) (.slice Au m.u.length cu) (.slice Am m.m.length cm) = C := ⟨_, rfl⟩
  obtain ⟨V, hV⟩ : ∃ V, msgV m.h (.slice Aq m.q.length cq) (.slice Aa m.a.length ca) (.slice Au m.u.length cu) (.slice Am m.m.length cm) = V := ⟨_, rfl⟩
  obtain ⟨Vh, hVh⟩ : ∃ V, hv m.h = V := ⟨_, rfl⟩
  have hbx := box_m m.h Aq Aa Au Am m.q.length m.a.length m.u.length m.m.length cq ca cu cm w
  obtain ⟨W, hW⟩ : ∃ W, W = w.alloc (.cells C 54) := ⟨_, rfl⟩
  rw [hC, hV, ← hW] at hbx
  have hB0 : Below w.heap.size w W := by rw [hW]; exact (Below.refl _ _).alloc (Nat.le_refl _) _
  have hL0 : Lies W w.heap.size 54 C := by rw [hW]; exact Lies.new _ _ _
  have HL : Hid (∀ wx, Below W.heap.size W wx → Lies wx w.heap.size 54 (cellsM m.h (.slice Aq m.q.length cq) (.slice Aa m.a.length ca) (.slice Au m.u.length cu) (.slice Am m.m.length cm))) := Lib.hid fun wx hb => by rw [hC]; exact hL0.next hb
  have HLdH : Hid (∀ wx, Below W.heap.size W wx → (Instr.loadAt 50 (pp w.heap.size)).run Tryz.prog wx = .ok Vh wx) := Lib.hid fun wx hb => by rw [← hVh]; exact load_hd (HL.out wx hb)
  rw [hVh] at HH
  rw [hV]
  have HB0 := Lib.hid hB0
  have HBx := Lib.hid hbx
  have HF := Lib.hid hf
  have HRow := Lib.hid (hf.row (t := 54) HL.out)
  have HMs : Hid (putMs M m = putRs M m.recs (putQs M m.q (putHd M m.h))) := Lib.hid rfl
  obtain ⟨fin, hfin⟩ : ∃ fin, putMs M m = fin := ⟨_, rfl⟩
  have HT : Hid (putT M m = if fin.2.f = 0 then fin.2.l else []) := Lib.hid (by unfold putT; rw [hfin])
  have HPutM : Hid (∀ e w', (e = .returned (.tuple #[.string ⟨(putT M m).toArray⟩, .int .i64 (fin.1 : Nat), .int .i64 (fin.2.f : Nat)]) ∧ fin.2.l.length ≤ M ∧ Below w.heap.size w w') → PutM w m M e w') := Lib.hid fun e w' h => by unfold PutM; rw [hfin]; exact h
  rw [hfin] at HMs
  obtain ⟨S1, hS1⟩ : ∃ S1, putQs M m.q (putHd M m.h) = S1 := ⟨_, rfl⟩
  rw [hS1] at HMs
  have HS1 := Lib.hid hS1
  have HFew := Lib.hid hfew
  unfold maxLen at l1 l2 l3 l4
  clear hM hS0 hS0b hS0s hhd hfin hS1 hB0 hL0 hf hfew ok hC hV hVh hW hbx hmo
  go_enter Tryz.func66, Tryz.ntmps66
  go_wp2_with (refine wpList_box1 rfl 54 (.tmp 0) rfl V _ rfl HBx.out ?_)
  go_step3
  go_wp2_with (first | (go_at_call 13; (with_reducible refine (HN.out _).mono ?_); rintro e w1 ⟨g, F, rfl, hp, hb⟩; have HP1 := Lib.hid hp; have HB1 := Lib.hid hb; clear hp hb) | (refine wpList_load1 rfl 50 (.tmp 19) rfl _ Vh rfl (HLdH.out _ HB1.out) ?_) | (go_at_call 119; (with_reducible refine (HH.out _).mono ?_); rintro e w2 ⟨rfl, hb2⟩; have HP2 := Lib.hid (HP1.out.next hb2); have HB2 := Lib.hid (HB1.out.trans (hb2.mono HB1.out.size)); clear hb2))

  go_wp2_with fail
  refine (HPt.out _ _ _ _ HP2.out).mono ?_
  rintro e w3 ⟨rfl, F3', hp3, hk3⟩
  have HST : Hid (PtQR W W.heap.size g M m.q S1 (.int .i64 0) w3) := Lib.hid ⟨0, F3', _, rfl, Nat.zero_le _, hp3, HS1.out, HB2.out.trans hk3.below⟩
  have y14 := (liesM (HL.out w3 (HB2.out.trans hk3.below))).2.1
  clear hp3 hk3 HPt HP1 HP2
  go_wp2
  go_loopw [30] (fun vi wr => PtQR W W.heap.size g M m.q S1 vi wr) (fun vi _ => m.q.length - (intOf vi).toNat)
  case atStart => exact HST.out
  case round =>
    clear HST y14
    obtain ⟨k, F, s, rfl, hk, hq⟩ := hrel
    have HQ := Lib.hid hq
    clear hq
    rcases Nat.lt_or_ge k m.q.length with hlt | hge
    · as_aux_lemma =>
        obtain ⟨gq, oq, rfl, hc⟩ := HF.out.q.q_at k hlt
        obtain ⟨c0, c1, c2⟩ := hc _ (HB0.out.trans (HQ.out.bel.mono HB0.out.size))
        have hxn := HF.out.qs _ (List.getElem_mem hlt)
        have HPQ := Lib.hid fun wx (hp : PK wx W.heap.size F g M s) => rcPutQ_any m.q[k] wx hp hxn
        have HNx := Lib.hid fun o w' F' hp hkf => HQ.out.step (w' := w') (F' := F') hlt (Nat.le_refl _) o hp hkf
        obtain ⟨x, hx⟩ : ∃ x, x = m.q[k] := ⟨_, rfl⟩
        rw [← hx] at c0 c1 c2 HPQ HNx
        clear hc hxn hx
        go_wp2_with (go_at_call 49; (with_reducible refine (HPQ.out _ (HQ.out.pk.next ((Below.refl _ _).alloc (Nat.le_refl _) _))).mono ?_); rintro e w4 ⟨rfl, F4, hp4, hk4⟩; have HN4 := Lib.hid (HNx.out _ _ _ hp4 hk4); clear hp4 hk4)
        go_roundw
        case rel => exact ⟨k + 1, F4, _, by go_num, hlt, HN4.out⟩
        case measure => simp [intOf]; omega
    · obtain rfl : k = m.q.length := by omega
      have HSQ : Hid (s = S1) := Lib.hid (by have := HQ.out.eq; rw [List.drop_length] at this; exact this)
      have HRo := Lib.hid fun wx => rowsOf_any w.heap.size wx
      clear hge hk
      go_wp2
      go_step3
      go_wp2_with (go_at_call 73; (with_reducible refine (HRo.out _).mono ?_); rintro e w4 ⟨rfl, hb4⟩; have HP4 := Lib.hid (HQ.out.pk.next hb4); have HB4 := Lib.hid (HQ.out.bel.trans (hb4.mono HQ.out.bel.size)); clear hb4)
      have HO : Hid (PtOR W W.heap.size g M m fin 3 (.int .i64 0) (.int .i64 0) w4) := Lib.hid ⟨0, 0, F, s, rfl, rfl, rfl, ⟨HP4.out, by rw [HMs.out, ← HSQ.out, Nat.zero_add]; rfl, HB4.out, by have := HFew.out; show 0 + (m.a ++ m.u ++ m.m).length ≤ _; unfold MM.recs at this; omega⟩⟩
      clear HP4 HB4 HQ HSQ HMs HS1 HRo
      go_loopg [5, 39] 3 (fun gn vn vj wr => PtOR W W.heap.size g M m fin gn vn vj wr)
      case atStart => exact HO.out
      case round =>
        clear HO
        obtain ⟨j, n, F, s, rfl, rfl, hj, hr⟩ := hrel
        have HR := Lib.hid hr
        clear hr
        rcases Nat.lt_or_ge j 3 with hlt | hge
        · obtain ⟨A, c, hrow, hcell, hidx, hfit, hlen⟩ := HRow.out j hlt
          have hrs := restAt_succ m hlt
          have hy := hcell _ HR.out.bel
          have HHead := Lib.hid hcell
          obtain ⟨L, hL⟩ : ∃ L, rowAt m j = L := ⟨_, rfl⟩
          obtain ⟨rest, hrest⟩ : ∃ R, restAt m (j + 1) = R := ⟨_, rfl⟩
          rw [hL] at hrow hy hfit hlen hrs
          rw [hrest] at hrs
          have HRest := Lib.hid hrest
          have HCr := Lib.hid hrow
          have HFt := Lib.hid hfit
          have HI : Hid (PtIR W W.heap.size g M L rest fin L.length (.int .i64 (n : Int)) (.int .i64 0) wr) := Lib.hid ⟨0, n, F, s, rfl, rfl, rfl, ⟨HR.out.pk, by have := HR.out.eq; rw [hrs] at this; exact this, HR.out.bel, by have := HR.out.few; rw [hrs] at this; exact this⟩⟩
          unfold maxLen at hlen
          have hnn := HR.out.few
          have HMj := Lib.hid (show 3 - (j + 1) < gk by omega)
          have hd3 : decide ((j : Int) < 3) = true := by simpa using (by omega : (j : Int) < 3)
          clear hcell hrow hfit hrs hL hrest HHead
          replace hnn : n ≤ 200000 := by omega
          clear HR
          go_wp2
          go_loopg [5, 46] L.length (fun gn vn vk wr => PtIR W W.heap.size g M L rest fin gn vn vk wr)
          case atStart => exact HI.out
          case round =>
            clear HI hnn
            obtain ⟨k, n, F, s, rfl, rfl, hk, hr⟩ := hrel
            have HR := Lib.hid hr
            have hnf := hr.few
            clear hr
            rcases Nat.lt_or_ge k L.length with hkl | hkg
            · as_aux_lemma =>
                rw [List.length_append, List.length_drop] at hnf
                replace hnf : n ≤ 200000 := by omega
                have hdrop := List.drop_eq_getElem_cons hkl
                obtain ⟨gr, or_, rfl, hld⟩ := HCr.out.ld_r k hkl
                have hfitx := HFt.out _ (List.getElem_mem hkl)
                have hr2 := HR.out
                rw [hdrop, List.cons_append] at hr2
                obtain ⟨x, hx⟩ : ∃ x, x = L[k] := ⟨_, rfl⟩
                rw [← hx] at hld hfitx hr2
                clear hx hdrop
                obtain ⟨r, tv⟩ := x
                replace hfitx : FitR w r tv := hfitx
                obtain ⟨A1, cap1, htv, _, _⟩ := hfitx.d.row.shape
                obtain ⟨n1, htv'⟩ : ∃ n1, tv = .slice A1 n1 cap1 := ⟨_, htv⟩
                clear htv
                subst htv'
                have hbw := HB0.out.trans (hr2.bel.mono HB0.out.size)
                have hput := fun wx (hp : PK wx W.heap.size F g M s) (hb : Below w.heap.size w wx) => rcPut_any r (.slice A1 n1 cap1) wx hp (hfitx.next hb) fun i hi => Nat.lt_of_lt_of_le (blk_ltC hfitx.d.row i hi) HB0.out.size
                have hst := store_r r A1 n1 cap1
                have hl2 := fun wx : World => load_rl (Lies.new wx 32 (cellsR r (.slice A1 n1 cap1)))
                obtain ⟨C, hC⟩ : ∃ C, cellsR r (.slice A1 n1 cap1) = C := ⟨_, rfl⟩
                obtain ⟨V, hV⟩ : ∃ V, recV r (.slice A1 n1 cap1) = V := ⟨_, rfl⟩
                simp only [hV] at hld hput hst hl2
                simp only [hC] at hst hl2
                have HLd := Lib.hid (hld _ hbw)
                have HStr := Lib.hid hst
                have HL2 := Lib.hid hl2
                have hput2 := hput _ (hr2.pk.next ((Below.refl _ _).alloc (Nat.le_refl _) (.cells C 32))) (hbw.trans (((Below.refl _ _).alloc (Nat.le_refl _) _).mono hbw.size))
                have hok : (putR M r s).1 = 0 → ∀ o w' F', PK w' W.heap.size F' g M (putR M r s).2 → Kf W.heap.size F F' (wr.alloc o) w' → PtR W W.heap.size g M (L.drop (k + 1) ++ rest) fin (n + 1) F' (putR M r s).2 w' := fun hz o w' F' hp hkf => hr2.step (Nat.le_refl _) o hz hp hkf
                have hno : (putR M r s).1 ≠ 0 → ∀ o w' F', PK w' W.heap.size F' g M (putR M r s).2 → Kf W.heap.size F F' (wr.alloc o) w' → PtR W W.heap.size g M [] fin n F' (putR M r s).2 w' := fun hz o w' F' hp hkf => hr2.stop (Nat.le_refl _) o hz hp hkf
                obtain ⟨q, hq⟩ : ∃ q, putR M r s = q := ⟨_, rfl⟩
                rw [hq] at hput2 hok hno
                clear hq hld hput hst hl2 hV hC hfitx hr2 hbw
                by_cases hz : q.1 = 0
                · rw [hz] at hput2
                  have hne : ((((0 : Nat) : Nat) : Int) != 0) = false := rfl
                  have HPut := Lib.hid hput2
                  have HNx := Lib.hid (hok hz)
                  clear hput2 hok hno hz
                  go_wp2_with (first | (refine wpList_load1 rfl 32 (.tmp 48) rfl _ V rfl HLd.out ?_) | (refine wpList_alloc1 rfl 32 rfl _ (alloc_r _) ?_) | (refine wpList_store1 rfl 32 (.tmp 15) (.tmp 49) rfl _ V rfl rfl (HStr.out _) ?_) | (refine wpList_load1 rfl 32 (.tmp 15) rfl _ V rfl (HL2.out _) ?_) | (go_at_call 14; (with_reducible refine HPut.out.mono ?_); rintro e w4 ⟨rfl, F4, hp4, hk4⟩; have HN4 := Lib.hid (HNx.out _ _ _ hp4 hk4); clear hp4 hk4))
                  go_roundg (L.length - (k + 1))
                  case measure => omega
                  case rel => exact ⟨k + 1, n + 1, F4, _, by go_num, by go_num, by omega, HN4.out⟩
                · have hne : (((q.1 : Nat) : Int) != 0) = true := by simpa using hz
                  have HPut := Lib.hid hput2
                  have HNx := Lib.hid (hno hz)
                  clear hput2 hok hno hz
                  go_upto_region 19 with ((first | (refine wpList_load1 rfl 32 (.tmp 48) rfl _ V rfl HLd.out ?_) | (refine wpList_alloc1 rfl 32 rfl _ (alloc_r _) ?_) | (refine wpList_store1 rfl 32 (.tmp 15) (.tmp 49) rfl _ V rfl rfl (HStr.out _) ?_) | (refine wpList_load1 rfl 32 (.tmp 15) rfl _ V rfl (HL2.out _) ?_) | (go_at_call 14; (with_reducible refine HPut.out.mono ?_); rintro e w4 ⟨rfl, F4, hp4, hk4⟩; have HN4 := Lib.hid (HNx.out _ _ _ hp4 hk4); clear hp4 hk4)))
                  obtain ⟨s, hs⟩ : ∃ s, q.2 = s := ⟨_, rfl⟩
                  have hn4 := HN4.out
                  rw [hs] at hn4
                  have HPk := Lib.hid hn4.pk
                  have HQe : Hid (fin = (n, s)) := Lib.hid hn4.eq.symm
                  have HBw := Lib.hid (HB0.out.trans (hn4.bel.mono HB0.out.size))
                  clear hn4 hs HN4 HNx HPut hne
                  obtain rfl : fin = (n, s) := HQe.out
                  have HErr := Lib.hid (pErr_any HPk.out)
                  have HTxt := Lib.hid (pText_any HPk.out)
                  have HIn := Lib.hid (PK.inv HPk.out).le
                  obtain ⟨f, hf⟩ : ∃ f, s.f = f := ⟨_, rfl⟩
                  have HT' : Hid (putT M m = if f = 0 then s.l else []) := Lib.hid (by rw [HT.out]; show (if s.f = 0 then s.l else []) = _; rw [hf])
                  have HPutM' : Hid (∀ e w', (e = .returned (.tuple #[.string ⟨(putT M m).toArray⟩, .int .i64 (n : Nat), .int .i64 (f : Nat)]) ∧ s.l.length ≤ M ∧ Below w.heap.size w w') → PutM w m M e w') := Lib.hid fun e w' h => HPutM.out e w' (by show e = .returned (.tuple #[_, .int .i64 ((n : Nat) : Int), .int .i64 ((s.f : Nat) : Int)]) ∧ s.l.length ≤ M ∧ _; rw [hf]; exact h)
                  rw [hf] at HErr
                  clear hf HT HPutM
                  by_cases hz : f = 0
                  · subst hz
                    have hne : ((((0 : Nat) : Nat) : Int) != 0) = false := rfl
                    go_wp2_with (first | (go_at_call 55; (with_reducible refine HErr.out.mono ?_); rintro e w' ⟨rfl, rfl⟩) | (go_at_call 16; (with_reducible refine HTxt.out.mono ?_); rintro e w' ⟨rfl, rfl⟩))
                    refine bodyPost_ret (v := .tuple #[.string ⟨s.l.toArray⟩, .int .i64 (n : Nat), .int .i64 0]) (by simp [results, Tryz.results66, go_sem]) rfl (HPutM'.out _ _ ⟨by rw [HT'.out]; rfl, HIn.out, HBw.out⟩)
                  · have hne : (((f : Nat) : Int) != 0) = true := by simpa using hz
                    go_wp2_with (first | (go_at_call 55; (with_reducible refine HErr.out.mono ?_); rintro e w' ⟨rfl, rfl⟩) | (go_at_call 16; (with_reducible refine HTxt.out.mono ?_); rintro e w' ⟨rfl, rfl⟩))
                    refine bodyPost_ret (v := .tuple #[.string ⟨#[]⟩, .int .i64 (n : Nat), .int .i64 (f : Nat)]) (by simp [results, Tryz.results66, go_sem]) rfl (HPutM'.out _ _ ⟨by rw [HT'.out, if_neg hz], HIn.out, HBw.out⟩)
            · obtain rfl : k = L.length := by omega
              have hd0 : L.drop L.length ++ rest = rest := by rw [List.drop_length]; rfl
              have hr2 := HR.out
              rw [hd0] at hr2
              have HNo : Hid (PtR W W.heap.size g M (restAt m (j + 1)) fin n F s wr) := Lib.hid (by rw [HRest.out]; exact hr2)
              clear hd0 hr2 hnf hkg hk
              go_wp2
              go_roundg (3 - (j + 1))
              case measure => exact HMj.out
              case rel => exact ⟨j + 1, n, F, s, rfl, by go_num, by omega, HNo.out⟩
        · obtain rfl : j = 3 := by omega
          have HPk := Lib.hid HR.out.pk
          have HQe : Hid (fin = (n, s)) := Lib.hid HR.out.eq.symm
          have HBw := Lib.hid (HB0.out.trans (HR.out.bel.mono HB0.out.size))
          clear HR hge hj
          obtain rfl : fin = (n, s) := HQe.out
          have HErr := Lib.hid (pErr_any HPk.out)
          have HTxt := Lib.hid (pText_any HPk.out)
          have HIn := Lib.hid (PK.inv HPk.out).le
          obtain ⟨f, hf⟩ : ∃ f, s.f = f := ⟨_, rfl⟩
          have HT' : Hid (putT M m = if f = 0 then s.l else []) := Lib.hid (by rw [HT.out]; show (if s.f = 0 then s.l else []) = _; rw [hf])
          have HPutM' : Hid (∀ e w', (e = .returned (.tuple #[.string ⟨(putT M m).toArray⟩, .int .i64 (n : Nat), .int .i64 (f : Nat)]) ∧ s.l.length ≤ M ∧ Below w.heap.size w w') → PutM w m M e w') := Lib.hid fun e w' h => HPutM.out e w' (by show e = .returned (.tuple #[_, .int .i64 ((n : Nat) : Int), .int .i64 ((s.f : Nat) : Int)]) ∧ s.l.length ≤ M ∧ _; rw [hf]; exact h)
          rw [hf] at HErr
          clear hf HT HPutM
          by_cases hz : f = 0
          · subst hz
            have hne : ((((0 : Nat) : Nat) : Int) != 0) = false := rfl
            go_wp2_with (first | (go_at_call 55; (with_reducible refine HErr.out.mono ?_); rintro e w' ⟨rfl, rfl⟩) | (go_at_call 16; (with_reducible refine HTxt.out.mono ?_); rintro e w' ⟨rfl, rfl⟩))
            refine bodyPost_ret (v := .tuple #[.string ⟨s.l.toArray⟩, .int .i64 (n : Nat), .int .i64 0]) (by simp [results, Tryz.results66, go_sem]) rfl (HPutM'.out _ _ ⟨by rw [HT'.out]; rfl, HIn.out, HBw.out⟩)
          · have hne : (((f : Nat) : Int) != 0) = true := by simpa using hz
            go_wp2_with (first | (go_at_call 55; (with_reducible refine HErr.out.mono ?_); rintro e w' ⟨rfl, rfl⟩) | (go_at_call 16; (with_reducible refine HTxt.out.mono ?_); rintro e w' ⟨rfl, rfl⟩))
            refine bodyPost_ret (v := .tuple #[.string ⟨#[]⟩, .int .i64 (n : Nat), .int .i64 (f : Nat)]) (by simp [results, Tryz.results66, go_sem]) rfl (HPutM'.out _ _ ⟨by rw [HT'.out, if_neg hz], HIn.out, HBw.out⟩)
end Go.Proofs.YtdpgcgaalamgkaaGreat
namespace Go.Proofs.YtdpgcgaalamgkaaGreat
open Go.RowKit Go.Maps
set_option linter.unusedVariables false
set_option maxRecDepth 100000

def putErr (M : Nat) (m : MM) : Nat := if checkM m = 0 then (putMs M m).2.f else checkM m
def putTx (M : Nat) (m : MM) : List UInt8 := if checkM m = 0 then putT M m else []
/-- What Put leaves. -/
def PutW (w : World) (m : MM) (M : Nat) (e : Ending) (w' : World) : Prop :=
  e = .returned (.tuple #[.string ⟨(putTx M m).toArray⟩, .int .i64 (putErr M m : Nat)]) ∧ (checkM m = 0 → (putMs M m).2.l.length ≤ M) ∧ Below w.heap.size w w'
set_option maxHeartbeats 1000000 in
theorem mPut_any (m : MM) (vq va vu vm : Value) (most : Int) (w : World) (hf : FitM w m vq va vu vm) (hmo : most ≤ 9223372036854775807) :
    Calls Tryz.prog 21 #[msgV m.h vq va vu vm, .int .i64 most] w (PutW w m (min most 65535).toNat) := by
  have HCk := Lib.hid fun wx (hb : Below w.heap.size w wx) => mCheck_any m vq va vu vm wx (hf.next hb)
  have HPt := Lib.hid fun wx (hb : Below w.heap.size w wx) ok => mput_any m vq va vu vm most wx (hf.next hb) ok hmo
  obtain ⟨Aq, cq, Aa, ca, Au, cu, Am, cm, rfl, rfl, rfl, rfl, ⟨l1, l2, l3, l4⟩, _⟩ := hf.shapes
  have hbx := box_m m.h Aq Aa Au Am m.q.length m.a.length m.u.length m.m.length cq ca cu cm w
  have hld := fun wx g (l : Lies wx g 54 (cellsM m.h (.slice Aq m.q.length cq) (.slice Aa m.a.length ca) (.slice Au m.u.length cu) (.slice Am m.m.length cm))) => load_ml l
  obtain ⟨M, hM⟩ : ∃ M, (min most 65535).toNat = M := ⟨_, rfl⟩
  rw [hM] at HPt ⊢
  obtain ⟨C, hC⟩ : ∃ C, cellsM m.h (.slice Aq m.q.length cq) (.slice Aa m.a.length ca) (.slice Au m.u.length cu) (.slice Am m.m.length cm) = C := ⟨_, rfl⟩
  obtain ⟨V, hV⟩ : ∃ V, msgV m.h (.slice Aq m.q.length cq) (.slice Aa m.a.length ca) (.slice Au m.u.length cu) (.slice Am m.m.length cm) = V := ⟨_, rfl⟩
  rw [hV] at HCk HPt ⊢
  rw [hV, hC] at hbx
  simp only [hV, hC] at hld
  have hB0 : Below w.heap.size w (w.alloc (.cells C 54)) := (Below.refl _ _).alloc (Nat.le_refl _) _
  have HBx := Lib.hid hbx
  have HLd := Lib.hid hld
  have HB0 := Lib.hid hB0
  clear hf l1 l2 l3 l4 hM hC hV hbx hld hB0
  obtain ⟨c, hc⟩ : ∃ c, checkM m = c := ⟨_, rfl⟩
  have HPW : Hid (∀ e w', e = .returned (.tuple #[.string ⟨(if c = 0 then putT M m else []).toArray⟩, .int .i64 (if c = 0 then (putMs M m).2.f else c : Nat)]) ∧ (c = 0 → (putMs M m).2.l.length ≤ M) ∧ Below w.heap.size w w' → PutW w m M e w') := Lib.hid fun e w' h => by unfold PutW putTx putErr; rw [hc]; exact h
  rw [hc] at HCk
  have HC := Lib.hid hc
  clear hc
  by_cases hz : c = 0
  · subst hz
    have HOk := Lib.hid (checkM_zero.1 HC.out)
    have hne : ((((0 : Nat) : Nat) : Int) != 0) = false := rfl
    go_enter Tryz.func21, Tryz.ntmps21
    go_wp2_with (first | (refine wpList_box1 rfl 54 (.tmp 0) rfl V _ rfl HBx.out ?_) | (refine wpList_load1 rfl 54 (.tmp 2) rfl _ V rfl (HLd.out _ _ (Lies.new _ _ _)) ?_) | (refine wpList_load1 rfl 54 (.tmp 2) rfl _ V rfl (HLd.out _ _ HL1.out) ?_) | (go_at_call 25; (with_reducible refine (HCk.out _ HB0.out).mono ?_); rintro e w1 ⟨rfl, hb1⟩; have HL1 := Lib.hid ((Lies.new w 54 C).next hb1); have HB1 := Lib.hid (HB0.out.trans (hb1.mono HB0.out.size)); clear hb1) | (go_at_call 66; (with_reducible refine (HPt.out _ HB1.out HOk.out).mono ?_); rintro e w2 ⟨rfl, hl, hb2⟩; have HLe := Lib.hid hl; have HB2 := Lib.hid (HB1.out.trans (hb2.mono HB1.out.size)); clear hb2 hl))
    go_ret2
    exact HPW.out _ _ ⟨rfl, fun _ => HLe.out, HB2.out⟩
  · have hne : (((c : Nat) : Int) != 0) = true := by simpa using hz
    go_enter Tryz.func21, Tryz.ntmps21
    go_wp2_with (first | (refine wpList_box1 rfl 54 (.tmp 0) rfl V _ rfl HBx.out ?_) | (refine wpList_load1 rfl 54 (.tmp 2) rfl _ V rfl (HLd.out _ _ (Lies.new _ _ _)) ?_) | (go_at_call 25; (with_reducible refine (HCk.out _ HB0.out).mono ?_); rintro e w1 ⟨rfl, hb1⟩; have HB1 := Lib.hid (HB0.out.trans (hb1.mono HB0.out.size)); clear hb1))
    go_ret2
    exact HPW.out _ _ ⟨(by rw [if_neg hz, if_neg hz]; first | done | rfl), fun h => absurd h hz, HB1.out⟩
end Go.Proofs.YtdpgcgaalamgkaaGreat
namespace Go.Proofs.YtdpgcgaalamgkaaGreat
open Go.RowKit Go.Maps
set_option linter.unusedVariables false
set_option maxRecDepth 100000

theorem questionSize_any (q : MQ) (w : World) (hn : q.n.size ≤ maxLen) : Calls Tryz.prog 76 #[questV q] w (Told w (.int .i64 (szQ q : Nat))) := by
  have HS := Lib.hid fun wx => pSize_any q.n wx hn
  have hb := sizeN_most (bs q.n)
  have HV : Hid (szQ q = sizeN (bs q.n) + 4) := Lib.hid rfl
  obtain ⟨a, ha⟩ : ∃ a, sizeN (bs q.n) = a := ⟨_, rfl⟩
  rw [ha] at HS HV hb
  have HB := Lib.hid (boxQ w q)
  clear ha hn
  unfold questV cellsQ at *
  go_enter Tryz.func76, Tryz.ntmps76
  go_wp2_with (go_at_call 100; (with_reducible refine (HS.out _).mono ?_); rintro e w1 ⟨rfl, hb1⟩; have HB1 := Lib.hid (HB.out.trans (hb1.mono HB.out.size)); clear hb1)
  go_ret
  exact ⟨(by rw [HV.out]; rfl), HB1.out⟩
def SumR (w : World) {α : Type} (f : α → Nat) (L : List α) (va vi : Value) (wr : World) : Prop := ∃ k : Nat, va = .int .i64 (sumL f (L.take k) : Nat) ∧ vi = .int .i64 k ∧ k ≤ L.length ∧ Below w.heap.size w wr
set_option maxHeartbeats 2000000 in
theorem sumQ_any (v : Value) (L : List MQ) (w : World) (h : CRow csQ 3 w v L) (hf : ∀ x ∈ L, x.n.size ≤ maxLen) (hl : L.length ≤ 65535) :
    Calls Tryz.prog 75 #[v, .func (.func 76) #[] #[]] w (Told w (.int .i64 (sumL szQ L : Nat))) := by
  obtain ⟨A0, cap0, rfl, hl0, hc0, _⟩ := h.shape
  have hgo : ∀ (args : Array Value) (wx : World), (callFunc 76 args).run Tryz.prog wx = .ok (.enter 76 args) wx := fun args wx => by kernel_rfl
  have HR := Lib.hid h
  have HF := Lib.hid hf
  have HST : Hid (SumR w szQ L (.int .i64 0) (.int .i64 0) w) := Lib.hid ⟨0, rfl, rfl, Nat.zero_le _, Below.refl _ _⟩
  have HMost : Hid (∀ k, sumL szQ (L.take k) ≤ 259 * 65535) := Lib.hid fun k => Nat.le_trans (sumL_le szQ 259 _ fun x _ => by have := sizeN_most (bs x.n); unfold szQ; omega) (Nat.mul_le_mul_left _ (by rw [List.length_take]; omega))
  clear h hf hc0
  go_enter Tryz.func75, Tryz.ntmps75
  go_wp2
  go_loopw [5, 10] (fun va vi wr => SumR w szQ L va vi wr) (fun _ vi _ => L.length - (intOf vi).toNat)
  case atStart => exact HST.out
  case round =>
    clear HST
    obtain ⟨k, rfl, rfl, hk, hb⟩ := hrel
    have HB := Lib.hid hb
    clear hb
    rcases Nat.lt_or_ge k L.length with hlt | hge
    · obtain ⟨g, o, rfl, hc⟩ := HR.out.q_at k hlt
      obtain ⟨c0, c1, c2⟩ := hc _ HB.out
      have hn := HF.out _ (List.getElem_mem hlt)
      have hstep := sumL_take szQ L k hlt
      obtain ⟨x, hx⟩ : ∃ x, x = L[k] := ⟨_, rfl⟩
      rw [← hx] at c0 c1 c2 hn hstep
      have hck := fun wx => questionSize_any x wx hn
      have hz : szQ x ≤ 259 := by have := sizeN_most (bs x.n); unfold szQ; omega
      have hm := HMost.out k
      obtain ⟨z, hzz⟩ : ∃ z, szQ x = z := ⟨_, rfl⟩
      obtain ⟨s, hs⟩ : ∃ s, sumL szQ (L.take k) = s := ⟨_, rfl⟩
      rw [hzz] at hck hz hstep
      rw [hs] at hstep hm ⊢
      have HCk := Lib.hid hck
      have HStep := Lib.hid hstep
      have HBx := Lib.hid fun (o : Obj) wx (hb : Below (wr.alloc o).heap.size (wr.alloc o) wx) => HB.out.trans (((Below.refl _ wr).alloc (Nat.le_refl _) o).trans (hb.mono (by simp)) |>.mono HB.out.size)
      clear hck hn hzz hc hx hs hstep
      go_wp2_with ((with_reducible refine (HCk.out _).mono ?_); rintro e w1 ⟨rfl, hb1⟩; have HB1 := Lib.hid (HBx.out _ _ hb1); clear hb1)
      go_roundw
      case rel => exact ⟨k + 1, by rw [HStep.out]; go_num, by go_num, hlt, HB1.out⟩
      case measure => simp [intOf]; omega
    · obtain rfl : k = L.length := by omega
      have hs := List.take_length (l := L)
      obtain ⟨s, hss⟩ : ∃ s, sumL szQ L = s := ⟨_, rfl⟩
      have HSs := Lib.hid hss
      rw [hs, hss]
      clear hs hss
      go_wp2
      go_ret
      exact ⟨(by rw [HSs.out]; first | done | rfl), HB.out⟩
theorem sizeR_most (r : MR) : sizeR r ≤ 65800 := by
  unfold sizeR
  split
  · exact Nat.zero_le _
  · rename_i h
    have h0 : checkR r = 0 := Decidable.not_not.1 h
    have h1 := sizeN_most (bs r.n)
    have h2 := sizeD_most (checkR_zero h0).2
    omega
set_option maxHeartbeats 2000000 in
theorem sumR_any (v : Value) (L : List RV) (w : World) (h : CRow csR 16 w v L) (hf : ∀ x ∈ L, FitR w x.1 x.2) (hl : L.length ≤ 65535) :
    Calls Tryz.prog 77 #[v, .func (.func 46) #[] #[]] w (Told w (.int .i64 (sumL szRV L : Nat))) := by
  obtain ⟨A0, cap0, rfl, hl0, hc0, _⟩ := h.shape
  have hgo : ∀ (args : Array Value) (wx : World), (callFunc 46 args).run Tryz.prog wx = .ok (.enter 46 args) wx := fun args wx => by kernel_rfl
  have HR := Lib.hid h
  have HF := Lib.hid hf
  have HST : Hid (SumR w szRV L (.int .i64 0) (.int .i64 0) w) := Lib.hid ⟨0, rfl, rfl, Nat.zero_le _, Below.refl _ _⟩
  have HMost : Hid (∀ k, sumL szRV (L.take k) ≤ 65800 * 65535) := Lib.hid fun k => Nat.le_trans (sumL_le szRV 65800 _ fun x _ => sizeR_most x.1) (Nat.mul_le_mul_left _ (by rw [List.length_take]; omega))
  clear h hf hc0
  go_enter Tryz.func77, Tryz.ntmps77
  go_wp2
  go_loopw [5, 10] (fun va vi wr => SumR w szRV L va vi wr) (fun _ vi _ => L.length - (intOf vi).toNat)
  case atStart => exact HST.out
  case round =>
    clear HST
    obtain ⟨k, rfl, rfl, hk, hb⟩ := hrel
    have HB := Lib.hid hb
    clear hb
    rcases Nat.lt_or_ge k L.length with hlt | hge
    · obtain ⟨g, o, rfl, hld⟩ := HR.out.ld_r k hlt
      have hfit := HF.out _ (List.getElem_mem hlt)
      have hstep := sumL_take szRV L k hlt
      obtain ⟨x, hx⟩ : ∃ x, x = L[k] := ⟨_, rfl⟩
      rw [← hx] at hld hfit hstep
      clear hx
      obtain ⟨r, tv⟩ := x
      replace hfit : FitR w r tv := hfit
      obtain ⟨A, cap, htv, _, _⟩ := hfit.d.row.shape
      obtain ⟨n, htv'⟩ : ∃ n, tv = .slice A n cap := ⟨_, htv⟩
      clear htv
      subst htv'
      have hck := fun wx (hb : Below w.heap.size w wx) => rcSize_any r (.slice A n cap) wx (hfit.next hb)
      have hst := store_r r A n cap
      have hl2 := fun wx : World => load_rl (Lies.new wx 32 (cellsR r (.slice A n cap)))
      obtain ⟨C, hC⟩ : ∃ C, cellsR r (.slice A n cap) = C := ⟨_, rfl⟩
      obtain ⟨V, hV⟩ : ∃ V, recV r (.slice A n cap) = V := ⟨_, rfl⟩
      simp only [hV] at hld hck hst hl2
      simp only [hC] at hst hl2
      have hz : sizeR r ≤ 65800 := sizeR_most r
      have hm := HMost.out k
      have hzr : szRV (r, .slice A n cap) = sizeR r := rfl
      rw [hzr] at hstep
      obtain ⟨z, hzz⟩ : ∃ z, sizeR r = z := ⟨_, rfl⟩
      obtain ⟨s, hs⟩ : ∃ s, sumL szRV (L.take k) = s := ⟨_, rfl⟩
      rw [hzz] at hck hz hstep
      rw [hs] at hstep hm ⊢
      have HLd := Lib.hid (hld _ HB.out)
      have HCk := Lib.hid hck
      have HSt := Lib.hid hst
      have HL2 := Lib.hid hl2
      have HStep := Lib.hid hstep
      have HBx := Lib.hid fun (o : Obj) wx (hb : Below (wr.alloc o).heap.size (wr.alloc o) wx) => HB.out.trans (((Below.refl _ wr).alloc (Nat.le_refl _) o).trans (hb.mono (by simp)) |>.mono HB.out.size)
      clear hld hck hst hl2 hfit hV hC hzz hs hstep hzr
      go_wp2_with (first | (refine wpList_load1 rfl 32 (.tmp 12) rfl _ V rfl HLd.out ?_) | (refine wpList_alloc1 rfl 32 rfl _ (alloc_r _) ?_) | (refine wpList_store1 rfl 32 (.tmp 7) (.tmp 13) rfl _ V rfl rfl (HSt.out _) ?_) | (refine wpList_load1 rfl 32 (.tmp 7) rfl _ V rfl (HL2.out _) ?_) | ((with_reducible refine (HCk.out _ (HB.out.alloc HB.out.size _)).mono ?_); rintro e w1 ⟨rfl, hb1⟩; have HB1 := Lib.hid (HBx.out _ _ hb1); clear hb1))
      go_roundw
      case rel => exact ⟨k + 1, by rw [HStep.out]; go_num, by go_num, hlt, HB1.out⟩
      case measure => simp [intOf]; omega
    · obtain rfl : k = L.length := by omega
      have hs := List.take_length (l := L)
      obtain ⟨s, hss⟩ : ∃ s, sumL szRV L = s := ⟨_, rfl⟩
      have HSs := Lib.hid hss
      rw [hs, hss]
      clear hs hss
      go_wp2
      go_ret
      exact ⟨(by rw [HSs.out]; first | done | rfl), HB.out⟩
/-- The sizes of the rows ahead of the j-th. -/
def sumTo (m : MM) : Nat → Nat
  | 0 => 12 + sumL szQ m.q
  | j + 1 => sumTo m j + sumL szRV (rowAt m j)
def SzR (W : World) (m : MM) (va vi : Value) (wr : World) : Prop := ∃ j : Nat, va = .int .i64 (sumTo m j : Nat) ∧ vi = .int .i64 j ∧ j ≤ 3 ∧ Below W.heap.size W wr
set_option maxHeartbeats 2000000 in
theorem mSize_any (m : MM) (vq va vu vm : Value) (w : World) (hf : FitM w m vq va vu vm) :
    Calls Tryz.prog 26 #[msgV m.h vq va vu vm] w (Told w (.int .i64 (sizeM m : Nat))) := by
  have HCk := Lib.hid fun wx (hb : Below w.heap.size w wx) => mCheck_any m vq va vu vm wx (hf.next hb)
  obtain ⟨Aq, cq, Aa, ca, Au, cu, Am, cm, rfl, rfl, rfl, rfl, _⟩ := hf.shapes
  obtain ⟨C, hC⟩ : ∃ C, cellsM m.h (.slice Aq m.q.length cq) (.slice Aa m.a.length ca) (.slice Au m.u.length cu) (.slice Am m.m.length cm) = C := ⟨_, rfl⟩
  obtain ⟨V, hV⟩ : ∃ V, msgV m.h (.slice Aq m.q.length cq) (.slice Aa m.a.length ca) (.slice Au m.u.length cu) (.slice Am m.m.length cm) = V := ⟨_, rfl⟩
  have hbx := box_m m.h Aq Aa Au Am m.q.length m.a.length m.u.length m.m.length cq ca cu cm w
  obtain ⟨W, hW⟩ : ∃ W, W = w.alloc (.cells C 54) := ⟨_, rfl⟩
  rw [hC, hV, ← hW] at hbx
  rw [hV] at HCk ⊢
  have hB0 : Below w.heap.size w W := by rw [hW]; exact (Below.refl _ _).alloc (Nat.le_refl _) _
  have hL0 : Lies W w.heap.size 54 C := by rw [hW]; exact Lies.new _ _ _
  have HL : Hid (∀ wx, Below W.heap.size W wx → Lies wx w.heap.size 54 (cellsM m.h (.slice Aq m.q.length cq) (.slice Aa m.a.length ca) (.slice Au m.u.length cu) (.slice Am m.m.length cm))) := Lib.hid fun wx hb => by rw [hC]; exact hL0.next hb
  have HLdV : Hid (∀ wx, Below W.heap.size W wx → (Instr.loadAt 54 (pp w.heap.size)).run Tryz.prog wx = .ok V wx) := Lib.hid fun wx hb => by rw [← hV]; exact load_ml (HL.out wx hb)
  have HB0 := Lib.hid hB0
  have HBx := Lib.hid hbx
  have HF := Lib.hid hf
  have HRow := Lib.hid (hf.row (t := 54) HL.out)
  have HRo := Lib.hid fun wx => rowsOf_any w.heap.size wx
  have HV : Hid (sizeM m = if checkM m ≠ 0 then 0 else sumTo m 3) := Lib.hid rfl
  obtain ⟨c, hc⟩ : ∃ c, checkM m = c := ⟨_, rfl⟩
  rw [hc] at HCk HV
  have HC := Lib.hid hc
  have HEnt : Hid (∀ wx, Below W.heap.size W wx → Below w.heap.size w wx) := Lib.hid fun wx hb => HB0.out.trans (hb.mono HB0.out.size)
  clear hL0 hB0 hf hbx hC hV hW hc
  by_cases hz : c = 0
  · subst hz
    have hne : ((((0 : Nat) : Nat) : Int) != 0) = false := rfl
    have hok := checkM_zero.1 HC.out
    have hlens : m.q.length ≤ 65535 ∧ ∀ j, j < 3 → (rowAt m j).length ≤ 65535 := by
      have n0 := hok.may.n0; have n1 := hok.may.n1; have n2 := hok.may.n2; have n3 := hok.may.n3
      rw [hok.n0] at n0; rw [hok.n1] at n1; rw [hok.n2] at n2; rw [hok.n3] at n3
      refine ⟨by omega, fun j hj => ?_⟩
      obtain rfl | rfl | rfl : j = 0 ∨ j = 1 ∨ j = 2 := by omega
      · show m.a.length ≤ _; omega
      · show m.u.length ≤ _; omega
      · show m.m.length ≤ _; omega
    have HLens := Lib.hid hlens
    have HSq := Lib.hid fun wx (hb : Below w.heap.size w wx) => sumQ_any _ _ wx (HF.out.q.below hb) HF.out.qs hlens.1
    have HTo : Hid (∀ j, j ≤ 3 → sumTo m j ≤ 13000000000) := Lib.hid fun j hj => by
      have q1 : sumL szQ m.q ≤ 259 * 65535 := Nat.le_trans (sumL_le szQ 259 _ fun x _ => by have := sizeN_most (bs x.n); unfold szQ; omega) (Nat.mul_le_mul_left _ hlens.1)
      have r1 : ∀ j, j < 3 → sumL szRV (rowAt m j) ≤ 65800 * 65535 := fun j hj => Nat.le_trans (sumL_le szRV 65800 _ fun x _ => sizeR_most x.1) (Nat.mul_le_mul_left _ (hlens.2 j hj))
      have a0 := r1 0 (by decide); have a1 := r1 1 (by decide); have a2 := r1 2 (by decide)
      have e0 : sumTo m 0 = 12 + sumL szQ m.q := rfl
      have e1 : sumTo m 1 = sumTo m 0 + sumL szRV (rowAt m 0) := rfl
      have e2 : sumTo m 2 = sumTo m 1 + sumL szRV (rowAt m 1) := rfl
      have e3 : sumTo m 3 = sumTo m 2 + sumL szRV (rowAt m 2) := rfl
      obtain rfl | rfl | rfl | rfl : j = 0 ∨ j = 1 ∨ j = 2 ∨ j = 3 := by omega
      all_goals omega
    have hq0 := HTo.out 0 (by decide)
    have hS0 : sumTo m 0 = 12 + sumL szQ m.q := rfl
    obtain ⟨sq, hsq⟩ : ∃ s, sumL szQ m.q = s := ⟨_, rfl⟩
    rw [hS0, hsq] at hq0
    rw [hsq] at hS0 HSq
    have HS0 := Lib.hid hS0
    clear hlens hok hsq hS0
    go_enter Tryz.func26, Tryz.ntmps26
    go_wp2_with (first | (refine wpList_box1 rfl 54 (.tmp 0) rfl V _ rfl HBx.out ?_) | (refine wpList_load1 rfl 54 (.tmp 1) rfl _ V rfl (HLdV.out _ (Below.refl _ _)) ?_) | (go_at_call 25; (with_reducible refine (HCk.out _ HB0.out).mono ?_); rintro e w1 ⟨rfl, hb1⟩; have HB1 := Lib.hid hb1; have y14 := (HL.out _ hb1).cell 14; clear hb1) | (go_at_call 75; (with_reducible refine (HSq.out _ (HEnt.out _ HB1.out)).mono ?_); rintro e w3 ⟨rfl, hb3⟩; have HB3 := Lib.hid (HB1.out.trans (hb3.mono HB1.out.size)); clear hb3) | (go_at_call 73; (with_reducible refine (HRo.out _).mono ?_); rintro e w4 ⟨rfl, hb4⟩; have HB4 := Lib.hid (HB3.out.trans (hb4.mono HB3.out.size)); clear hb4))
    have HST : Hid (SzR W m (.int .i64 (12 + (sq : Int))) (.int .i64 0) w4) := Lib.hid ⟨0, by rw [HS0.out]; go_num, rfl, by decide, HB4.out⟩
    clear hq0 hne
    go_loopw [3, 14] (fun va vi wr => SzR W m va vi wr) (fun _ vi _ => 3 - (intOf vi).toNat)
    case atStart => exact HST.out
    case round =>
      clear HST
      obtain ⟨j, rfl, rfl, hj, hb⟩ := hrel
      have HB := Lib.hid hb
      clear hb
      rcases Nat.lt_or_ge j 3 with hlt | hge
      · obtain ⟨A, cc, hrow, hcell, hidx, hfit, hlen⟩ := HRow.out j hlt
        have hy := hcell _ HB.out
        have hsm := sumR_any _ _ wr (hrow.below (HEnt.out _ HB.out)) (fun x hx => (hfit x hx).next (HEnt.out _ HB.out)) (HLens.out.2 j hlt)
        have hnx : sumTo m (j + 1) = sumTo m j + sumL szRV (rowAt m j) := rfl
        have t1 := HTo.out j hj
        have t2 := HTo.out (j + 1) hlt
        rw [hnx] at t2
        obtain ⟨L, hL⟩ : ∃ L, rowAt m j = L := ⟨_, rfl⟩
        rw [hL] at hy hsm hnx t2 hlen
        obtain ⟨z, hzz⟩ : ∃ z, sumL szRV L = z := ⟨_, rfl⟩
        obtain ⟨s, hss⟩ : ∃ z, sumTo m j = z := ⟨_, rfl⟩
        rw [hzz] at hsm hnx t2
        rw [hss] at hnx t1 t2 ⊢
        have HSm := Lib.hid hsm
        have HNx := Lib.hid hnx
        clear hrow hcell hfit hsm hnx hL hzz hss
        go_wp2_with (go_at_call 77; (with_reducible refine HSm.out.mono ?_); rintro e w5 ⟨rfl, hb5⟩; have HB5 := Lib.hid (HB.out.trans (hb5.mono HB.out.size)); clear hb5)
        go_roundw
        case rel => exact ⟨j + 1, by rw [HNx.out]; go_num, by go_num, hlt, HB5.out⟩
        case measure => simp [intOf]; omega
      · obtain rfl : j = 3 := by omega
        obtain ⟨s, hss⟩ : ∃ z, sumTo m 3 = z := ⟨_, rfl⟩
        have HSs := Lib.hid hss
        rw [hss]
        clear hss
        go_wp2
        go_ret
        exact ⟨(by rw [HV.out, if_neg (fun h => h rfl), HSs.out]; first | done | rfl), HEnt.out _ HB.out⟩
  · have hne : (((c : Nat) : Int) != 0) = true := by simpa using hz
    go_enter Tryz.func26, Tryz.ntmps26
    go_wp2_with (first | (refine wpList_box1 rfl 54 (.tmp 0) rfl V _ rfl HBx.out ?_) | (refine wpList_load1 rfl 54 (.tmp 1) rfl _ V rfl (HLdV.out _ (Below.refl _ _)) ?_) | (go_at_call 25; (with_reducible refine (HCk.out _ HB0.out).mono ?_); rintro e w1 ⟨rfl, hb1⟩; have HB1 := Lib.hid hb1; clear hb1))
    go_ret
    exact ⟨(by rw [HV.out, if_pos hz]; first | done | rfl), HEnt.out _ HB1.out⟩
end Go.Proofs.YtdpgcgaalamgkaaGreat
namespace Go.Proofs.YtdpgcgaalamgkaaGreat
open Go.RowKit Go.Maps
set_option linter.unusedVariables false
set_option maxRecDepth 100000

def EqR (w : World) {α : Type} (f : α → α → Bool) (L K : List α) (vi : Value) (wr : World) : Prop := ∃ k : Nat, vi = .int .i64 k ∧ k ≤ L.length ∧ eqL f (L.drop k) (K.drop k) = eqL f L K ∧ Below w.heap.size w wr
theorem eqL_ne {α : Type} {f : α → α → Bool} {L K : List α} (h : L.length ≠ K.length) : eqL f L K = false := by
  cases he : eqL f L K with
  | false => rfl
  | true => exact absurd (eqL_len he) h
set_option maxHeartbeats 2000000 in
theorem eqQ_any (v u : Value) (L K : List MQ) (w : World) (h : CRow csQ 3 w v L) (h' : CRow csQ 3 w u K) :
    Calls Tryz.prog 78 #[v, u, .func (.func 79) #[] #[]] w (Told w (.bool (eqL sameQ L K))) := by
  obtain ⟨A0, cap0, rfl, hl0, hc0, _⟩ := h.shape
  obtain ⟨A1, cap1, rfl, hl1, hc1, _⟩ := h'.shape
  have hgo : ∀ (args : Array Value) (wx : World), (callFunc 79 args).run Tryz.prog wx = .ok (.enter 79 args) wx := fun args wx => by kernel_rfl
  have HR := Lib.hid h
  have HR' := Lib.hid h'
  unfold maxLen at hc0 hc1
  clear h h'
  by_cases hlen : L.length = K.length
  · have hd : ((L.length : Int) != (K.length : Int)) = false := by rw [hlen]; simp
    have HLen := Lib.hid hlen
    obtain ⟨R, hR⟩ : ∃ R, eqL sameQ L K = R := ⟨_, rfl⟩
    have HST : Hid (EqR w sameQ L K (.int .i64 0) w) := Lib.hid ⟨0, rfl, Nat.zero_le _, rfl, Below.refl _ _⟩
    have HRR := Lib.hid hR
    rw [hR]
    clear hlen hR
    go_enter Tryz.func78, Tryz.ntmps78
    go_wp2
    go_loopw [17] (fun vi wr => EqR w sameQ L K vi wr) (fun vi _ => L.length - (intOf vi).toNat)
    case atStart => exact HST.out
    case round =>
      clear HST
      obtain ⟨k, rfl, hk, hd0, hb⟩ := hrel
      have HD := Lib.hid hd0
      have HB := Lib.hid hb
      clear hd0 hb
      rcases Nat.lt_or_ge k L.length with hlt | hge
      · have hlt' : k < K.length := by rw [← HLen.out]; exact hlt
        obtain ⟨g, o, rfl, hc⟩ := HR.out.q_at k hlt
        obtain ⟨g', o', rfl, hc'⟩ := HR'.out.q_at k hlt'
        obtain ⟨c0, c1, c2⟩ := hc _ HB.out
        obtain ⟨e0, e1, e2⟩ := hc' _ (HB.out.alloc HB.out.size (.cells (cellsQ L[k]) 65))
        have hdr := eqL_drop (f := sameQ) hlt hlt'
        obtain ⟨x, hx⟩ : ∃ x, x = L[k] := ⟨_, rfl⟩
        obtain ⟨y, hy⟩ : ∃ y, y = K[k] := ⟨_, rfl⟩
        rw [← hx] at c0 c1 c2 hdr e0 e1 e2
        rw [← hy] at e0 e1 e2 hdr
        unfold cellsQ at e0 e1 e2
        have hck := fun wx => rcSameQ_any x y wx
        obtain ⟨c, hcc⟩ : ∃ c, sameQ x y = c := ⟨_, rfl⟩
        rw [hcc] at hck hdr
        have HCk := Lib.hid hck
        have HDr := Lib.hid hdr
        have HBx := Lib.hid fun (o p : Obj) wx (hb : Below ((wr.alloc o).alloc p).heap.size ((wr.alloc o).alloc p) wx) => HB.out.trans (((below2 wr o p).trans (hb.mono (below2 wr o p).size)).mono HB.out.size)
        clear hck hdr hcc hc hc' hx hy
        cases c
        · go_wp2_with ((with_reducible refine (HCk.out _).mono ?_); rintro e w1 ⟨rfl, hb1⟩; have HB1 := Lib.hid (HBx.out _ _ _ hb1); clear hb1)
          go_ret
          exact ⟨(by rw [← HRR.out, ← HD.out, HDr.out]; first | done | rfl), HB1.out⟩
        · go_wp2_with ((with_reducible refine (HCk.out _).mono ?_); rintro e w1 ⟨rfl, hb1⟩; have HB1 := Lib.hid (HBx.out _ _ _ hb1); clear hb1)
          go_roundw
          case rel => exact ⟨k + 1, by go_num, hlt, by rw [← HD.out, HDr.out]; rfl, HB1.out⟩
          case measure => simp [intOf]; omega
      · obtain rfl : k = L.length := by omega
        have hR1 : R = true := by rw [← HRR.out, ← HD.out, List.drop_length, List.drop_of_length_le (Nat.le_of_eq HLen.out.symm)]; rfl
        subst hR1
        go_wp2
        go_ret
        exact ⟨rfl, HB.out⟩
  · have hd : ((L.length : Int) != (K.length : Int)) = true := by simpa using (by omega : (L.length : Int) ≠ (K.length : Int))
    rw [eqL_ne hlen]
    clear hlen
    go_enter Tryz.func78, Tryz.ntmps78
    go_wp2
    go_ret
    exact ⟨rfl, Below.refl _ _⟩
end Go.Proofs.YtdpgcgaalamgkaaGreat
namespace Go.Proofs.YtdpgcgaalamgkaaGreat
open Go.RowKit Go.Maps
set_option linter.unusedVariables false
set_option maxRecDepth 100000

/-- Two records laid one behind the other. -/
theorem two_r (wr : World) (x y : MR) (A B : Option Addr) (n k cap kap : Nat) : ∃ u1 u2 wa wb wc wd V1 V2, recV x (.slice A n cap) = V1 ∧ recV y (.slice B k kap) = V2 ∧ (Instr.alloc 32 true (.tuple #[])).run Tryz.prog wr = .ok u1 wa ∧ (Instr.storeAt 32 u1 V1).run Tryz.prog wa = .ok () wb ∧ Below wr.heap.size wr wb ∧ (Instr.alloc 32 true (.tuple #[])).run Tryz.prog wb = .ok u2 wc ∧ (Instr.storeAt 32 u2 V2).run Tryz.prog wc = .ok () wd ∧
    (Instr.loadAt 32 u1).run Tryz.prog wd = .ok V1 wd ∧ (Instr.loadAt 32 u2).run Tryz.prog wd = .ok V2 wd ∧ Below wr.heap.size wr wd := by
  refine ⟨_, _, _, wr.alloc (.cells (cellsR x (.slice A n cap)) 32), _, (wr.alloc (.cells (cellsR x (.slice A n cap)) 32)).alloc (.cells (cellsR y (.slice B k kap)) 32), _, _, rfl, rfl, alloc_r wr, store_r x A n cap wr, (Below.refl _ _).alloc (Nat.le_refl _) _, alloc_r (wr.alloc _), store_r y B k kap (wr.alloc _), ?_, ?_, below2 _ _ _⟩
  · exact load_rl ((Lies.new wr 32 (cellsR x (.slice A n cap))).alloc _)
  · exact load_rl (Lies.new _ _ _)
set_option maxHeartbeats 2000000 in
theorem eqR_any (v u : Value) (L K : List RV) (w : World) (h : CRow csR 16 w v L) (h' : CRow csR 16 w u K) (hf : ∀ x ∈ L, FitR w x.1 x.2) (hf' : ∀ x ∈ K, FitR w x.1 x.2) :
    Calls Tryz.prog 80 #[v, u, .func (.func 81) #[] #[]] w (Told w (.bool (eqL sameRV L K))) := by
  obtain ⟨A0, cap0, rfl, hl0, hc0, _⟩ := h.shape
  obtain ⟨A1, cap1, rfl, hl1, hc1, _⟩ := h'.shape
  have hgo : ∀ (args : Array Value) (wx : World), (callFunc 81 args).run Tryz.prog wx = .ok (.enter 81 args) wx := fun args wx => by kernel_rfl
  have HR := Lib.hid h
  have HR' := Lib.hid h'
  have HF := Lib.hid hf
  have HF' := Lib.hid hf'
  unfold maxLen at hc0 hc1
  clear h h' hf hf'
  by_cases hlen : L.length = K.length
  · have hd : ((L.length : Int) != (K.length : Int)) = false := by rw [hlen]; simp
    have HLen := Lib.hid hlen
    obtain ⟨R, hR⟩ : ∃ R, eqL sameRV L K = R := ⟨_, rfl⟩
    have HST : Hid (EqR w sameRV L K (.int .i64 0) w) := Lib.hid ⟨0, rfl, Nat.zero_le _, rfl, Below.refl _ _⟩
    have HRR := Lib.hid hR
    rw [hR]
    clear hlen hR
    go_enter Tryz.func80, Tryz.ntmps80
    go_wp2
    go_loopw [17] (fun vi wr => EqR w sameRV L K vi wr) (fun vi _ => L.length - (intOf vi).toNat)
    case atStart => exact HST.out
    case round =>
      clear HST
      obtain ⟨k, rfl, hk, hd0, hb⟩ := hrel
      have HD := Lib.hid hd0
      have HB := Lib.hid hb
      clear hd0 hb
      rcases Nat.lt_or_ge k L.length with hlt | hge
      · have hlt' : k < K.length := by rw [← HLen.out]; exact hlt
        obtain ⟨g, o, rfl, hld⟩ := HR.out.ld_r k hlt
        obtain ⟨g', o', rfl, hld'⟩ := HR'.out.ld_r k hlt'
        have hfit := HF.out _ (List.getElem_mem hlt)
        have hfit' := HF'.out _ (List.getElem_mem hlt')
        have hdr := eqL_drop (f := sameRV) hlt hlt'
        obtain ⟨x, hx⟩ : ∃ x, x = L[k] := ⟨_, rfl⟩
        obtain ⟨y, hy⟩ : ∃ y, y = K[k] := ⟨_, rfl⟩
        rw [← hx] at hld hdr hfit
        rw [← hy] at hld' hdr hfit'
        clear hx hy
        obtain ⟨r, tv⟩ := x
        obtain ⟨r', tv'⟩ := y
        replace hfit : FitR w r tv := hfit
        replace hfit' : FitR w r' tv' := hfit'
        obtain ⟨A, cap, htv, _, _⟩ := hfit.d.row.shape
        obtain ⟨n, htv1⟩ : ∃ n, tv = .slice A n cap := ⟨_, htv⟩
        clear htv
        subst htv1
        obtain ⟨A', cap', htv, _, _⟩ := hfit'.d.row.shape
        obtain ⟨n', htv1⟩ : ∃ n', tv' = .slice A' n' cap' := ⟨_, htv⟩
        clear htv
        subst htv1
        obtain ⟨u1, u2, wa, wb, wc, wd, V1, V2, hV1, hV2, ha1, hs1, hb1, ha2, hs2, hl1, hl2, hb2⟩ := two_r wr r r' A A' n n' cap cap'
        have hbd := HB.out.trans (hb2.mono HB.out.size)
        have hck := rcSame_any r r' (.slice A n cap) (.slice A' n' cap') wd (hfit.next hbd) (hfit'.next hbd)
        have hx1 := hld _ HB.out
        have hx2 := hld' _ (HB.out.trans (hb1.mono HB.out.size))
        clear hld hld'
        rw [hV1, hV2] at hck
        rw [hV1] at hx1
        rw [hV2] at hx2
        replace hdr : eqL sameRV (L.drop k) (K.drop k) = (sameR r r' && eqL sameRV (L.drop (k + 1)) (K.drop (k + 1))) := hdr
        obtain ⟨c, hcc⟩ : ∃ c, sameR r r' = c := ⟨_, rfl⟩
        rw [hcc] at hck hdr
        have HLd1 := Lib.hid hx1
        have HLd2 := Lib.hid hx2
        have HA1 := Lib.hid ha1
        have HA2 := Lib.hid ha2
        have HS1 := Lib.hid hs1
        have HS2 := Lib.hid hs2
        have HL1 := Lib.hid hl1
        have HL2 := Lib.hid hl2
        have HCk := Lib.hid hck
        have HDr := Lib.hid hdr
        have HBx := Lib.hid fun wx (hb : Below wd.heap.size wd wx) => hbd.trans (hb.mono hbd.size)
        clear hx1 hx2 ha1 ha2 hs1 hs2 hl1 hl2 hck hdr hcc hbd hb1 hb2 hfit hfit' hV1 hV2
        cases c
        · go_wp2_with (first | (refine wpList_load1 rfl 32 (.tmp 20) rfl _ V1 rfl HLd1.out ?_) | (refine wpList_alloc1 rfl 32 rfl u1 HA1.out ?_) | (refine wpList_store1 rfl 32 (.tmp 8) (.tmp 21) rfl u1 V1 rfl rfl HS1.out ?_) | (refine wpList_load1 rfl 32 (.tmp 24) rfl _ V2 rfl HLd2.out ?_) | (refine wpList_alloc1 rfl 32 rfl u2 HA2.out ?_) | (refine wpList_store1 rfl 32 (.tmp 9) (.tmp 25) rfl u2 V2 rfl rfl HS2.out ?_) | (refine wpList_load1 rfl 32 (.tmp 8) rfl u1 V1 rfl HL1.out ?_) | (refine wpList_load1 rfl 32 (.tmp 9) rfl u2 V2 rfl HL2.out ?_) | ((with_reducible refine HCk.out.mono ?_); rintro e w1 ⟨rfl, hb1⟩; have HB1 := Lib.hid (HBx.out _ hb1); clear hb1))
          go_ret
          exact ⟨(by rw [← HRR.out, ← HD.out, HDr.out]; first | done | rfl), HB1.out⟩
        · go_wp2_with (first | (refine wpList_load1 rfl 32 (.tmp 20) rfl _ V1 rfl HLd1.out ?_) | (refine wpList_alloc1 rfl 32 rfl u1 HA1.out ?_) | (refine wpList_store1 rfl 32 (.tmp 8) (.tmp 21) rfl u1 V1 rfl rfl HS1.out ?_) | (refine wpList_load1 rfl 32 (.tmp 24) rfl _ V2 rfl HLd2.out ?_) | (refine wpList_alloc1 rfl 32 rfl u2 HA2.out ?_) | (refine wpList_store1 rfl 32 (.tmp 9) (.tmp 25) rfl u2 V2 rfl rfl HS2.out ?_) | (refine wpList_load1 rfl 32 (.tmp 8) rfl u1 V1 rfl HL1.out ?_) | (refine wpList_load1 rfl 32 (.tmp 9) rfl u2 V2 rfl HL2.out ?_) | ((with_reducible refine HCk.out.mono ?_); rintro e w1 ⟨rfl, hb1⟩; have HB1 := Lib.hid (HBx.out _ hb1); clear hb1))
          go_roundw
          case rel => exact ⟨k + 1, by go_num, hlt, by rw [← HD.out, HDr.out]; rfl, HB1.out⟩
          case measure => simp [intOf]; omega
      · obtain rfl : k = L.length := by omega
        have hR1 : R = true := by rw [← HRR.out, ← HD.out, List.drop_length, List.drop_of_length_le (Nat.le_of_eq HLen.out.symm)]; rfl
        subst hR1
        go_wp2
        go_ret
        exact ⟨rfl, HB.out⟩
  · have hd : ((L.length : Int) != (K.length : Int)) = true := by simpa using (by omega : (L.length : Int) ≠ (K.length : Int))
    rw [eqL_ne hlen]
    clear hlen
    go_enter Tryz.func80, Tryz.ntmps80
    go_wp2
    go_ret
    exact ⟨rfl, Below.refl _ _⟩
end Go.Proofs.YtdpgcgaalamgkaaGreat
namespace Go.Proofs.YtdpgcgaalamgkaaGreat
open Go.RowKit
set_option linter.unusedVariables false
set_option maxRecDepth 10000

theorem Ch.map {α β : Type} {R : Nat → Nat → α → Prop} {R' : Nat → Nat → β → Prop} (g : α → β) (h : ∀ a n x, R a n x → R' a n (g x)) : ∀ {X : List α} {E : List Nat} {a e : Nat}, Ch R X E a e → Ch R' (X.map g) E a e
  | [], [], a, e, k => k
  | x :: X, n :: E, a, e, k => ⟨h _ _ _ k.1, Ch.map g h k.2⟩
  | [], n :: E, a, e, k => by cases k
  | x :: X, [], a, e, k => by cases k
theorem rows_rd {T : List UInt8} {X : List RV} {E : List Nat} {a e : Nat} (h : Ch (RRs T) X E a e) : rdRow (fR T) X.length a = (0, e, X.map Prod.fst) := by
  have h2 := Ch.map (R' := fun a n (x : MR) => fR T a = (0, n, x)) Prod.fst (fun a n x hx => by
    have := hx []
    rw [List.append_nil] at this
    unfold fR
    rw [this]) h
  have h3 := rdRow_ch (f := fR T) (fun a n x hx => hx) h2
  rwa [List.length_map] at h3
theorem qs_rd {T : List UInt8} {X : List MQ} {E : List Nat} {a e : Nat} (h : Ch (RQs T) X E a e) : rdRow (fQ T) X.length a = (0, e, X) :=
  rdRow_ch (f := fQ T) (fun a n x hx => by
    have := hx []
    rw [List.append_nil] at this
    unfold fQ
    rw [this]) h
theorem eqL_map {X Y : List RV} (h : X.map Prod.fst = Y.map Prod.fst) : eqL sameRV X Y = true := by
  rw [eqL_iff]
  have hl : X.length = Y.length := by simpa using congrArg List.length h
  refine ⟨hl, fun j h1 h2 => ?_⟩
  have : X[j].1 = Y[j].1 := by
    have e1 : (X.map Prod.fst)[j]'(by simpa using h1) = X[j].1 := List.getElem_map _
    have e2 : (Y.map Prod.fst)[j]'(by simpa using h2) = Y[j].1 := List.getElem_map _
    rw [← e1, ← e2]
    simp only [h]
  unfold sameRV
  rw [this]
  exact sameR_refl _
structure TxB (m : MM) (T : List UInt8) : Prop where
  err : rdErr T = 0
  same : ∀ a : MM, RdOk T a → sameM a m = true
theorem tx_back {m : MM} (ok : OkM m) (hid : m.h.id < 65536) {s : PS} (b : MsgB m s) : TxB m s.l := by
  obtain ⟨y, hy⟩ := b.pre
  obtain ⟨p1, p2⟩ := put_read ok.may hid y
  rw [← hy] at p1 p2
  obtain ⟨EQ, e0, EA, e1, EU, e2, EM, hq, ha, hu, hm⟩ := b.ch
  have hfew := b.few
  have c0 : m.h.n0.toNat = m.q.length := by rw [ok.n0]; rfl
  have c1 : cnR m.h 0 = m.a.length := by show m.h.n1.toNat = _; rw [ok.n1]; rfl
  have c2 : cnR m.h 1 = m.u.length := by show m.h.n2.toNat = _; rw [ok.n2]; rfl
  have c3 : cnR m.h 2 = m.m.length := by show m.h.n3.toNat = _; rw [ok.n3]; rfl
  have s0 : rdS s.l m.h 0 = (0, e0) := by rw [rdS, c0, qs_rd hq]
  have s1 : rdS s.l m.h 1 = (0, e1) := by rw [rdS, s0, if_pos rfl, c1]; simp only [rows_rd ha]
  have s2 : rdS s.l m.h 2 = (0, e2) := by rw [rdS, s1, if_pos rfl, c2]; simp only [rows_rd hu]
  have s3 : rdS s.l m.h 3 = (0, s.l.length) := by rw [rdS, s2, if_pos rfl, c3]; simp only [rows_rd hm]
  refine ⟨?_, fun a h => ?_⟩
  · unfold rdErr
    rw [if_neg (by omega), if_neg (fun k => k p1), p2, s3]
    simp
  · obtain ⟨r1, r2, r3, r4, r5⟩ := h
    rw [p2] at r1 r2 r3 r4 r5
    unfold rdQl at r2
    unfold rdL at r3 r4 r5
    rw [c0, qs_rd hq] at r2
    rw [s0, c1] at r3
    rw [s1, c2] at r4
    rw [s2, c3] at r5
    simp only [rows_rd ha] at r3
    simp only [rows_rd hu] at r4
    simp only [rows_rd hm] at r5
    unfold sameM
    rw [decide_eq_true r1, r2, eqL_refl sameQ_refl, eqL_map r3, eqL_map r4, eqL_map r5]
    rfl
/-- What MessageBack asks of the octets. -/
structure FullB (m : MM) (L : Nat) : Prop where
  size : L ≤ sizeM m
  again : putMs L m = putMs 65535 m
  less : ∀ M, M + 1 = L → (putMs M m).2.l.length ≤ M → (putMs M m).2.f = 3
theorem full_back {m : MM} (ok : OkM m) (b : MsgB m (putMs 65535 m).2) : FullB m (putMs 65535 m).2.l.length := by
  have hfew := b.few
  refine ⟨?_, ?_, fun M hM hle => ?_⟩
  · have := b.le
    unfold sizeM
    rw [if_neg (fun h => h (checkM_zero.2 ok))]
    unfold MM.recs at this
    rw [sumL_app, sumL_app] at this
    omega
  · exact (mo_ms (M := (putMs 65535 m).2.l.length) (M' := 65535) (by omega) m).2.1 b.f (Nat.le_refl _)
  · obtain ⟨h1, _, h3⟩ := mo_ms (M := M) (M' := 65535) (by omega) m
    rcases h3 with h3 | h3
    · have := h1 h3
      rw [← this] at hle
      omega
    · exact h3
theorem size_few {m : MM} (h : m.q.length + m.recs.length ≤ 24) : sizeM m ≤ 3000000 := by
  unfold sizeM
  split
  · omega
  · have hr : m.recs.length = m.a.length + m.u.length + m.m.length := by unfold MM.recs; rw [List.length_append, List.length_append]
    have q1 : sumL szQ m.q ≤ 259 * m.q.length := sumL_le szQ 259 _ fun x _ => by have := sizeN_most (bs x.n); unfold szQ; omega
    have r1 : ∀ l : List RV, sumL szRV l ≤ 65800 * l.length := fun l => sumL_le szRV 65800 _ fun x _ => sizeR_most x.1
    have a0 := r1 m.a; have a1 := r1 m.u; have a2 := r1 m.m
    omega
end Go.Proofs.YtdpgcgaalamgkaaGreat
namespace Go.Proofs.YtdpgcgaalamgkaaGreat
open Go.RowKit Go.Maps
set_option linter.unusedVariables false
set_option maxRecDepth 100000

set_option maxHeartbeats 1000000 in
theorem mCut_fit (m : MM) (vq va vu vm : Value) (most : Int) (w : World) (hf : FitM w m vq va vu vm) (hmo : most ≤ 9223372036854775807) (ok : OkM m) (h0 : (putMs (min most 65535).toNat m).2.f = 0) :
    Calls Tryz.prog 24 #[msgV m.h vq va vu vm, .int .i64 most] w (Told w (.tuple #[.string ⟨((putMs (min most 65535).toNat m).2.l).toArray⟩, .int .i64 0])) := by
  have HCk := Lib.hid fun wx (hb : Below w.heap.size w wx) => mCheck_any m vq va vu vm wx (hf.next hb)
  have hpt := fun wx (hb : Below w.heap.size w wx) => mput_any m vq va vu vm most wx (hf.next hb) ok hmo
  obtain ⟨Aq, cq, Aa, ca, Au, cu, Am, cm, rfl, rfl, rfl, rfl, ⟨l1, l2, l3, l4⟩, _⟩ := hf.shapes
  have hbx := box_m m.h Aq Aa Au Am m.q.length m.a.length m.u.length m.m.length cq ca cu cm w
  have hld := fun wx g (l : Lies wx g 54 (cellsM m.h (.slice Aq m.q.length cq) (.slice Aa m.a.length ca) (.slice Au m.u.length cu) (.slice Am m.m.length cm))) => load_ml l
  obtain ⟨M, hM⟩ : ∃ M, (min most 65535).toNat = M := ⟨_, rfl⟩
  rw [hM] at hpt h0 ⊢
  have hT : putT M m = (putMs M m).2.l := by unfold putT; rw [if_pos h0]
  unfold PutM at hpt
  rw [hT, h0] at hpt
  obtain ⟨S, hS⟩ : ∃ S : ByteArray, (⟨(putMs M m).2.l.toArray⟩ : ByteArray) = S := ⟨_, rfl⟩
  rw [hS] at hpt ⊢
  obtain ⟨n, hn⟩ : ∃ n, (putMs M m).1 = n := ⟨_, rfl⟩
  rw [hn] at hpt
  have HPt := Lib.hid hpt
  obtain ⟨C, hC⟩ : ∃ C, cellsM m.h (.slice Aq m.q.length cq) (.slice Aa m.a.length ca) (.slice Au m.u.length cu) (.slice Am m.m.length cm) = C := ⟨_, rfl⟩
  obtain ⟨V, hV⟩ : ∃ V, msgV m.h (.slice Aq m.q.length cq) (.slice Aa m.a.length ca) (.slice Au m.u.length cu) (.slice Am m.m.length cm) = V := ⟨_, rfl⟩
  rw [hV] at HCk HPt ⊢
  rw [checkM_zero.2 ok] at HCk
  rw [hV, hC] at hbx
  simp only [hV, hC] at hld
  have hB0 : Below w.heap.size w (w.alloc (.cells C 54)) := (Below.refl _ _).alloc (Nat.le_refl _) _
  have HBx := Lib.hid hbx
  have HLd := Lib.hid hld
  have HB0 := Lib.hid hB0
  have hne : ((((0 : Nat) : Nat) : Int) != 0) = false := rfl
  clear hf l1 l2 l3 l4 hM hC hV hbx hld hB0 hpt hT h0 hS hn
  go_enter Tryz.func24, Tryz.ntmps24
  go_wp2_with (first | (refine wpList_box1 rfl 54 (.tmp 0) rfl V _ rfl HBx.out ?_) | (refine wpList_load1 rfl 54 (.tmp 2) rfl _ V rfl (HLd.out _ _ (Lies.new _ _ _)) ?_) | (refine wpList_load1 rfl 54 (.tmp 2) rfl _ V rfl (HLd.out _ _ HL1.out) ?_) | (go_at_call 25; (with_reducible refine (HCk.out _ HB0.out).mono ?_); rintro e w1 ⟨rfl, hb1⟩; have HL1 := Lib.hid ((Lies.new w 54 C).next hb1); have HB1 := Lib.hid (HB0.out.trans (hb1.mono HB0.out.size)); clear hb1) | (go_at_call 66; (with_reducible refine (HPt.out _ HB1.out).mono ?_); rintro e w2 ⟨rfl, _, hb2⟩; have HB2 := Lib.hid (HB1.out.trans (hb2.mono HB1.out.size)); clear hb2))
  go_ret2
  exact ⟨rfl, HB2.out⟩
end Go.Proofs.YtdpgcgaalamgkaaGreat
namespace Go.Proofs.YtdpgcgaalamgkaaGreat
open Go.RowKit Go.Maps
set_option linter.unusedVariables false
set_option maxRecDepth 100000

theorem wpList_bin1 {ops : Array Oper} {rest : List Oper} {o : Oper} {a : Act} {w w' : World} {Q : Exit → Act → World → Prop} (hgd : o.guard = none) (op : BinOp) (t rt : TypeId) (x y : Operand) (ho : o.op = .binOp op t x y rt) (V1 V2 u : Value) (hx : a.eval x = V1) (hy : a.eval y = V2) (hb : (do eqGuard op t x y V1 V2; binOp op t V1 V2 : Sem Value).run Tryz.prog w = .ok u w')
    (h : wpList Tryz.prog ops Q rest (a.put o.dst u) w') : wpList Tryz.prog ops Q (o :: rest) a w := by
  refine wpList_plain hgd fun K hK => ?_
  unfold Oper.wp execOp
  simp only [ho, hx, hy, Sem.run_bind, Sem.run_pure] at hb ⊢
  rw [hb]
  simp only [Result.andThen_ok]
  exact hK _ _ h
theorem hd_neq_op (a b : Hd) (x y : Operand) (w : World) : (do eqGuard .neq 50 x y (hv a) (hv b); binOp .neq 50 (hv a) (hv b) : Sem Value).run Tryz.prog w = .ok (.bool (!decide (a = b))) w := by
  have h1 := hd_neq a b w
  have h2 : (eqGuard .neq 50 x y (hv a) (hv b)).run Tryz.prog w = .ok () w := by
    unfold hv
    apply run_eqGuard_agg; kernel_rfl
  rw [Sem.run_bind, h2]
  exact h1
theorem alloc_rows (w : World) : (Instr.alloc 119 true (.tuple #[])).run Tryz.prog w = .ok (pp w.heap.size) (w.alloc (.cells #[.pointer none, .pointer none, .pointer none] 119)) := by
  go_simp
theorem store_rows (g : Nat) (w : World) : (Instr.storeAt 119 (pp w.heap.size) (rowsV g)).run Tryz.prog (w.alloc (.cells #[.pointer none, .pointer none, .pointer none] 119)) = .ok () (w.alloc (.cells #[.pointer (some ⟨g, 15, none⟩), .pointer (some ⟨g, 16, none⟩), .pointer (some ⟨g, 17, none⟩)] 119)) := by
  go_simp
theorem rows_at {w : World} {g gb j : Nat} (h : Lies w g 119 #[.pointer (some ⟨gb, 15, none⟩), .pointer (some ⟨gb, 16, none⟩), .pointer (some ⟨gb, 17, none⟩)]) (hj : j < 3) : w.cell? ⟨g, j, none⟩ = some (.pointer (some ⟨gb, 15 + j, none⟩)) := by
  obtain rfl | rfl | rfl : j = 0 ∨ j = 1 ∨ j = 2 := by omega
  · exact h.cell 0
  · exact h.cell 1
  · exact h.cell 2
theorem rows_ix (g j : Nat) (hj : j < 3) (w : World) : (Instr.indexAt 119 (pp g) (.int .i64 (j : Int))).run Tryz.prog w = .ok (.pointer (some ⟨g, j, none⟩)) w := by
  obtain rfl | rfl | rfl : j = 0 ∨ j = 1 ∨ j = 2 := by omega
  all_goals go_simp
def rows3 (m : MM) : List (List RV) := [m.a, m.u, m.m]
theorem rows3_at (m : MM) {j : Nat} (h : j < 3) : (rows3 m).drop j = rowAt m j :: (rows3 m).drop (j + 1) := by
  obtain rfl | rfl | rfl : j = 0 ∨ j = 1 ∨ j = 2 := by omega
  all_goals rfl
theorem sameM_rows (a b : MM) : sameM a b = (decide (a.h = b.h) && (eqL sameQ a.q b.q && eqL (eqL sameRV) (rows3 a) (rows3 b))) := by
  unfold sameM rows3
  simp [eqL]
end Go.Proofs.YtdpgcgaalamgkaaGreat
namespace Go.Proofs.YtdpgcgaalamgkaaGreat
open Go.RowKit Go.Maps
set_option linter.unusedVariables false
set_option maxRecDepth 100000

def SmR (W : World) (a b : MM) (R : Bool) (vi : Value) (wr : World) : Prop := ∃ j : Nat, vi = .int .i64 j ∧ j ≤ 3 ∧ eqL (eqL sameRV) ((rows3 a).drop j) ((rows3 b).drop j) = R ∧ Below W.heap.size W wr
set_option maxHeartbeats 4000000 in
theorem mSame_any (a b : MM) (vq va vu vm uq ua uu um : Value) (w : World) (hfa : FitM w a vq va vu vm) (hfb : FitM w b uq ua uu um) :
    Calls Tryz.prog 27 #[msgV a.h vq va vu vm, msgV b.h uq ua uu um] w (Told w (.bool (sameM a b))) := by
  have hHQ := eqQ_any vq uq a.q b.q
  obtain ⟨Aaq, caq, Aaa, caa, Aau, cau, Aam, cam, rfl, rfl, rfl, rfl, ⟨l1, l2, l3, l4⟩, _⟩ := hfa.shapes
  obtain ⟨Abq, cbq, Aba, cba, Abu, cbu, Abm, cbm, rfl, rfl, rfl, rfl, ⟨k1, k2, k3, k4⟩, _⟩ := hfb.shapes
  unfold maxLen at l1 l2 l3 l4 k1 k2 k3 k4
  obtain ⟨CA, hCA⟩ : ∃ C, (cellsM a.h (.slice Aaq a.q.length caq) (.slice Aaa a.a.length caa) (.slice Aau a.u.length cau) (.slice Aam a.m.length cam)) = C := ⟨_, rfl⟩
  obtain ⟨VA, hVA⟩ : ∃ V, (msgV a.h (.slice Aaq a.q.length caq) (.slice Aaa a.a.length caa) (.slice Aau a.u.length cau) (.slice Aam a.m.length cam)) = V := ⟨_, rfl⟩
  obtain ⟨CB, hCB⟩ : ∃ C, (cellsM b.h (.slice Abq b.q.length cbq) (.slice Aba b.a.length cba) (.slice Abu b.u.length cbu) (.slice Abm b.m.length cbm)) = C := ⟨_, rfl⟩
  obtain ⟨VB, hVB⟩ : ∃ V, (msgV b.h (.slice Abq b.q.length cbq) (.slice Aba b.a.length cba) (.slice Abu b.u.length cbu) (.slice Abm b.m.length cbm)) = V := ⟨_, rfl⟩
  obtain ⟨Ha, hHa⟩ : ∃ V, hv a.h = V := ⟨_, rfl⟩
  obtain ⟨Hb, hHb⟩ : ∃ V, hv b.h = V := ⟨_, rfl⟩
  have hbxa := box_m a.h Aaq Aaa Aau Aam a.q.length a.a.length a.u.length a.m.length caq caa cau cam w
  rw [hVA, hCA] at hbxa
  obtain ⟨W1, hW1⟩ : ∃ W, W = w.alloc (.cells CA 54) := ⟨_, rfl⟩
  rw [← hW1] at hbxa
  have hbxb := box_m b.h Abq Aba Abu Abm b.q.length b.a.length b.u.length b.m.length cbq cba cbu cbm W1
  rw [hVB, hCB] at hbxb
  obtain ⟨W, hW⟩ : ∃ W, W = W1.alloc (.cells CB 54) := ⟨_, rfl⟩
  rw [← hW] at hbxb
  have hL1 : Lies W w.heap.size 54 CA := by rw [hW, hW1]; exact (Lies.new _ _ _).alloc _
  have hL2 : Lies W W1.heap.size 54 CB := by rw [hW]; exact Lies.new _ _ _
  have hB0 : Below w.heap.size w W := by rw [hW, hW1]; exact below2 _ _ _
  obtain ⟨ga, hga⟩ : ∃ g, w.heap.size = g := ⟨_, rfl⟩
  obtain ⟨gb, hgb⟩ : ∃ g, W1.heap.size = g := ⟨_, rfl⟩
  rw [hga] at hbxa hL1
  rw [hgb] at hbxb hL2
  have HLA : Hid (∀ wx, Below W.heap.size W wx → Lies wx ga 54 (cellsM a.h (.slice Aaq a.q.length caq) (.slice Aaa a.a.length caa) (.slice Aau a.u.length cau) (.slice Aam a.m.length cam))) := Lib.hid fun wx hb => by rw [hCA]; exact hL1.next hb
  have HLB : Hid (∀ wx, Below W.heap.size W wx → Lies wx gb 54 (cellsM b.h (.slice Abq b.q.length cbq) (.slice Aba b.a.length cba) (.slice Abu b.u.length cbu) (.slice Abm b.m.length cbm))) := Lib.hid fun wx hb => by rw [hCB]; exact hL2.next hb
  have HLHa : Hid (∀ wx, Below W.heap.size W wx → (Instr.loadAt 50 (pp ga)).run Tryz.prog wx = .ok Ha wx) := Lib.hid fun wx hb => by rw [← hHa]; exact load_hd (HLA.out wx hb)
  have HLHb : Hid (∀ wx, Below W.heap.size W wx → (Instr.loadAt 50 (pp gb)).run Tryz.prog wx = .ok Hb wx) := Lib.hid fun wx hb => by rw [← hHb]; exact load_hd (HLB.out wx hb)
  have HBxA := Lib.hid hbxa
  have HBxB := Lib.hid hbxb
  have HEnt : Hid (∀ wx, Below W.heap.size W wx → Below w.heap.size w wx) := Lib.hid fun wx hb => hB0.trans (hb.mono hB0.size)
  have HRA := Lib.hid (hfa.row (t := 54) HLA.out)
  have HRB := Lib.hid (hfb.row (t := 54) HLB.out)
  have HRoA := Lib.hid fun wx => rowsOf_any ga wx
  have HRoB := Lib.hid fun wx => rowsOf_any gb wx
  have HQ : Hid (Calls Tryz.prog 78 _ W _) := Lib.hid (hHQ W (hfa.q.below hB0) (hfb.q.below hB0))
  have hHQ' : ∀ x y wx, (do eqGuard .neq 50 x y Ha Hb; binOp .neq 50 Ha Hb : Sem Value).run Tryz.prog wx = .ok (.bool (!decide (a.h = b.h))) wx := fun x y wx => by rw [← hHa, ← hHb]; exact hd_neq_op a.h b.h x y wx
  obtain ⟨nb, hnb⟩ : ∃ c, (!decide (a.h = b.h)) = c := ⟨_, rfl⟩
  rw [hnb] at hHQ'
  have HEq := Lib.hid hHQ'
  obtain ⟨cq, hcq⟩ : ∃ c, eqL sameQ a.q b.q = c := ⟨_, rfl⟩
  rw [hcq] at HQ
  obtain ⟨R, hR⟩ : ∃ c, eqL (eqL sameRV) (rows3 a) (rows3 b) = c := ⟨_, rfl⟩
  have HR := Lib.hid hR
  have hV : sameM a b = (!nb && (cq && R)) := by rw [sameM_rows, hcq, hR, ← hnb, Bool.not_not]
  obtain ⟨VV, hVV⟩ : ∃ V, sameM a b = V := ⟨_, rfl⟩
  rw [hVV] at hV ⊢
  have HV := Lib.hid hV
  have y14a := (HLA.out _ (Below.refl _ _)).cell 14
  have y14b := (HLB.out _ (Below.refl _ _)).cell 14
  rw [hVA, hVB]
  clear hfa hfb hHQ hHQ' hbxa hbxb hL1 hL2 hB0 hnb hcq hR hV hVV hCA hVA hCB hVB hHa hHb hW hW1 hga hgb
  cases nb
  · cases cq
    · as_aux_lemma =>
        go_enter Tryz.func27, Tryz.ntmps27
        go_wp2_with (first | (refine wpList_box1 rfl 54 (.tmp 0) rfl VA _ rfl HBxA.out ?_) | (refine wpList_box1 rfl 54 (.tmp 1) rfl VB _ rfl HBxB.out ?_) | (refine wpList_load1 rfl 50 (.tmp 8) rfl _ Ha rfl (HLHa.out _ (Below.refl _ _)) ?_) | (refine wpList_load1 rfl 50 (.tmp 10) rfl _ Hb rfl (HLHb.out _ (Below.refl _ _)) ?_) | (refine wpList_bin1 rfl .neq 50 _ (.tmp 9) (.tmp 11) rfl Ha Hb _ rfl rfl (HEq.out _ _ _) ?_) | (go_at_call 78; (with_reducible refine HQ.out.mono ?_); rintro e w3 ⟨rfl, hb3⟩; have HB3 := Lib.hid hb3; clear hb3))
        go_ret
        exact ⟨(by rw [HV.out]; rfl), HEnt.out _ HB3.out⟩
    · as_aux_lemma =>
        go_enter Tryz.func27, Tryz.ntmps27
        go_wp2_with (first | (refine wpList_box1 rfl 54 (.tmp 0) rfl VA _ rfl HBxA.out ?_) | (refine wpList_box1 rfl 54 (.tmp 1) rfl VB _ rfl HBxB.out ?_) | (refine wpList_load1 rfl 50 (.tmp 8) rfl _ Ha rfl (HLHa.out _ (Below.refl _ _)) ?_) | (refine wpList_load1 rfl 50 (.tmp 10) rfl _ Hb rfl (HLHb.out _ (Below.refl _ _)) ?_) | (refine wpList_bin1 rfl .neq 50 _ (.tmp 9) (.tmp 11) rfl Ha Hb _ rfl rfl (HEq.out _ _ _) ?_) | (go_at_call 78; (with_reducible refine HQ.out.mono ?_); rintro e w3 ⟨rfl, hb3⟩; have HB3 := Lib.hid hb3; clear hb3) | (go_at_call 73; (with_reducible refine (HRoB.out _).mono ?_); rintro e w4 ⟨rfl, hb4⟩; have HB4 := Lib.hid (HB3.out.trans (hb4.mono HB3.out.size)); clear hb4) | (refine wpList_alloc1 rfl 119 rfl _ (alloc_rows w4) ?_) | (refine wpList_store1 rfl 119 (.tmp 5) (.tmp 21) rfl _ _ rfl rfl (store_rows gb w4) ?_) | (go_at_call 73; (with_reducible refine (HRoA.out _).mono ?_); rintro e w5 ⟨rfl, hb5⟩))
        have hVR : VV = R := by rw [HV.out]; rfl
        subst hVR
        have hb6 := (Below.refl _ w4).alloc (Nat.le_refl _) (.cells #[.pointer (some ⟨gb, 15, none⟩), .pointer (some ⟨gb, 16, none⟩), .pointer (some ⟨gb, 17, none⟩)] 119)
        have hL3 := (Lies.new w4 119 #[.pointer (some ⟨gb, 15, none⟩), .pointer (some ⟨gb, 16, none⟩), .pointer (some ⟨gb, 17, none⟩)]).next hb5
        have HB5 := Lib.hid (HB4.out.trans (((hb6.trans (hb5.mono hb6.size))).mono HB4.out.size))
        obtain ⟨gr, hgr⟩ : ∃ g, w4.heap.size = g := ⟨_, rfl⟩
        simp only [hgr] at hL3 ⊢
        have HST : Hid (SmR w5 a b VV (.int .i64 0) w5) := Lib.hid ⟨0, rfl, by decide, HR.out, Below.refl _ _⟩
        have HL3 := Lib.hid hL3
        clear hb5 hb6 hL3 hgr y14a y14b
        go_loopw [23] (fun vi wr => SmR w5 a b VV vi wr) (fun vi _ => 3 - (intOf vi).toNat)
        case atStart => exact HST.out
        case round =>
          clear HST
          obtain ⟨j, rfl, hj, hd, hb⟩ := hrel
          have HD := Lib.hid hd
          have HBw := Lib.hid hb
          have HB := Lib.hid (HB5.out.trans (hb.mono HB5.out.size))
          clear hd hb
          rcases Nat.lt_or_ge j 3 with hlt | hge
          · obtain ⟨Ax, cx, hrowA, hcellA, hidx, hfitA, hlenA⟩ := HRA.out j hlt
            obtain ⟨Bx, dx, hrowB, hcellB, _, hfitB, hlenB⟩ := HRB.out j hlt
            have hix := rows_ix gr j hlt
            have hd1 := rows3_at a hlt
            have hd2 := rows3_at b hlt
            have hdr : eqL (eqL sameRV) ((rows3 a).drop j) ((rows3 b).drop j) = (eqL sameRV (rowAt a j) (rowAt b j) && eqL (eqL sameRV) ((rows3 a).drop (j + 1)) ((rows3 b).drop (j + 1))) := by rw [hd1, hd2]; rfl
            have hck := fun wx (hb : Below W.heap.size W wx) => eqR_any _ _ _ _ wx (hrowA.below (HEnt.out _ hb)) (hrowB.below (HEnt.out _ hb)) (fun x hx => (hfitA x hx).next (HEnt.out _ hb)) (fun x hx => (hfitB x hx).next (HEnt.out _ hb))
            obtain ⟨L, hL⟩ : ∃ L, rowAt a j = L := ⟨_, rfl⟩
            obtain ⟨K, hK⟩ : ∃ L, rowAt b j = L := ⟨_, rfl⟩
            rw [hL] at hcellA hdr hck hlenA
            rw [hK] at hcellB hdr hck hlenB
            obtain ⟨c, hcc⟩ : ∃ c, eqL sameRV L K = c := ⟨_, rfl⟩
            rw [hcc] at hck hdr
            have HDr := Lib.hid hdr
            clear hrowA hrowB hfitA hfitB hdr hL hK hcc hd1 hd2
            go_upto_region 7 with (fail)
            obtain ⟨Ix, f, i0, hf0, hCn, hstep⟩ := class_ofC wr
            haveI : Nonempty Ix := ⟨i0⟩
            have HBn := Lib.hid fun n => HB.out.trans ((hCn n).mono HB.out.size)
            have x1 := fun n => hcellA _ (HBn.out n)
            have x2 := fun n => hcellB _ (HBn.out n)
            have x3 := fun n => rows_at (HL3.out.next (HBw.out.trans ((hCn n).mono HBw.out.size))) hlt
            have V1 := Lib.hid (fun n => (hck (f n) (HBn.out n)).mono (fun _ _ h => (⟨h.1, hstep n _ h.2⟩ : _ ∧ ∃ m, _ = f m)))
            clear hstep hck hcellA hcellB
            refine wp_region_class f (by kernel_rfl) (lexB_of (by kernel_rfl) (by as_aux_lemma => kernel_rfl)) i0 hf0 ?_
            clear hf0
            repeat (go_big_quiet_step (with_reducible exact V1.out _))
            all_goals
              refine wpQuiet_nil ?_
              intro _ hw'
              obtain ⟨nE, hw''⟩ := hw'
              subst hw''
            clear x1 x2 x3 V1 hix
            have HBE := Lib.hid (HBw.out.trans ((hCn nE).mono HBw.out.size))
            have HBF := Lib.hid (HBn.out nE)
            clear hCn HBn
            obtain ⟨wE, hwE⟩ : ∃ wE, f nE = wE := ⟨_, rfl⟩
            rw [hwE] at HBE HBF ⊢
            clear hwE
            cases c
            · have hVc : VV = false := by rw [← HD.out, HDr.out]; rfl
              subst hVc
              go_wp2
              go_ret
              exact ⟨rfl, HEnt.out _ HBF.out⟩
            · go_wp2
              go_roundw
              case rel => exact ⟨j + 1, by go_num, hlt, by rw [← HD.out, HDr.out]; rfl, HBE.out⟩
              case measure => simp [intOf]; omega
          · obtain rfl : j = 3 := by omega
            have hVt : VV = true := by rw [← HD.out]; rfl
            subst hVt
            go_wp2
            go_ret
            exact ⟨rfl, HEnt.out _ HB.out⟩
  · as_aux_lemma =>
      go_enter Tryz.func27, Tryz.ntmps27
      go_wp2_with (first | (refine wpList_box1 rfl 54 (.tmp 0) rfl VA _ rfl HBxA.out ?_) | (refine wpList_box1 rfl 54 (.tmp 1) rfl VB _ rfl HBxB.out ?_) | (refine wpList_load1 rfl 50 (.tmp 8) rfl _ Ha rfl (HLHa.out _ (Below.refl _ _)) ?_) | (refine wpList_load1 rfl 50 (.tmp 10) rfl _ Hb rfl (HLHb.out _ (Below.refl _ _)) ?_) | (refine wpList_bin1 rfl .neq 50 _ (.tmp 9) (.tmp 11) rfl Ha Hb _ rfl rfl (HEq.out _ _ _) ?_))
      go_ret
      exact ⟨(by rw [HV.out]; rfl), HEnt.out _ (Below.refl _ _)⟩
end Go.Proofs.YtdpgcgaalamgkaaGreat
