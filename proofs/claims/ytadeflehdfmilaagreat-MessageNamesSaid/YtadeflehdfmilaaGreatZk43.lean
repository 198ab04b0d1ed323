/-
  message.Read: the walk. Condition: the octets are no longer than 2^40.
-/
import Derived.Test.YtadeflehdfmilaaGreatZk42
import Derived.Test.YtadeflehdfmilaaGreatZk41
namespace Go.Proofs.YtadeflehdfmilaaGreat
open Go.RowKit Go.Maps
set_option linter.unusedVariables false
set_option maxRecDepth 100000

def rdErr (T : List UInt8) : Nat := if 65535 < T.length then 3 else if rdE T ≠ 0 then rdE T else if (rdS T (rdV T) 3).1 ≠ 0 then (rdS T (rdV T) 3).1 else if (rdS T (rdV T) 3).2 < T.length then 4 else 0
def zeroMM : MM := ⟨noH, [], [], [], []⟩
structure RdOk (T : List UInt8) (m : MM) : Prop where
  h : m.h = rdV T
  q : m.q = rdQl T (rdV T)
  a : m.a.map Prod.fst = rdL T (rdV T) 0
  u : m.u.map Prod.fst = rdL T (rdV T) 1
  m : m.m.map Prod.fst = rdL T (rdV T) 2
/-- What Read leaves. -/
def ReadM (w : World) (T : List UInt8) (e : Ending) (w' : World) : Prop :=
  ∃ m vq va vu vm, e = .returned (.tuple #[msgV m.h vq va vu vm, .int .i64 (rdErr T : Nat)]) ∧ Below w.heap.size w w' ∧ FitM w' m vq va vu vm ∧ (rdErr T ≠ 0 → m = zeroMM) ∧ (rdErr T = 0 → RdOk T m)
theorem rdRow_mem {α : Type} {f : Nat → Nat × Nat × α} : ∀ {n k : Nat} {x : α}, x ∈ (rdRow f n k).2.2 → ∃ a, x = (f a).2.2
  | 0, k, x, h => by cases h
  | n + 1, k, x, h => by
    by_cases h1 : (f k).1 = 0
    · by_cases h2 : (rdRow f n (f k).2.1).1 = 0
      · rw [rdRow, if_pos h1, if_pos h2] at h
        rcases List.mem_cons.1 h with e | h'
        · exact ⟨k, e⟩
        · exact rdRow_mem h'
      · rw [rdRow, if_pos h1, if_neg h2] at h
        cases h
    · rw [rdRow, if_neg h1] at h
      cases h
theorem fit_zero (w : World) : FitM w zeroMM nilS nilS nilS nilS := by
  have hr : ∀ {α : Type} (cs : α → List Value) (k : Nat), CRow cs k w nilS [] := fun cs k => ⟨none, 0, rfl, Nat.le_refl _, Nat.zero_le _, fun j h => (nomatch h)⟩
  exact ⟨⟨by decide, by decide, by decide, by decide, by decide, by decide, by decide⟩, hr _ _, hr _ _, hr _ _, hr _ _, fun x h => (nomatch h), fun x h => (nomatch h), nilOk0, nilOk0, nilOk0⟩
theorem may_fits {h : Hd} (m : h.may) (hid : h.id < 65536) : h.fits := by
  obtain ⟨a, b, c, d, e, f⟩ := m
  exact ⟨hid, ⟨by omega, by omega⟩, ⟨by omega, by omega⟩, ⟨by omega, by omega⟩, ⟨by omega, by omega⟩, ⟨by omega, by omega⟩, ⟨by omega, by omega⟩⟩
theorem build_m0' (w : World) : (Instr.build 54 #[]).run Tryz.prog w = .ok (msgV noH nilS nilS nilS nilS) w := by
  unfold msgV
  rw [zeroM_eq]
  exact build_m0 w
theorem readM_no {w w' : World} {T : List UInt8} {e : Nat} (he : rdErr T = e) (h0 : e ≠ 0) (hb : Below w.heap.size w w') : ReadM w T (.returned (.tuple #[msgV noH nilS nilS nilS nilS, .int .i64 (e : Nat)])) w' :=
  ⟨zeroMM, nilS, nilS, nilS, nilS, by rw [he]; rfl, hb, fit_zero _, fun _ => rfl, fun h => absurd (he.symm.trans h) h0⟩
set_option maxHeartbeats 4000000 in
theorem mRead_any (S : ByteArray) (w : World) (hS : S.size ≤ 1099511627776) :
    Calls Tryz.prog 20 #[.string S] w (ReadM w (bs S)) := by
  have hal := alloc_m w
  obtain ⟨W, hW⟩ : ∃ W, W = w.alloc (.cells zeroM 54) := ⟨_, rfl⟩
  have hB0 : Below w.heap.size w W := by rw [hW]; exact (Below.refl _ _).alloc (Nat.le_refl _) _
  have hL0 : Lies W w.heap.size 54 (cellsM noH nilS nilS nilS nilS) := by rw [hW, zeroM_eq]; exact Lies.new _ _ _
  rw [← hW] at hal
  have HAl := Lib.hid hal
  have HB0 := Lib.hid hB0
  have HL0 := Lib.hid hL0
  have hlen : (bs S).length = S.size := bs_length S
  have HZ := Lib.hid fun wx => build_m0' wx
  have HSz := Lib.hid fun (wx : World) (hb : Below W.heap.size W wx) => store_any (hL0.next hb) noH none none none none 0 0 0 0 0 0 0 0
  obtain ⟨V0, hV0⟩ : ∃ V, msgV noH nilS nilS nilS nilS = V := ⟨_, rfl⟩
  rw [hV0] at HZ
  have HSz' : Hid (∀ wx, Below W.heap.size W wx → ∃ w', (Instr.storeAt 54 (pp w.heap.size) V0).run Tryz.prog wx = .ok () w' ∧ Lies w' w.heap.size 54 (cellsM noH nilS nilS nilS nilS) ∧ wx.grownBy w' (some w.heap.size)) := Lib.hid fun wx hb => by rw [← hV0]; exact HSz.out wx hb
  have HV0 := Lib.hid hV0
  have HGr : Hid (∀ wx w', Below w.heap.size w wx → wx.grownBy w' (some w.heap.size) → Below w.heap.size w w') := Lib.hid fun wx w' hb hg => hb.grown hg hb.size fun k hk => by injection hk with hk; omega
  clear hal hB0 hL0 hW HSz hV0
  by_cases hbig : 65535 < S.size
  · have hd : decide ((65535 : Int) < (S.size : Int)) = true := by simpa using (by omega : (65535 : Int) < S.size)
    have HE : Hid (rdErr (bs S) = 3) := Lib.hid (by unfold rdErr; rw [if_pos (by omega)])
    obtain ⟨w9, hst, hl9, hg9⟩ := HSz'.out W (Below.refl _ _)
    have HSt := Lib.hid hst
    have HL9 := Lib.hid hl9
    have HB9 := Lib.hid (HGr.out _ _ HB0.out hg9)
    clear hst hl9 hg9 hbig
    go_enter Tryz.func20, Tryz.ntmps20
    go_wp2_with (first | (refine wpList_alloc1 rfl 54 rfl _ HAl.out ?_) | (refine wpList_bld0 rfl 54 rfl V0 (HZ.out _) ?_) | (refine wpList_store1 rfl 54 (.tmp 2) (.tmp 11) rfl _ V0 rfl rfl HSt.out ?_))
    refine bodyPost_ret (ret_m2 rfl _ _ w.heap.size noH nilS nilS nilS nilS rfl HL9.out) rfl ?_
    exact readM_no (e := 3) HE.out (by decide) HB9.out
  · have hd : decide ((65535 : Int) < (S.size : Int)) = false := by simpa using (by omega : (S.size : Int) ≤ 65535)
    have hE0 : rdErr (bs S) = if rdE (bs S) ≠ 0 then rdE (bs S) else if (rdS (bs S) (rdV (bs S)) 3).1 ≠ 0 then (rdS (bs S) (rdV (bs S)) 3).1 else if (rdS (bs S) (rdV (bs S)) 3).2 < (bs S).length then 4 else 0 := by
      unfold rdErr
      rw [if_neg (by omega)]
    have HRH : Hid (∀ wx, Calls Tryz.prog 56 #[.string S] wx (Told wx (.tuple #[hv (rdV (bs S)), .int .i64 (rdE (bs S) : Nat)]))) := Lib.hid fun wx => Read_any S wx (by unfold maxLen; omega)
    have hhd : rdE (bs S) = 0 → (rdV (bs S)).may ∧ (rdV (bs S)).id < 65536 := fun h => ⟨(read_put h).1, (read_put h).2.1⟩
    have HRw := Lib.hid fun g (wx : World) hl => readRows_any S g (rdV (bs S)) wx hS hl
    have HStH := Lib.hid fun wx => store_hf (rdV (bs S)) wx
    have HLdH := Lib.hid fun (wx : World) => load_h (Lies.new wx 50 (cellsH (rdV (bs S))))
    have HBm := Lib.hid fun wx => build_mh (rdV (bs S)) wx
    have HSm := Lib.hid fun wx => store_mf (rdV (bs S)) none none none none 0 0 0 0 0 0 0 0 wx
    obtain ⟨h, hh⟩ : ∃ h, rdV (bs S) = h := ⟨_, rfl⟩
    rw [hh] at HRH hE0 hhd HRw HStH HLdH HBm HSm
    obtain ⟨Vh, hVh⟩ : ∃ V, hv h = V := ⟨_, rfl⟩
    obtain ⟨Ch, hCh⟩ : ∃ V, cellsH h = V := ⟨_, rfl⟩
    obtain ⟨V1, hV1⟩ : ∃ V, msgV h nilS nilS nilS nilS = V := ⟨_, rfl⟩
    obtain ⟨C1, hC1⟩ : ∃ V, cellsM h nilS nilS nilS nilS = V := ⟨_, rfl⟩
    rw [hVh] at HRH HStH HLdH HBm
    rw [hCh] at HStH HLdH
    rw [hV1] at HBm
    have HSm' : Hid (∀ wx : World, (Instr.storeAt 54 (pp wx.heap.size) V1).run Tryz.prog (wx.alloc (.cells zeroM 54)) = .ok () (wx.alloc (.cells C1 54))) := Lib.hid fun wx => by rw [← hV1, ← hC1]; exact HSm.out wx
    have HLm : Hid (∀ wx : World, Lies (wx.alloc (.cells C1 54)) wx.heap.size 54 (cellsM h nilS nilS nilS nilS)) := Lib.hid fun wx => by rw [hC1]; exact Lies.new _ _ _
    have HH := Lib.hid hh
    obtain ⟨er, her⟩ : ∃ e, rdE (bs S) = e := ⟨_, rfl⟩
    rw [her] at HRH hE0 hhd
    have HBW : Hid (∀ wx, Below W.heap.size W wx → Below w.heap.size w wx) := Lib.hid fun wx hb => HB0.out.trans (hb.mono HB0.out.size)
    clear hh hVh hCh hV1 hC1 her HSm hbig
    by_cases he : er = 0
    · subst he
      obtain ⟨hmay, hidd⟩ := hhd rfl
      have hne : ((((0 : Nat) : Nat) : Int) != 0) = false := rfl
      have HMay := Lib.hid hmay
      have HIdd := Lib.hid hidd
      have hE1 : rdErr (bs S) = if (rdS (bs S) h 3).1 ≠ 0 then (rdS (bs S) h 3).1 else if (rdS (bs S) h 3).2 < S.size then 4 else 0 := by rw [hE0, if_neg (fun h => h rfl), hlen]
      obtain ⟨s, hs⟩ : ∃ s, rdS (bs S) h 3 = s := ⟨_, rfl⟩
      obtain ⟨er, k⟩ := s
      rw [hs] at hE1
      have HS := Lib.hid hs
      have HE1 := Lib.hid hE1
      clear hE0 hhd hmay hidd hs hE1 hlen
      go_enter Tryz.func20, Tryz.ntmps20
      go_wp2_with (first | (refine wpList_alloc1 rfl 54 rfl _ HAl.out ?_) | fail)
      go_wp2_with fail
      refine (HRH.out _).mono ?_
      rintro e w1 ⟨rfl, hb1⟩
      have HB1 := Lib.hid hb1
      obtain ⟨w2, hw2⟩ : ∃ w2, w1.alloc (.cells Ch 50) = w2 := ⟨_, rfl⟩
      have HB2 : Hid (Below W.heap.size W w2) := Lib.hid (by rw [← hw2]; exact hb1.trans (((Below.refl _ w1).alloc (Nat.le_refl _) (.cells Ch 50)).mono hb1.size))
      have HStH' := HStH.out w1
      have HLdH' := HLdH.out w1
      rw [hw2] at HStH' HLdH'
      have HStH2 := Lib.hid HStH'
      have HLdH2 := Lib.hid HLdH'
      obtain ⟨w3, hw3⟩ : ∃ w3, w2.alloc (.cells C1 54) = w3 := ⟨_, rfl⟩
      have HB3 : Hid (Below W.heap.size W w3) := Lib.hid (by rw [← hw3]; exact HB2.out.trans (((Below.refl _ w2).alloc (Nat.le_refl _) (.cells C1 54)).mono HB2.out.size))
      have HSm2' := HSm'.out w2
      have HLm2' := HLm.out w2
      rw [hw3] at HSm2' HLm2'
      have HSm2 := Lib.hid HSm2'
      have HLm2 := Lib.hid HLm2'
      have HRows := Lib.hid (HRw.out _ _ HLm2.out HMay.out)
      have HgW : Hid (w.heap.size < w2.heap.size ∧ W.heap.size ≤ w2.heap.size) := Lib.hid ⟨Nat.lt_of_lt_of_le HL0.out.lt HB2.out.size, HB2.out.size⟩
      clear hw2 hw3 HStH' HLdH' HSm2' HLm2' hb1
      go_wp2_with (first | (refine wpList_alloc1 rfl 50 rfl _ (alloc_h _) ?_) | (refine wpList_store1 rfl 50 (.tmp 4) (.tmp 15) rfl _ Vh rfl rfl HStH2.out ?_) | (refine wpList_load1 rfl 50 (.tmp 4) rfl _ Vh rfl HLdH2.out ?_) | (refine wpList_bld1 rfl 54 0 (.tmp 21) rfl Vh V1 rfl (HBm.out _) ?_) | (refine wpList_alloc1 rfl 54 rfl _ (alloc_m _) ?_) | (refine wpList_store1 rfl 54 (.tmp 6) (.tmp 22) rfl _ V1 rfl rfl HSm2.out ?_))
      refine HRows.out.mono ?_
      rintro e w4 ⟨rfl, hg4, vq, Q, r, X, hj, hjo⟩
      rw [HS.out]
      have HB4 : Hid (Below W.heap.size W w4) := Lib.hid (HB3.out.grown hg4 HB3.out.size fun k hk => by injection hk with hk; have := HgW.out.2; omega)
      have HJ := Lib.hid hj
      have HJo := Lib.hid hjo
      clear hg4 hj hjo
      by_cases he1 : er = 0
      · subst he1
        by_cases hk : k < S.size
        · have hkd : decide (k < S.size) = true := by simpa using hk
          have hkd2 : decide ((k : Int) < (S.size : Int)) = true := by simpa using hk
          have HE : Hid (rdErr (bs S) = 4) := Lib.hid (by rw [HE1.out, if_neg (fun h => h rfl), if_pos hk])
          obtain ⟨w9, hst, hl9, hg9⟩ := HSz'.out _ HB4.out
          have HSt := Lib.hid hst
          have HL9 := Lib.hid hl9
          have HB9 := Lib.hid (HGr.out _ _ (HBW.out _ HB4.out) hg9)
          clear hst hl9 hg9 hk
          go_wp2_with (first | (refine wpList_bld0 rfl 54 rfl V0 (HZ.out _) ?_) | (refine wpList_store1 rfl 54 (.tmp 2) (.tmp 36) rfl _ V0 rfl rfl HSt.out ?_))
          refine bodyPost_ret (ret_m2 rfl _ _ w.heap.size noH nilS nilS nilS nilS rfl HL9.out) rfl ?_
          exact readM_no (e := 4) HE.out (by decide) HB9.out
        · have hkd : decide (k < S.size) = false := by simpa using hk
          have hkd2 : decide ((k : Int) < (S.size : Int)) = false := by simpa using hk
          have HE : Hid (rdErr (bs S) = 0) := Lib.hid (by rw [HE1.out, if_neg (fun h => h rfl), if_neg hk])
          obtain ⟨hQ, hX⟩ := HJo.out (by rw [HS.out])
          have HQ := Lib.hid hQ
          have HX := Lib.hid hX
          obtain ⟨bq, hbq, hoq⟩ := HJ.out.q
          obtain ⟨b0, hb0, ho0, hl0⟩ := HJ.out.rows 0 (by decide)
          obtain ⟨b1, hb1, ho1, hl1⟩ := HJ.out.rows 1 (by decide)
          obtain ⟨b2, hb2, ho2, hl2⟩ := HJ.out.rows 2 (by decide)
          have hlj := HJ.out.lies
          obtain ⟨Aq, cq, evq, _, _⟩ := hoq.shape
          obtain ⟨Aa, ca, ev0, _, _⟩ := ho0.own.shape
          obtain ⟨Au, cu, ev1, _, _⟩ := ho1.own.shape
          obtain ⟨Am, cm, ev2, _, _⟩ := ho2.own.shape
          rw [evq, ev0, ev1, ev2] at hlj
          rw [evq] at hoq
          rw [ev0] at ho0
          rw [ev1] at ho1
          rw [ev2] at ho2
          obtain ⟨w9, hst, hl9, hg9⟩ := store_any (HL0.out.next HB4.out) h Aq Aa Au Am Q.length (X 0).length (X 1).length (X 2).length cq ca cu cm
          have hld := load_ml hlj
          have hgw := HgW.out.1
          have hfit : FitM w9 ⟨h, Q, X 0, X 1, X 2⟩ (.slice Aq Q.length cq) (.slice Aa (X 0).length ca) (.slice Au (X 1).length cu) (.slice Am (X 2).length cm) := by
            refine ⟨may_fits HMay.out HIdd.out, (hoq.off hg9 (by omega)).crow csQ_len, ((ho0.off hl0 hg9 (by omega)).own).crow csR_len, ((ho1.off hl1 hg9 (by omega)).own).crow csR_len, ((ho2.off hl2 hg9 (by omega)).own).crow csR_len, fun x hx => ?_, fun x hx => ?_, ho0.own.nilOk, ho1.own.nilOk, ho2.own.nilOk⟩
            · have hx' : x ∈ Q := hx
              rw [HQ.out] at hx'
              obtain ⟨a, rfl⟩ := rdRow_mem hx'
              exact Nat.le_trans (rdQ_fit _ _) (by unfold maxLen; decide)
            · rcases mem_recs.1 hx with hx | hx | hx
              · exact (ho0.off hl0 hg9 (by omega)).fit x hx
              · exact (ho1.off hl1 hg9 (by omega)).fit x hx
              · exact (ho2.off hl2 hg9 (by omega)).fit x hx
          obtain ⟨V9, hV9⟩ : ∃ V, msgV h (.slice Aq Q.length cq) (.slice Aa (X 0).length ca) (.slice Au (X 1).length cu) (.slice Am (X 2).length cm) = V := ⟨_, rfl⟩
          rw [hV9] at hld hst
          have HSt := Lib.hid hst
          have HLd := Lib.hid hld
          have HL9 := Lib.hid hl9
          have HFit := Lib.hid hfit
          have HB9 := Lib.hid (HGr.out _ _ (HBW.out _ HB4.out) hg9)
          have HV9 := Lib.hid hV9
          clear hst hld hl9 hfit hg9 hV9 hk hQ hX hbq hoq hb0 ho0 hl0 hb1 ho1 hl1 hb2 ho2 hl2 hlj evq ev0 ev1 ev2 hgw
          go_wp2_with (first | (refine wpList_load1 rfl 54 (.tmp 6) rfl _ V9 rfl HLd.out ?_) | (refine wpList_store1 rfl 54 (.tmp 2) (.tmp 37) rfl _ V9 rfl rfl HSt.out ?_))
          refine bodyPost_ret (ret_m2 rfl _ _ w.heap.size h _ _ _ _ rfl HL9.out) rfl ?_
          exact ⟨⟨h, Q, X 0, X 1, X 2⟩, _, _, _, _, by rw [HE.out]; rfl, HB9.out, HFit.out, fun h0 => absurd HE.out h0, fun _ => ⟨HH.out.symm, by rw [HH.out]; exact HQ.out, by rw [HH.out]; exact HX.out 0 (by decide), by rw [HH.out]; exact HX.out 1 (by decide), by rw [HH.out]; exact HX.out 2 (by decide)⟩⟩
      · have hne1 : (((er : Nat) : Int) != 0) = true := by simpa using he1
        have HE : Hid (rdErr (bs S) = er) := Lib.hid (by rw [HE1.out, if_pos he1])
        obtain ⟨w9, hst, hl9, hg9⟩ := HSz'.out _ HB4.out
        have HSt := Lib.hid hst
        have HL9 := Lib.hid hl9
        have HB9 := Lib.hid (HGr.out _ _ (HBW.out _ HB4.out) hg9)
        clear hst hl9 hg9
        go_wp2_with (first | (refine wpList_bld0 rfl 54 rfl V0 (HZ.out _) ?_) | (refine wpList_store1 rfl 54 (.tmp 2) (.tmp 30) rfl _ V0 rfl rfl HSt.out ?_))
        refine bodyPost_ret (ret_m2 rfl _ _ w.heap.size noH nilS nilS nilS nilS rfl HL9.out) rfl ?_
        exact readM_no HE.out he1 HB9.out
    · have hne : (((er : Nat) : Int) != 0) = true := by simpa using he
      have HE : Hid (rdErr (bs S) = er) := Lib.hid (by rw [hE0, if_pos he])
      clear hE0 hhd
      go_enter Tryz.func20, Tryz.ntmps20
      go_wp2_with (first | (refine wpList_alloc1 rfl 54 rfl _ HAl.out ?_) | fail)
      go_wp2_with fail
      refine (HRH.out _).mono ?_
      rintro e w1 ⟨rfl, hb1⟩
      have HB2 := Lib.hid (hb1.trans (((Below.refl _ w1).alloc (Nat.le_refl _) (.cells Ch 50)).mono hb1.size))
      obtain ⟨w9, hst, hl9, hg9⟩ := HSz'.out _ HB2.out
      have HSt := Lib.hid hst
      have HL9 := Lib.hid hl9
      have HB9 := Lib.hid (HGr.out _ _ (HBW.out _ HB2.out) hg9)
      clear hst hl9 hg9 hb1
      go_wp2_with (first | (refine wpList_alloc1 rfl 50 rfl _ (alloc_h _) ?_) | (refine wpList_store1 rfl 50 (.tmp 4) (.tmp 15) rfl _ Vh rfl rfl (HStH.out _) ?_) | (refine wpList_bld0 rfl 54 rfl V0 (HZ.out _) ?_) | (refine wpList_store1 rfl 54 (.tmp 2) (.tmp 19) rfl _ V0 rfl rfl HSt.out ?_))
      refine bodyPost_ret (ret_m2 rfl _ _ w.heap.size noH nilS nilS nilS nilS rfl HL9.out) rfl ?_
      exact readM_no HE.out he HB9.out
end Go.Proofs.YtadeflehdfmilaaGreat
