/-
  The walk of the law MessageNamesStand. Condition: Go can have the message, its rows are no longer than memory.
-/
import Derived.Test.YtdpgcgaalamgkaaGreatZk44
import Derived.Test.YtdpgcgaalamgkaaGreatZk51
import Derived.Test.YtdpgcgaalamgkaaGreatZk42
import Derived.Test.YtdpgcgaalamgkaaGreatZk52
namespace Go.Proofs.YtdpgcgaalamgkaaGreat
open Go.RowKit Go.Maps
set_option linter.unusedVariables false
set_option maxRecDepth 100000

theorem wpList_load1g {ops : Array Oper} {rest : List Oper} {o : Oper} {a : Act} {w : World} {Q : Exit → Act → World → Prop} (hw : Region.wanted o (yielded ops a.tmps) = true) (t : TypeId) (x : Operand) (ho : o.op = .load t x) (p V : Value) (hx : a.eval x = p) (hb : (Instr.loadAt t p).run Tryz.prog w = .ok V w)
    (h : wpList Tryz.prog ops Q rest (a.put o.dst V) w) : wpList Tryz.prog ops Q (o :: rest) a w := by
  refine BigFrame.wpList_want hw fun K hK => ?_
  unfold Oper.wp execOp
  simp only [ho, hx, Sem.run_bind, Sem.run_pure, hb, Result.andThen_ok]
  exact hK _ _ h
theorem rdQ_name {T : List UInt8} {a n : Nat} {q : MQ} (h : rdQ T (a : Nat) = ⟨0, n, q⟩) : (readU T a a).f = 0 ∧ (readU T a a).e + 4 = n ∧ n ≤ T.length ∧ (⟨(readU T a a).l.toArray⟩ : ByteArray) = q.n := by
  have hr : ∀ j : Nat, numR T j 2 = if (T.length : Int) - j < 2 then ⟨[], 8, j⟩ else ⟨(T.drop j).take 2, 0, j + 2⟩ := fun j => by
    unfold numR takR
    rw [if_neg (by decide), if_neg (by decide)]
    rfl
  unfold rdQ at h
  by_cases h1 : (seekR T 0 (a : Nat)).1 = 0
  · rw [if_neg (fun k => k h1)] at h
    have hs : seekR T 0 ((a : Nat) : Int) = (0, a) := by
      unfold seekR at h1 ⊢
      split
      · rename_i h2; rw [if_pos h2] at h1; cases h1
      · simp
    rw [hs] at h
    by_cases h2 : (rdNm T a).e = 0
    · rw [if_neg (fun k => k h2)] at h
      by_cases hf : (readU T a a).f = 0
      · by_cases h3 : (seekR T a ((readU T a a).e : Nat)).1 = 0
        · have hn : rdNm T a = ⟨(readU T a a).l, 0, (readU T a a).e⟩ := by
            unfold rdNm
            rw [if_neg (fun k => k hf), if_neg (fun k => k h3)]
          rw [hn] at h
          simp only [hr] at h
          by_cases h4 : (T.length : Int) - ((readU T a a).e : Nat) < 2
          · rw [if_pos h4] at h
            simp at h
          · rw [if_neg h4] at h
            simp only [not_true_eq_false, if_false, ne_eq] at h
            by_cases h5 : (T.length : Int) - (((readU T a a).e + 2 : Nat) : Int) < 2
            · rw [if_pos h5] at h
              simp at h
            · rw [if_neg h5] at h
              simp only [not_true_eq_false, if_false, RQ.mk.injEq, true_and] at h
              obtain ⟨e1, e2⟩ := h
              refine ⟨hf, by omega, by omega, ?_⟩
              rw [← e2]
              rfl
        · exact absurd h2 (by unfold rdNm; rw [if_neg (fun k => k hf), if_pos h3]; exact h3)
      · exact absurd h2 (by unfold rdNm; rw [if_pos hf]; exact hf)
    · rw [if_pos h2] at h
      injection h with e _ _
      exact absurd e h2
  · rw [if_pos h1] at h
    injection h with e _ _
    exact absurd e h1
theorem min65 : ((min (65535 : Int) 65535).toNat) = 65535 := by decide
/-- A message that the law goes through, put. -/
theorem light_of {m : MM} {w : World} {vq va vu vm : Value} (hf : FitM w m vq va vu vm) (ok : OkM m) (hl : m.q.length + m.recs.length ≤ 24 ∧ ∀ x ∈ m.recs, checkR x.1 = 0 → octD x.1.d + sizeT x.1.d.L ≤ 2000) : LightM m :=
  ⟨hl.1, fun x hx => ⟨⟨(hf.rs x hx).d.hi, (hf.rs x hx).d.lo⟩, (hf.rs x hx).x, hl.2 x hx (ok.r x hx)⟩⟩
def NsR (W : World) (n : Nat) (E : List Nat) (va vi : Value) (wr : World) : Prop := ∃ k : Nat, va = .int .i64 (stC 12 E k : Nat) ∧ vi = .int .i64 k ∧ k ≤ n ∧ Below W.heap.size W wr
set_option maxHeartbeats 4000000 in
theorem MessageNamesStand_walk (m : MM) (vq va vu vm : Value) (w : World) (hf : FitM w m vq va vu vm) (hs : ShortM m) :
    Calls Tryz.prog 9 #[msgV m.h vq va vu vm] w fun e w' => e = .returned (.bool true) ∧ Below w.heap.size w w' := by
  have HLt := Lib.hid fun wx (hb : Below w.heap.size w wx) => lightM_any m vq va vu vm wx (hf.next hb) hs
  have HCk := Lib.hid fun wx (hb : Below w.heap.size w wx) => mCheck_any m vq va vu vm wx (hf.next hb)
  have HPt := Lib.hid fun wx (hb : Below w.heap.size w wx) => mPut_any m vq va vu vm 65535 wx (hf.next hb) (by decide)
  have HRc := Lib.hid fun wx (hb : Below w.heap.size w wx) h => records_any m vq va vu vm wx (hf.next hb) h
  have HLv := Lib.hid fun wx => lives11 wx
  simp only [min65] at HPt
  obtain ⟨Aq, cq, Aa, ca, Au, cu, Am, cm, rfl, rfl, rfl, rfl, _⟩ := hf.shapes
  obtain ⟨C, hC⟩ : ∃ C, cellsM m.h (.slice Aq m.q.length cq) (.slice Aa m.a.length ca) (.slice Au m.u.length cu) (.slice Am m.m.length cm) = C := ⟨_, rfl⟩
  obtain ⟨V, hV⟩ : ∃ V, msgV m.h (.slice Aq m.q.length cq) (.slice Aa m.a.length ca) (.slice Au m.u.length cu) (.slice Am m.m.length cm) = V := ⟨_, rfl⟩
  have hbx := box_m m.h Aq Aa Au Am m.q.length m.a.length m.u.length m.m.length cq ca cu cm w
  obtain ⟨W, hW⟩ : ∃ W, W = w.alloc (.cells C 54) := ⟨_, rfl⟩
  rw [hC, hV, ← hW] at hbx
  rw [hV] at HLt HCk HPt HRc ⊢
  have hB0 : Below w.heap.size w W := by rw [hW]; exact (Below.refl _ _).alloc (Nat.le_refl _) _
  have hL0 : Lies W w.heap.size 54 C := by rw [hW]; exact Lies.new _ _ _
  have HL : Hid (∀ wx, Below W.heap.size W wx → wx.cell? ⟨w.heap.size, 14, none⟩ = some (.slice Aq m.q.length cq)) := Lib.hid fun wx hb => by
    have l := hL0.next hb
    rw [← hC] at l
    exact l.cell 14
  have HLd : Hid (∀ wx, Below W.heap.size W wx → (Instr.loadAt 54 (pp w.heap.size)).run Tryz.prog wx = .ok V wx) := Lib.hid fun wx hb => by
    rw [← hV]
    refine load_ml ?_
    rw [hC]
    exact hL0.next hb
  have HBx := Lib.hid hbx
  have HB0 := Lib.hid hB0
  have HF := Lib.hid hf
  have HEnt : Hid (∀ wx, Below W.heap.size W wx → Below w.heap.size w wx) := Lib.hid fun wx hb => HB0.out.trans (hb.mono HB0.out.size)
  clear hbx hB0 hL0 hC hV hW hf hs
  obtain ⟨ck, hck⟩ : ∃ c, checkM m = c := ⟨_, rfl⟩
  rw [hck] at HCk
  have HCK := Lib.hid hck
  clear hck
  go_enter Tryz.func9, Tryz.ntmps9
  go_wp2_with (first | (refine wpList_box1 rfl 54 (.tmp 0) rfl V _ rfl HBx.out ?_) | (go_at_call 20; (with_reducible refine (HLv.out _).mono ?_); rintro e w1 ⟨rfl, hb1⟩; have HB1 := Lib.hid hb1; clear hb1) | (refine wpList_load1 rfl 54 (.tmp 1) rfl (pp w.heap.size) V rfl (HLd.out _ HB1.out) ?_) | fail)
  refine (HLt.out _ (HEnt.out _ HB1.out)).mono ?_
  rintro e w2 ⟨c, rfl, hc, hb2⟩
  have HC := Lib.hid hc
  have HB2 := Lib.hid (HB1.out.trans (hb2.mono HB1.out.size))
  clear hc hb2
  cases c
  · as_aux_lemma =>
      go_wp2
      go_ret
      exact ⟨rfl, HEnt.out _ HB2.out⟩
  · go_wp2_with (first | (refine wpList_load1g (by rfl) 54 (.tmp 1) rfl (pp w.heap.size) V rfl (HLd.out _ HB2.out) ?_) | fail)
    refine (HCk.out _ (HEnt.out _ HB2.out)).mono ?_
    rintro e w3 ⟨rfl, hb3⟩
    have HB3 := Lib.hid (HB2.out.trans (hb3.mono HB2.out.size))
    clear hb3
    by_cases hz : ck = 0
    · subst hz
      have hne : ((((0 : Nat) : Nat) : Int) != 0) = false := rfl
      have hok := checkM_zero.1 HCK.out
      obtain ⟨_, hback⟩ := msg_back hok (light_of HF.out hok (HC.out trivial)) HF.out.h.id
      have hpt := HPt.out _ (HEnt.out _ HB3.out)
      have hE : putErr 65535 m = 0 := by unfold putErr; rw [if_pos HCK.out]; exact hback.f
      have hT : putTx 65535 m = (putMs 65535 m).2.l := by unfold putTx putT; rw [if_pos HCK.out, if_pos hback.f]
      unfold PutW at hpt
      rw [hE, hT] at hpt
      obtain ⟨l, hl⟩ : ∃ l, (putMs 65535 m).2.l = l := ⟨_, rfl⟩
      obtain ⟨EQ, e0, EA, e1, EU, e2, EM, hq, ha, hu, hm⟩ := hback.ch
      have hfew := hback.few
      rw [hl] at hpt hq ha hu hm hfew
      obtain ⟨S, hS⟩ : ∃ S : ByteArray, (⟨l.toArray⟩ : ByteArray) = S := ⟨_, rfl⟩
      have hSb : bs S = l := by rw [← hS, bs_mk]
      have hSz : S.size = l.length := by rw [← bs_length, hSb]
      rw [hS] at hpt
      have HPut := Lib.hid hpt
      have hSf : S.size ≤ 60000 := by omega
      have HSb := Lib.hid hSb
      have HQ := Lib.hid hq
      have HNm := Lib.hid fun (a : Nat) wx => refName_any S a wx (by omega)
      have HEnd : Hid (m.recs.length = 0 → stC 12 EQ m.q.length = S.size) := Lib.hid fun h0 => by
        have hr := recs_len m
        have a0 : m.a = [] := List.eq_nil_of_length_eq_zero (by omega)
        have u0 : m.u = [] := List.eq_nil_of_length_eq_zero (by omega)
        have m0 : m.m = [] := List.eq_nil_of_length_eq_zero (by omega)
        rw [a0] at ha
        rw [u0] at hu
        rw [m0] at hm
        have k1 : e0 = e1 := by cases EA with | nil => exact ha | cons _ _ => cases ha
        have k2 : e1 = e2 := by cases EU with | nil => exact hu | cons _ _ => cases hu
        have k3 : e2 = l.length := by cases EM with | nil => exact hm | cons _ _ => cases hm
        rw [hq.end_, hSz]
        omega
      have HR24 : Hid (m.q.length + m.recs.length ≤ 24) := Lib.hid (HC.out trivial).1
      have HST0 : Hid (NsR W m.q.length EQ (.int .i64 12) (.int .i64 0) W) := Lib.hid ⟨0, rfl, rfl, Nat.zero_le _, Below.refl _ _⟩
      have HSz := Lib.hid hSz
      clear hpt hE hT hl hq ha hu hm hfew hS hSb hback hok hSz
      go_wp2_with (first | (refine wpList_load1 rfl 54 (.tmp 1) rfl (pp w.heap.size) V rfl (HLd.out _ HB3.out) ?_) | (go_at_call 21; (with_reducible refine HPut.out.mono ?_); rintro e w4 ⟨rfl, _, hb4⟩; have HB4 := Lib.hid (HB3.out.trans (hb4.mono HB3.out.size)); clear hb4))
      have HST : Hid (NsR W m.q.length EQ (.int .i64 12) (.int .i64 0) w4) := Lib.hid ⟨0, rfl, rfl, Nat.zero_le _, HB4.out⟩
      have hq24 : m.q.length ≤ 24 := by have := HR24.out; omega
      clear hne HST0
      go_loopw [5, 6] (fun va vi wr => NsR W m.q.length EQ va vi wr) (fun _ vi _ => m.q.length - (intOf vi).toNat)
      case atStart => exact HST.out
      case round =>
        clear HST
        obtain ⟨k, rfl, rfl, hk, hb⟩ := hrel
        have HB := Lib.hid hb
        have y14 := HL.out _ hb
        clear hb
        rcases Nat.lt_or_ge k m.q.length with hlt | hge
        · as_aux_lemma =>
            obtain ⟨gq, oq, rfl, hc⟩ := HF.out.q.q_at k hlt
            have c0 := (hc _ (HEnt.out _ HB.out)).1
            have hkE : k < EQ.length := by rw [HQ.out.len]; exact hlt
            have hat := HQ.out.at k hlt hkE []
            rw [List.append_nil] at hat
            obtain ⟨n1, n2, n3, n4⟩ := rdQ_name hat
            have hnx := stC_succ (a := 12) hkE
            have hnm := HNm.out (stC 12 EQ k) wr
            rw [HSb.out, n1, n4] at hnm
            obtain ⟨x, hx⟩ : ∃ x, x = m.q[k].n := ⟨_, rfl⟩
            rw [← hx] at c0 hnm
            obtain ⟨e, he⟩ : ∃ e, (readU l (stC 12 EQ k) (stC 12 EQ k)).e = e := ⟨_, rfl⟩
            rw [he] at hnm n2
            have HNx : Hid (stC 12 EQ (k + 1) = e + 4) := Lib.hid (by rw [hnx, n2])
            have hend : ¬ ((S.size : Int) - 4 < (e : Int)) := by have := HSz.out; omega
            have hend2 : decide ((S.size : Int) - 4 < (e : Int)) = false := by simpa using hend
            have he4 : e ≤ 60000 := by have := HSz.out; omega
            have hne0 : ((0 : Int) != 0) = false := rfl
            have HNM := Lib.hid hnm
            obtain ⟨a, ha⟩ : ∃ a, stC 12 EQ k = a := ⟨_, rfl⟩
            rw [ha] at HNM ⊢
            clear hc hx hat n1 n2 n3 n4 hnx hnm he hend ha
            go_wp2_with fail
            refine HNM.out.mono ?_
            rintro e5 w5 ⟨rfl, rfl⟩
            go_wp2
            go_roundw
            case rel => exact ⟨k + 1, by rw [HNx.out]; go_num, by go_num, hlt, HB.out⟩
            case measure => simp [intOf]; omega
        · obtain rfl : k = m.q.length := by omega
          have HRc' := Lib.hid (HRc.out _ (HEnt.out _ HB.out) (by have := HR24.out; omega))
          obtain ⟨at_, hat_⟩ : ∃ a, stC 12 EQ m.q.length = a := ⟨_, rfl⟩
          have HAt := Lib.hid hat_
          rw [hat_]
          clear hge hk hat_
          by_cases h0 : m.recs.length = 0
          · have hd : decide (0 < m.recs.length) = false := by simp [h0]
            have hd1 : decide ((0 : Int) < (m.recs.length : Int)) = false := by simp [h0]
            have hd2 : ((at_ : Int) == (S.size : Int)) = true := by rw [← HAt.out, HEnd.out h0]; simp
            go_wp2_with (first | (refine wpList_load1 rfl 54 (.tmp 1) rfl (pp w.heap.size) V rfl (HLd.out _ HB.out) ?_) | (go_at_call 39; (with_reducible refine HRc'.out.mono ?_); rintro e w6 ⟨v6, rfl, hr6, hb6⟩; obtain ⟨A6, c6, rfl, _, _⟩ := hr6.own.shape; have HB6 := Lib.hid (HB.out.trans (hb6.mono HB.out.size)); clear hr6 hb6))
            go_ret
            exact ⟨rfl, HEnt.out _ HB6.out⟩
          · have hd : decide (0 < m.recs.length) = true := by simp; omega
            have hd1 : decide ((0 : Int) < (m.recs.length : Int)) = true := by simp; omega
            go_wp2_with (first | (refine wpList_load1 rfl 54 (.tmp 1) rfl (pp w.heap.size) V rfl (HLd.out _ HB.out) ?_) | (go_at_call 39; (with_reducible refine HRc'.out.mono ?_); rintro e w6 ⟨v6, rfl, hr6, hb6⟩; obtain ⟨A6, c6, rfl, _, _⟩ := hr6.own.shape; have HB6 := Lib.hid (HB.out.trans (hb6.mono HB.out.size)); clear hr6 hb6))
            go_ret
            exact ⟨rfl, HEnt.out _ HB6.out⟩
    · as_aux_lemma =>
        have hne : (((ck : Nat) : Int) != 0) = true := by simpa using hz
        go_wp2
        go_ret
        exact ⟨rfl, HEnt.out _ HB3.out⟩
end Go.Proofs.YtdpgcgaalamgkaaGreat
