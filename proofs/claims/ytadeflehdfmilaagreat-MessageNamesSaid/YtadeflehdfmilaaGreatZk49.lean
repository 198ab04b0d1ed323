/-
  message.shortened: the walk. Condition: Go can have the message, its rows have at most 65535 records, no more are asked for than there are. message.Cut: the walk. Condition: Go can have the message. What the chapter's example comes to: concrete messages: plain mathematics. The steps of the law MessageNames: what each leaves. No condition.
-/
import Derived.Test.YtadeflehdfmilaaGreatZk48
import Derived.Test.YtadeflehdfmilaaGreatZk46
import Derived.Test.YtadeflehdfmilaaGreatZk45
import Derived.Test.YtadeflehdfmilaaGreatZk47
import Derived.Laws.MakeOwn
import Derived.Laws.OwnMore
import Derived.Laws.IdiomStrings
namespace Go.Proofs.YtadeflehdfmilaaGreat
open Go.RowKit Go.Maps
set_option linter.unusedVariables false
set_option maxRecDepth 100000

/-- What shortened leaves. -/
def ShW (w : World) (m : MM) (n : Nat) (vq : Value) (e : Ending) (w' : World) : Prop :=
  ∃ xa xu xm, e = .returned (msgV (shortM m n).h vq xa xu xm) ∧ Below w.heap.size w w' ∧ FitM w' (shortM m n) vq xa xu xm
theorem few3 {m : MM} (h : m.q.length ≤ 65535 ∧ ∀ j, j < 3 → (rowAt m j).length ≤ 65535) : aheadM m 0 = 0 ∧ aheadM m 1 ≤ 65535 ∧ aheadM m 2 ≤ 131070 ∧ aheadM m 3 ≤ 196605 ∧ m.recs.length = aheadM m 3 := by
  have a0 := h.2 0 (by decide); have a1 := h.2 1 (by decide); have a2 := h.2 2 (by decide)
  have e1 : aheadM m 1 = 0 + (rowAt m 0).length := rfl
  have e2 : aheadM m 2 = 0 + (rowAt m 0).length + (rowAt m 1).length := rfl
  have e3 : aheadM m 3 = 0 + (rowAt m 0).length + (rowAt m 1).length + (rowAt m 2).length := rfl
  refine ⟨rfl, by omega, by omega, by omega, ?_⟩
  rw [e3]
  unfold MM.recs
  rw [List.length_append, List.length_append]
  show m.a.length + m.u.length + m.m.length = 0 + m.a.length + m.u.length + m.m.length
  omega
set_option maxHeartbeats 4000000 in
theorem short_any (m : MM) (n : Nat) (vq va vu vm : Value) (w : World) (hf : FitM w m vq va vu vm) (few : m.q.length ≤ 65535 ∧ ∀ j, j < 3 → (rowAt m j).length ≤ 65535) (hn : n ≤ m.recs.length) :
    Calls Tryz.prog 58 #[msgV m.h vq va vu vm, .int .i64 (n : Nat)] w (ShW w m n vq) := by
  have hrw := @FitM.row w m
  obtain ⟨Aq, cq, Aa, ca, Au, cu, Am, cm, rfl, rfl, rfl, rfl, ⟨l1, l2, l3, l4⟩, k1, k2, k3, k4, kk1, kk2, kk3, kk4⟩ := hf.shapes
  have hnl := hf.nl
  obtain ⟨z1, z2, z3, z4, z5⟩ := few3 few
  obtain ⟨A, hA⟩ : ∃ A, pickN Aa Au Am = A := ⟨_, rfl⟩
  obtain ⟨c, hc⟩ : ∃ c, pickN ca cu cm = c := ⟨_, rfl⟩
  have hA0 : A 0 = Aa := by rw [← hA]; rfl
  have hA1 : A 1 = Au := by rw [← hA]; rfl
  have hA2 : A 2 = Am := by rw [← hA]; rfl
  have hc0 : c 0 = ca := by rw [← hc]; rfl
  have hc1 : c 1 = cu := by rw [← hc]; rfl
  have hc2 : c 2 = cm := by rw [← hc]; rfl
  have hAc : ∀ j, j < 3 → (rowAt m j).length ≤ c j ∧ (A j = none → c j = 0) := fun j hj => by
    obtain rfl | rfl | rfl : j = 0 ∨ j = 1 ∨ j = 2 := by omega
    · rw [hA0, hc0]; exact ⟨k2, fun e => hnl.1 _ _ (by rw [e])⟩
    · rw [hA1, hc1]; exact ⟨k3, fun e => hnl.2.1 _ _ (by rw [e])⟩
    · rw [hA2, hc2]; exact ⟨k4, fun e => hnl.2.2 _ _ (by rw [e])⟩
  have hk : ∀ j, keepM m n j ≤ (rowAt m j).length := fun j => Nat.min_le_right _ _
  have hfit : FitM w (shortM m n) (.slice Aq m.q.length cq) (.slice (A 0) (keepM m n 0) (c 0)) (.slice (A 1) (keepM m n 1) (c 1)) (.slice (A 2) (keepM m n 2) (c 2)) := by
    rw [hA0, hA1, hA2, hc0, hc1, hc2]
    refine ⟨?_, hf.q, hf.a.take _ (hk 0), hf.u.take _ (hk 1), hf.rm.take _ (hk 2), hf.qs, fun x hx => hf.rs x ?_, ?_⟩
    · have f0 := hf.h
      have q0 := few.1
      have w0 := few.2 0 (by decide); have w1 := few.2 1 (by decide); have w2 := few.2 2 (by decide)
      have v0 := hk 0; have v1 := hk 1; have v2 := hk 2
      exact ⟨f0.id, f0.op, f0.rc, ⟨by show _ ≤ (m.q.length : Int); omega, by show (m.q.length : Int) ≤ _; omega⟩, ⟨by show _ ≤ (keepM m n 0 : Int); omega, by show (keepM m n 0 : Int) ≤ _; omega⟩, ⟨by show _ ≤ (keepM m n 1 : Int); omega, by show (keepM m n 1 : Int) ≤ _; omega⟩, ⟨by show _ ≤ (keepM m n 2 : Int); omega, by show (keepM m n 2 : Int) ≤ _; omega⟩⟩
    · rcases mem_recs.1 hx with h | h | h
      · exact mem_recs.2 (.inl (List.mem_of_mem_take h))
      · exact mem_recs.2 (.inr (.inl (List.mem_of_mem_take h)))
      · exact mem_recs.2 (.inr (.inr (List.mem_of_mem_take h)))
    · refine ⟨fun a b e => ?_, fun a b e => ?_, fun a b e => ?_⟩
      · injection e with e1 e2 e3
        subst e1 e3
        exact hnl.1 _ _ rfl
      · injection e with e1 e2 e3
        subst e1 e3
        exact hnl.2.1 _ _ rfl
      · injection e with e1 e2 e3
        subst e1 e3
        exact hnl.2.2 _ _ rfl
  have hbx := box_m m.h Aq Aa Au Am m.q.length m.a.length m.u.length m.m.length cq ca cu cm w
  obtain ⟨W1, hW1⟩ : ∃ W, w.alloc (.cells (cellsM m.h (.slice Aq m.q.length cq) (.slice Aa m.a.length ca) (.slice Au m.u.length cu) (.slice Am m.m.length cm)) 54) = W := ⟨_, rfl⟩
  rw [hW1] at hbx
  have ha4 := alloc_m W1
  obtain ⟨W2, hW2⟩ : ∃ W, W1.alloc (.cells zeroM 54) = W := ⟨_, rfl⟩
  rw [hW2] at ha4
  have ha5 := alloc_m W2
  have hs5 := store_mf m.h Aq Aa Au Am m.q.length m.a.length m.u.length m.m.length cq ca cu cm W2
  obtain ⟨W3, hW3⟩ : ∃ W, W2.alloc (.cells (cellsM m.h (.slice Aq m.q.length cq) (.slice Aa m.a.length ca) (.slice Au m.u.length cu) (.slice Am m.m.length cm)) 54) = W := ⟨_, rfl⟩
  obtain ⟨W2', hW2'⟩ : ∃ W, W2.alloc (.cells zeroM 54) = W := ⟨_, rfl⟩
  rw [hW3, hW2'] at hs5
  rw [hW2'] at ha5
  have b1 : Below w.heap.size w W1 := by rw [← hW1]; exact (Below.refl _ _).alloc (Nat.le_refl _) _
  have s1 : w.heap.size < W1.heap.size := by rw [← hW1]; simp
  have s2 : W1.heap.size < W2.heap.size := by rw [← hW2]; simp
  have s3 : W2.heap.size < W3.heap.size := by rw [← hW3]; simp
  have b2 : Below w.heap.size w W2 := by rw [← hW2]; exact b1.alloc b1.size _
  have b3 : Below w.heap.size w W3 := by rw [← hW3]; exact b2.alloc b2.size _
  have y2 : Lies W1 w.heap.size 54 (cellsM m.h (.slice Aq m.q.length cq) (.slice Aa m.a.length ca) (.slice Au m.u.length cu) (.slice Am m.m.length cm)) := by rw [← hW1]; exact Lies.new _ _ _
  have hld2 := load_ml (g := w.heap.size) (show Lies W2 w.heap.size 54 (cellsM m.h (.slice Aq m.q.length cq) (.slice Aa m.a.length ca) (.slice Au m.u.length cu) (.slice Am m.m.length cm)) by rw [← hW2]; exact y2.alloc _)
  have y2' : Lies W3 w.heap.size 54 (cellsM m.h (.slice Aq m.q.length cq) (.slice Aa m.a.length ca) (.slice Au m.u.length cu) (.slice Am m.m.length cm)) := by rw [← hW3, ← hW2]; exact (y2.alloc _).alloc _
  have y4 : Lies W3 W1.heap.size 54 zeroM := by rw [← hW3, ← hW2]; exact (Lies.new _ _ _).alloc _
  have y5 : Lies W3 W2.heap.size 54 (cellsM m.h (.slice Aq m.q.length cq) (.slice Aa m.a.length ca) (.slice Au m.u.length cu) (.slice Am m.m.length cm)) := by rw [← hW3]; exact Lies.new _ _ _
  obtain ⟨g2, hg2⟩ : ∃ g, w.heap.size = g := ⟨_, rfl⟩
  obtain ⟨g4, hg4⟩ : ∃ g, W1.heap.size = g := ⟨_, rfl⟩
  obtain ⟨g5, hg5⟩ : ∃ g, W2.heap.size = g := ⟨_, rfl⟩
  rw [hg2] at hbx hld2 y2'
  rw [hg4] at ha4 y4
  rw [hg5] at ha5 hs5 y5
  have hq2 : w.heap.size ≤ g2 := by omega
  have h24 : g2 < g4 := by omega
  have h45 : g4 < g5 := by omega
  have h53 : g5 < W3.heap.size := by omega
  obtain ⟨W4, htc, yt5, hgr4⟩ := store_tc y5 true
  have yt4 := y4.grown hgr4 (fun e => by injection e; omega)
  have yt2 := y2'.grown hgr4 (fun e => by injection e; omega)
  have b4 : Below w.heap.size w W4 := b3.grown hgr4 b3.size (fun k e => by injection e; omega)
  have h54 : g5 < W4.heap.size := Nat.lt_of_lt_of_le h53 hgr4.size
  obtain ⟨V, hV⟩ : ∃ V, (msgV m.h (.slice Aq m.q.length cq) (.slice Aa m.a.length ca) (.slice Au m.u.length cu) (.slice Am m.m.length cm)) = V := ⟨_, rfl⟩
  rw [hV] at hbx hld2 hs5 ⊢
  have HBx := Lib.hid hbx
  have HA4 := Lib.hid ha4
  have HA5 := Lib.hid ha5
  have HS5 := Lib.hid hs5
  have HLd2 := Lib.hid hld2
  have HTc := Lib.hid htc
  have HY2 := Lib.hid yt2
  have HY4 := Lib.hid yt4
  have HY5 := Lib.hid yt5
  have HB4 := Lib.hid b4
  have H54 := Lib.hid h54
  have HFit := Lib.hid hfit
  have HRo := Lib.hid fun wx => rowsOf_any g5 wx
  have HNum := Lib.hid (show w.heap.size ≤ g5 ∧ g4 ≠ g5 ∧ w.heap.size ≤ g4 by omega)
  have HKp := Lib.hid hk
  have HAc := Lib.hid hAc
  have HFew := Lib.hid few
  have HAA := Lib.hid (And.intro hA0 (And.intro hA1 hA2))
  have HCC := Lib.hid (And.intro hc0 (And.intro hc1 hc2))
  obtain ⟨h1, hh1⟩ : ∃ h1 : Hd, { m.h with tc := true } = h1 := ⟨_, rfl⟩
  rw [hh1] at HY5
  have HH1 := Lib.hid hh1
  have hla : m.a.length ≤ 65535 := few.2 0 (by decide)
  have hlu : m.u.length ≤ 65535 := few.2 1 (by decide)
  have hlm : m.m.length ≤ 65535 := few.2 2 (by decide)
  have HZ := Lib.hid (And.intro hn (And.intro z2 (And.intro z3 (And.intro z4 z5))))
  have hn2 : n ≤ 196605 := by omega
  clear hrw hnl l1 l2 l3 l4 k1 k2 k3 k4 kk1 kk2 kk3 kk4 z1 z2 z3 z4 z5 hA hc hA0 hA1 hA2 hc0 hc1 hc2 hAc hfit hbx hW1 ha4 hW2 ha5 hs5 hW3 hW2' b1 b2 b3 s1 s2 s3 y2 hld2 y2' y4 y5 hg2 hg4 hg5 hq2 h24 h45 h53 htc yt5 hgr4 yt4 yt2 b4 h54 hV hk few hn hh1 hf
  go_enter Tryz.func58, Tryz.ntmps58
  go_wp2_with (first | (refine wpList_box1 rfl 54 (.tmp 0) rfl V _ rfl HBx.out ?_) | (refine wpList_alloc1 rfl 54 rfl _ HA4.out ?_) | (refine wpList_load1 rfl 54 (.tmp 2) rfl _ V rfl HLd2.out ?_) | (refine wpList_alloc1 rfl 54 rfl _ HA5.out ?_) | (refine wpList_store1 rfl 54 (.tmp 5) (.tmp 10) rfl _ V rfl rfl HS5.out ?_) | (refine wpList_store1 rfl 4 (.tmp 12) (.const (.bool true)) rfl _ _ rfl rfl HTc.out ?_) | fail)
  refine (HRo.out _).mono ?_
  rintro e w5 ⟨rfl, hb5⟩
  have r2 := HY2.out.next hb5
  have r4 := HY4.out.next hb5
  have r5 := HY5.out.next hb5
  have b5 := HB4.out.trans (hb5.mono HB4.out.size)
  have h55 : g5 < w5.heap.size := Nat.lt_of_lt_of_le H54.out hb5.size
  have hal := alloc_rows w5
  have hst := store_rows g5 w5
  have b6 := b5.alloc b5.size (.cells #[.pointer (some ⟨g5, 15, none⟩), .pointer (some ⟨g5, 16, none⟩), .pointer (some ⟨g5, 17, none⟩)] 115)
  have q6 := Lies.new w5 115 #[.pointer (some ⟨g5, 15, none⟩), .pointer (some ⟨g5, 16, none⟩), .pointer (some ⟨g5, 17, none⟩)]
  have q2 := r2.alloc (.cells #[.pointer (some ⟨g5, 15, none⟩), .pointer (some ⟨g5, 16, none⟩), .pointer (some ⟨g5, 17, none⟩)] 115)
  have q4 := r4.alloc (.cells #[.pointer (some ⟨g5, 15, none⟩), .pointer (some ⟨g5, 16, none⟩), .pointer (some ⟨g5, 17, none⟩)] 115)
  have q5 := r5.alloc (.cells #[.pointer (some ⟨g5, 15, none⟩), .pointer (some ⟨g5, 16, none⟩), .pointer (some ⟨g5, 17, none⟩)] 115)
  obtain ⟨w6, hw6⟩ : ∃ x, w5.alloc (.cells #[.pointer (some ⟨g5, 15, none⟩), .pointer (some ⟨g5, 16, none⟩), .pointer (some ⟨g5, 17, none⟩)] 115) = x := ⟨_, rfl⟩
  obtain ⟨w5', hw5'⟩ : ∃ x, w5.alloc (.cells #[.pointer none, .pointer none, .pointer none] 115) = x := ⟨_, rfl⟩
  obtain ⟨g6, hg6⟩ : ∃ x, w5.heap.size = x := ⟨_, rfl⟩
  rw [hw6] at hst b6 q6 q2 q4 q5
  rw [hw5'] at hal hst
  rw [hg6] at hal hst q6 h55
  have y15 := q2.cell 15
  have y16 := q2.cell 16
  have y17 := q2.cell 17
  have HAl := Lib.hid hal
  have HSt := Lib.hid hst
  have H56 := Lib.hid (show g6 ≠ g5 by omega)
  have HJ : Hid (ShJ w m h1 (.slice Aq m.q.length cq) A c n g4 g5 g6 3 w6) := Lib.hid ⟨by
    unfold rowsK
    rw [if_pos (by decide), if_pos (by decide), if_pos (by decide), HAA.out.1, HAA.out.2.1, HAA.out.2.2, HCC.out.1, HCC.out.2.1, HCC.out.2.2]
    exact q5, q6, q4, b6⟩
  have hto : (m.a.length : Int) + (m.u.length : Int) + (m.m.length : Int) - (n : Int) = ((aheadM m 3 - n : Nat) : Int) := by
    have e3 : aheadM m 3 = 0 + m.a.length + m.u.length + m.m.length := rfl
    have := HZ.out.1
    rw [HZ.out.2.2.2.2] at this
    omega
  have HTo := Lib.hid hto
  clear r2 r4 r5 b5 hb5 h55 hal hst b6 q6 q2 q4 q5 hw6 hw5' hg6 hto
  go_wp2_with (first | (refine wpList_alloc1 rfl 115 rfl _ HAl.out ?_) | (refine wpList_store1 rfl 115 (.tmp 6) (.tmp 13) rfl _ _ rfl rfl HSt.out ?_) | fail)
  have HST : Hid (ShR w m h1 (.slice Aq m.q.length cq) A c n g4 g5 g6 (.int .i64 ((m.a.length : Int) + (m.u.length : Int) + (m.m.length : Int) - (n : Int))) (.int .i64 2) w6) := Lib.hid ⟨3, rfl, by rw [HTo.out], by decide, HJ.out⟩
  clear y15 y16 y17
  go_loopw [7, 8] (fun vo vi wr => ShR w m h1 (.slice Aq m.q.length cq) A c n g4 g5 g6 vo vi wr) (fun _ vi _ => (intOf vi + 1).toNat)
  case atStart => exact HST.out
  case round =>
    clear HST
    obtain ⟨j, rfl, rfl, hj, hjj⟩ := hrel
    have HJj := Lib.hid hjj
    clear hjj
    cases j with
    | zero =>
      have e : (((0 : Nat) : Int) - 1) = -1 := rfl
      rw [e]
      have hl5 := HJj.out.l5
      have e0 : ∀ i, rowsK m A c n 0 i = .slice (A i) (keepM m n i) (c i) := fun i => by unfold rowsK; rw [if_neg (Nat.not_lt_zero i)]
      rw [e0, e0, e0] at hl5
      have hl4 := HJj.out.l4
      have hbl := HJj.out.bel
      have hld := load_ml hl5
      have hcn := countsOf_any h1 Aq (A 0) (A 1) (A 2) m.q.length (keepM m n 0) (keepM m n 1) (keepM m n 2) cq (c 0) (c 1) (c 2) wr
      obtain ⟨V5, hV5⟩ : ∃ V, msgV h1 (.slice Aq m.q.length cq) (.slice (A 0) (keepM m n 0) (c 0)) (.slice (A 1) (keepM m n 1) (c 1)) (.slice (A 2) (keepM m n 2) (c 2)) = V := ⟨_, rfl⟩
      rw [hV5] at hld hcn
      have HLd := Lib.hid hld
      have HCn := Lib.hid hcn
      have HL5 := Lib.hid hl5
      have HL4 := Lib.hid hl4
      have HBl := Lib.hid hbl
      obtain ⟨ov, hov⟩ : ∃ o, aheadM m 0 - n = o := ⟨_, rfl⟩
      rw [hov]
      clear hl5 e0 hl4 hbl hld hcn hV5 hov e hj
      go_wp2_with (first | (refine wpList_load1 rfl 54 (.tmp 5) rfl _ V5 rfl HLd.out ?_) | fail)
      refine HCn.out.mono ?_
      rintro e w7 ⟨rfl, hb7⟩
      obtain ⟨w8, hs8, hl8, hg8⟩ := store_cnt (HL5.out.next hb7) (m.q.length : Int) (keepM m n 0 : Int) (keepM m n 1 : Int) (keepM m n 2 : Int)
      have hl48 := (HL4.out.next hb7).grown hg8 (fun e => by injection e with e; exact HNum.out.2.1 e)
      have hb8 := ((HBl.out.trans (hb7.mono HBl.out.size))).grown hg8 (HBl.out.trans (hb7.mono HBl.out.size)).size (fun k e => by injection e with e; rw [← e]; exact HNum.out.1)
      have hld8 := load_ml hl8
      obtain ⟨w9, hs9, hl9, hg9⟩ := store_any (h0 := noH) (uq := nilS) (ua := nilS) (uu := nilS) (um := nilS) hl48 { h1 with n0 := (m.q.length : Int), n1 := (keepM m n 0 : Int), n2 := (keepM m n 1 : Int), n3 := (keepM m n 2 : Int) } Aq (A 0) (A 1) (A 2) m.q.length (keepM m n 0) (keepM m n 1) (keepM m n 2) cq (c 0) (c 1) (c 2)
      have hb9 := hb8.grown hg9 hb8.size (fun k e => by injection e with e; rw [← e]; exact HNum.out.2.2)
      obtain ⟨V8, hV8⟩ : ∃ V, msgV { h1 with n0 := (m.q.length : Int), n1 := (keepM m n 0 : Int), n2 := (keepM m n 1 : Int), n3 := (keepM m n 2 : Int) } (.slice Aq m.q.length cq) (.slice (A 0) (keepM m n 0) (c 0)) (.slice (A 1) (keepM m n 1) (c 1)) (.slice (A 2) (keepM m n 2) (c 2)) = V := ⟨_, rfl⟩
      rw [hV8] at hld8 hs9
      have HS8 := Lib.hid hs8
      have HLd8 := Lib.hid hld8
      have HS9 := Lib.hid hs9
      have HL9 := Lib.hid hl9
      have HB9 := Lib.hid hb9
      have HV8 := Lib.hid hV8
      clear hs8 hl8 hg8 hl48 hb8 hld8 hs9 hl9 hg9 hb9 hV8 hb7
      go_wp2_with (first | (refine wpList_store1 rfl 48 (.tmp 64) (.tmp 62) rfl _ _ rfl rfl HS8.out ?_) | (refine wpList_load1 rfl 54 (.tmp 5) rfl _ V8 rfl HLd8.out ?_) | (refine wpList_store1 rfl 54 (.tmp 4) (.tmp 65) rfl _ V8 rfl rfl HS9.out ?_) | fail)
      refine bodyPost_ret (v := V8) (by rw [← HV8.out]; exact ret_m1 (p := 4) rfl _ _ g4 _ _ _ _ _ rfl HL9.out) rfl ?_
      refine ⟨_, _, _, (by rw [← HV8.out, ← HH1.out]; rfl), HB9.out, HFit.out.next HB9.out⟩
    | succ k =>
      have hkk : k < 3 := by omega
      have e : (((k + 1 : Nat) : Int) - 1) = (k : Int) := by omega
      rw [e]
      have hix := rows_ix g6 k hkk
      have x3 := rows_at HJj.out.l6 hkk
      have hy := row_at HJj.out.l5 k hkk
      have hf5 := HJj.out.l5.free (15 + k)
      have hrk : rowsK m A c n (k + 1) k = .slice (A k) (rowAt m k).length (c k) := by unfold rowsK; rw [if_pos (by omega)]
      rw [hrk] at hy
      have hac := HAc.out k hkk
      have hkp := HKp.out k
      have hsl := fun wx => slice_row (A k) (rowAt m k).length (c k) (keepM m n k) (by omega) wx hac.2
      have hL := HFew.out.2 k hkk
      have hS : aheadM m (k + 1) = aheadM m k + (rowAt m k).length := rfl
      have hS3 : aheadM m (k + 1) ≤ 196605 := by
        have := HZ.out
        obtain rfl | rfl | rfl : k = 0 ∨ k = 1 ∨ k = 2 := by omega
        · show aheadM m 1 ≤ _; omega
        · show aheadM m 2 ≤ _; omega
        · show aheadM m 3 ≤ _; omega
      have hK : keepM m n k = min (n - aheadM m k) (rowAt m k).length := rfl
      have hset := HJj.out.set hkk HNum.out.2.1 H56.out HNum.out.1
      obtain ⟨kp, hkpe⟩ : ∃ x, keepM m n k = x := ⟨_, rfl⟩
      obtain ⟨L, hLe⟩ : ∃ x, (rowAt m k).length = x := ⟨_, rfl⟩
      obtain ⟨ov, hov⟩ : ∃ x, aheadM m (k + 1) - n = x := ⟨_, rfl⟩
      rw [hkpe] at hkp hsl hK hset
      rw [hLe] at hy hsl hL hS hK hac hkp
      rw [hov]
      have hmx : max ((L : Int) - (ov : Int)) 0 = (kp : Int) := by omega
      have hnx : (ov : Int) - ((L : Int) - (kp : Int)) = ((aheadM m k - n : Nat) : Int) := by omega
      have hovb : ov ≤ 196605 := by omega
      have hkb : kp ≤ 65535 := by omega
      obtain ⟨Ak, hAk⟩ : ∃ x, A k = x := ⟨_, rfl⟩
      obtain ⟨ck, hck⟩ : ∃ x, c k = x := ⟨_, rfl⟩
      rw [hAk, hck] at hy hsl hset
      have HSet := Lib.hid hset
      have HNx := Lib.hid hnx
      have hlk : (L : Int) ≤ 65535 := by omega
      clear hrk hac hS hS3 hK hset hnx hkpe hLe hov hAk hck e hj
      go_upto_region 10 with (fail)
      go_region
      all_goals
        go_wp2
        go_roundw
        case rel => exact ⟨k, by go_num, by rw [← HNx.out], by omega, HSet.out⟩
        case measure => simp [intOf] <;> omega
end Go.Proofs.YtadeflehdfmilaaGreat
namespace Go.Proofs.YtadeflehdfmilaaGreat
open Go.RowKit Go.Maps
set_option linter.unusedVariables false
set_option maxRecDepth 100000

theorem putRs_le (M : Nat) : ∀ (l : List RV) (s : PS), (putRs M l s).1 ≤ l.length
  | [], s => Nat.le_refl _
  | x :: l, s => by
    unfold putRs
    split
    · have := putRs_le M l (putR M x.1 s).2
      simp only [List.length_cons]
      omega
    · exact Nat.zero_le _
theorem putMs_le (M : Nat) (m : MM) : (putMs M m).1 ≤ m.recs.length := putRs_le M _ _
theorem ok_few {m : MM} (ok : OkM m) : m.q.length ≤ 65535 ∧ ∀ j, j < 3 → (rowAt m j).length ≤ 65535 := by
  have n0 := ok.may.n0; have n1 := ok.may.n1; have n2 := ok.may.n2; have n3 := ok.may.n3
  rw [ok.n0] at n0; rw [ok.n1] at n1; rw [ok.n2] at n2; rw [ok.n3] at n3
  refine ⟨by omega, fun j hj => ?_⟩
  obtain rfl | rfl | rfl : j = 0 ∨ j = 1 ∨ j = 2 := by omega
  · show m.a.length ≤ _; omega
  · show m.u.length ≤ _; omega
  · show m.m.length ≤ _; omega
theorem ok_short {m : MM} (ok : OkM m) (n : Nat) : OkM (shortM m n) := by
  obtain ⟨e0, e1⟩ := ok_few ok
  have w0 : m.a.length ≤ _ := e1 0 (by decide); have w1 : m.u.length ≤ _ := e1 1 (by decide); have w2 : m.m.length ≤ _ := e1 2 (by decide)
  have v0 : keepM m n 0 ≤ m.a.length := Nat.min_le_right _ _
  have v1 : keepM m n 1 ≤ m.u.length := Nat.min_le_right _ _
  have v2 : keepM m n 2 ≤ m.m.length := Nat.min_le_right _ _
  have f := ok.may
  refine ⟨⟨f.op, f.rc, ⟨by show 0 ≤ (m.q.length : Int); omega, by show (m.q.length : Int) ≤ _; omega⟩, ⟨by show 0 ≤ (keepM m n 0 : Int); omega, by show (keepM m n 0 : Int) ≤ _; omega⟩, ⟨by show 0 ≤ (keepM m n 1 : Int); omega, by show (keepM m n 1 : Int) ≤ _; omega⟩, ⟨by show 0 ≤ (keepM m n 2 : Int); omega, by show (keepM m n 2 : Int) ≤ _; omega⟩⟩, rfl, ?_, ?_, ?_, ok.q, fun x hx => ok.r x ?_⟩
  · show (keepM m n 0 : Int) = ((m.a.take (keepM m n 0)).length : Int)
    rw [List.length_take, Nat.min_eq_left v0]
  · show (keepM m n 1 : Int) = ((m.u.take (keepM m n 1)).length : Int)
    rw [List.length_take, Nat.min_eq_left v1]
  · show (keepM m n 2 : Int) = ((m.m.take (keepM m n 2)).length : Int)
    rw [List.length_take, Nat.min_eq_left v2]
  · rcases mem_recs.1 hx with h | h | h
    · exact mem_recs.2 (.inl (List.mem_of_mem_take h))
    · exact mem_recs.2 (.inr (.inl (List.mem_of_mem_take h)))
    · exact mem_recs.2 (.inr (.inr (List.mem_of_mem_take h)))
/-- What Cut puts at last, where the message may be. -/
def cutM (M : Nat) (m : MM) : MM := if (putMs M m).2.f = 3 then shortM m (putMs M m).1 else m
def cutE (M : Nat) (m : MM) : Nat := if checkM m = 0 then (putMs M (cutM M m)).2.f else checkM m
def cutT (M : Nat) (m : MM) : List UInt8 := if checkM m = 0 then putT M (cutM M m) else []
/-- What Cut leaves. -/
def CutW (w : World) (m : MM) (M : Nat) (e : Ending) (w' : World) : Prop :=
  e = .returned (.tuple #[.string ⟨(cutT M m).toArray⟩, .int .i64 (cutE M m : Nat)]) ∧ (checkM m = 0 → (putMs M (cutM M m)).2.l.length ≤ M) ∧ Below w.heap.size w w'
set_option maxHeartbeats 4000000 in
theorem mCut_any (m : MM) (vq va vu vm : Value) (most : Int) (w : World) (hf : FitM w m vq va vu vm) (hmo : most ≤ 9223372036854775807) :
    Calls Tryz.prog 21 #[msgV m.h vq va vu vm, .int .i64 most] w (CutW w m (min most 65535).toNat) := by
  have HCk := Lib.hid fun wx (hb : Below w.heap.size w wx) => mCheck_any m vq va vu vm wx (hf.next hb)
  have hpt := fun wx (hb : Below w.heap.size w wx) ok => mput_any m vq va vu vm most wx (hf.next hb) ok hmo
  have hpt2 := fun (m' : MM) (xq xa xu xm : Value) wx (h : FitM wx m' xq xa xu xm) ok => mput_any m' xq xa xu xm most wx h ok hmo
  have hsh := fun n wx (hb : Below w.heap.size w wx) few hn => short_any m n vq va vu vm wx (hf.next hb) few hn
  obtain ⟨Aq, cq, Aa, ca, Au, cu, Am, cm, rfl, rfl, rfl, rfl, _⟩ := hf.shapes
  have hbx := box_m m.h Aq Aa Au Am m.q.length m.a.length m.u.length m.m.length cq ca cu cm w
  have hld := fun wx g (l : Lies wx g 54 (cellsM m.h (.slice Aq m.q.length cq) (.slice Aa m.a.length ca) (.slice Au m.u.length cu) (.slice Am m.m.length cm))) => load_ml l
  obtain ⟨M, hM⟩ : ∃ M, (min most 65535).toNat = M := ⟨_, rfl⟩
  simp only [hM] at hpt hpt2 ⊢
  obtain ⟨C, hC⟩ : ∃ C, (cellsM m.h (.slice Aq m.q.length cq) (.slice Aa m.a.length ca) (.slice Au m.u.length cu) (.slice Am m.m.length cm)) = C := ⟨_, rfl⟩
  obtain ⟨V, hV⟩ : ∃ V, (msgV m.h (.slice Aq m.q.length cq) (.slice Aa m.a.length ca) (.slice Au m.u.length cu) (.slice Am m.m.length cm)) = V := ⟨_, rfl⟩
  rw [hV] at HCk ⊢
  simp only [hV] at hpt hsh
  rw [hV, hC] at hbx
  simp only [hV, hC] at hld
  have hB0 : Below w.heap.size w (w.alloc (.cells C 54)) := (Below.refl _ _).alloc (Nat.le_refl _) _
  have HBx := Lib.hid hbx
  have HLd := Lib.hid hld
  have HB0 := Lib.hid hB0
  have HP2 := Lib.hid hpt2
  have HSh := Lib.hid hsh
  have hm3 := (mo_ms (M := M) (M' := M) (Nat.le_refl _) m).2.2
  clear hf hM hC hV hbx hld hB0 hpt2 hsh
  obtain ⟨ck, hck⟩ : ∃ c, checkM m = c := ⟨_, rfl⟩
  rw [hck] at HCk
  by_cases hz : ck = 0
  · subst hz
    have hne : ((((0 : Nat) : Nat) : Int) != 0) = false := rfl
    have hok := checkM_zero.1 hck
    have hpt1 := fun wx hb => hpt wx hb hok
    clear hpt
    have HOk := Lib.hid hok
    rcases hm3 with h0 | h3
    · have hc : cutM M m = m := by unfold cutM; rw [if_neg (by rw [h0]; decide)]
      have HW : Hid (∀ e w', PutM w m M e w' → ∃ X, e = .returned (.tuple #[.string X, .int .i64 ((putMs M m).1 : Nat), .int .i64 0]) ∧ (.returned (.tuple #[.string X, .int .i64 0]) = (.returned (.tuple #[.string ⟨(cutT M m).toArray⟩, .int .i64 (cutE M m : Nat)]) : Ending)) ∧ (putMs M (cutM M m)).2.l.length ≤ M) := Lib.hid fun e w' h => by
        refine ⟨⟨(putT M m).toArray⟩, ?_, ?_, ?_⟩
        · rw [h.1, h0]; rfl
        · unfold cutT cutE; rw [if_pos hck, if_pos hck, hc, h0]; rfl
        · rw [hc]; exact h.2.1
      have hpt3 : ∀ wx, Below w.heap.size w wx → Calls Tryz.prog 54 #[V, .int .i64 most] wx (fun e w' => ∃ X, e = .returned (.tuple #[.string X, .int .i64 ((putMs M m).1 : Nat), .int .i64 0]) ∧ (.returned (.tuple #[.string X, .int .i64 0]) = (.returned (.tuple #[.string ⟨(cutT M m).toArray⟩, .int .i64 (cutE M m : Nat)]) : Ending)) ∧ (putMs M (cutM M m)).2.l.length ≤ M ∧ Below wx.heap.size wx w') := fun wx hb => by
        refine (hpt1 wx hb).mono fun e w' h => ?_
        obtain ⟨h1, h2, h3⟩ := h
        refine ⟨⟨(putT M m).toArray⟩, ?_, ?_, ?_, h3⟩
        · rw [h1, h0]; rfl
        · unfold cutT cutE; rw [if_pos hck, if_pos hck, hc, h0]; rfl
        · rw [hc]; exact h2
      obtain ⟨n, hn⟩ : ∃ n, (putMs M m).1 = n := ⟨_, rfl⟩
      rw [hn] at hpt3
      have HPt := Lib.hid hpt3
      have HCW : Hid (∀ e w', (e = .returned (.tuple #[.string ⟨(cutT M m).toArray⟩, .int .i64 (cutE M m : Nat)])) → (putMs M (cutM M m)).2.l.length ≤ M → Below w.heap.size w w' → CutW w m M e w') := Lib.hid fun e w' a b c => ⟨a, fun _ => b, c⟩
      clear hpt1 hpt3 HW hc h0 hn hck
      go_enter Tryz.func21, Tryz.ntmps21
      go_wp2_with (first | (refine wpList_box1 rfl 54 (.tmp 0) rfl V _ rfl HBx.out ?_) | (refine wpList_load1 rfl 54 (.tmp 2) rfl _ V rfl (HLd.out _ _ (Lies.new _ _ _)) ?_) | (refine wpList_load1 rfl 54 (.tmp 2) rfl _ V rfl (HLd.out _ _ HL1.out) ?_) | (go_at_call 22; (with_reducible refine (HCk.out _ HB0.out).mono ?_); rintro e w1 ⟨rfl, hb1⟩; have HL1 := Lib.hid ((Lies.new w 54 C).next hb1); have HB1 := Lib.hid (HB0.out.trans (hb1.mono HB0.out.size)); clear hb1) | fail)
      refine (HPt.out _ HB1.out).mono ?_
      rintro e w2 ⟨X, rfl, hX, hle, hb2⟩
      have HX := Lib.hid hX
      have HLe := Lib.hid hle
      have HB2 := Lib.hid (HB1.out.trans (hb2.mono HB1.out.size))
      clear hX hle hb2
      go_wp2
      go_ret2
      exact HCW.out _ _ HX.out HLe.out HB2.out
    · have hc : cutM M m = shortM m (putMs M m).1 := by unfold cutM; rw [if_pos h3]
      have hn := putMs_le M m
      have hpt3 : ∀ wx, Below w.heap.size w wx → Calls Tryz.prog 54 #[V, .int .i64 most] wx (fun e w' => (∃ X, e = .returned (.tuple #[.string X, .int .i64 ((putMs M m).1 : Nat), .int .i64 3])) ∧ Below wx.heap.size wx w') := fun wx hb => by
        refine (hpt1 wx hb).mono fun e w' h => ?_
        obtain ⟨h1, h2, h3'⟩ := h
        rw [h3] at h1
        exact ⟨⟨_, h1⟩, h3'⟩
      have hcw : ∀ e wx w', PutM wx (cutM M m) M e w' → Below w.heap.size w wx → ∃ X k f, e = .returned (.tuple #[.string X, .int .i64 ((k : Nat) : Int), .int .i64 ((f : Nat) : Int)]) ∧ CutW w m M (.returned (.tuple #[.string X, .int .i64 ((f : Nat) : Int)])) w' := fun e wx w' h hb => by
        obtain ⟨h1, h2, h3'⟩ := h
        refine ⟨_, _, _, h1, ?_, fun _ => h2, hb.trans (h3'.mono hb.size)⟩
        unfold cutT cutE
        rw [if_pos hck, if_pos hck]
      have hsh2 := fun wx hb => HSh.out (putMs M m).1 wx hb (ok_few hok) hn
      have hp4 := fun (xq xa xu xm : Value) wx (h : FitM wx (shortM m (putMs M m).1) xq xa xu xm) => HP2.out _ xq xa xu xm wx h (ok_short hok _)
      rw [hc] at hcw
      obtain ⟨n, hne'⟩ : ∃ n, (putMs M m).1 = n := ⟨_, rfl⟩
      simp only [hne'] at hpt3 hcw hsh2 hp4 hn
      have HPt := Lib.hid hpt3
      have HCw := Lib.hid hcw
      have HS2 := Lib.hid hsh2
      have HP4 := Lib.hid hp4
      have hnb : n ≤ 196605 := by
        have := few3 (ok_few hok)
        omega
      clear hpt1 hpt3 hcw hsh2 hp4 hc h3 hne' hck hok hn
      go_enter Tryz.func21, Tryz.ntmps21
      go_wp2_with (first | (refine wpList_box1 rfl 54 (.tmp 0) rfl V _ rfl HBx.out ?_) | (refine wpList_load1 rfl 54 (.tmp 2) rfl _ V rfl (HLd.out _ _ (Lies.new _ _ _)) ?_) | (refine wpList_load1 rfl 54 (.tmp 2) rfl _ V rfl (HLd.out _ _ HL1.out) ?_) | (go_at_call 22; (with_reducible refine (HCk.out _ HB0.out).mono ?_); rintro e w1 ⟨rfl, hb1⟩; have HL1 := Lib.hid ((Lies.new w 54 C).next hb1); have HB1 := Lib.hid (HB0.out.trans (hb1.mono HB0.out.size)); clear hb1) | fail)
      refine (HPt.out _ HB1.out).mono ?_
      rintro e w2 ⟨⟨X, rfl⟩, hb2⟩
      have HL2 := Lib.hid (HL1.out.next hb2)
      have HB2 := Lib.hid (HB1.out.trans (hb2.mono HB1.out.size))
      clear hb2
      go_wp2_with (first | (refine wpList_load1 rfl 54 (.tmp 2) rfl _ V rfl (HLd.out _ _ HL2.out) ?_) | fail)
      refine (HS2.out _ HB2.out).mono ?_
      rintro e w3 ⟨xa, xu, xm, rfl, hb3, hf3⟩
      have HB3 := Lib.hid (HB2.out.trans (hb3.mono HB2.out.size))
      have HQ4 := Lib.hid (HP4.out _ _ _ _ _ hf3)
      obtain ⟨V3, hV3⟩ : ∃ V3, msgV (shortM m n).h (.slice Aq m.q.length cq) xa xu xm = V3 := ⟨_, rfl⟩
      rw [hV3] at HQ4 ⊢
      clear hb3 hf3 hV3
      go_wp2_with fail
      refine HQ4.out.mono ?_
      intro e w4 h4
      obtain ⟨X4, k4, f4, rfl, hc4⟩ := HCw.out _ _ _ h4 HB3.out
      have HC4 := Lib.hid hc4
      clear h4 hc4
      go_wp2
      go_ret2
      exact HC4.out
  · have hne : (((ck : Nat) : Int) != 0) = true := by simpa using hz
    have HCW : Hid (∀ w', Below w.heap.size w w' → CutW w m M (.returned (.tuple #[.string ⟨#[]⟩, .int .i64 (ck : Int)])) w') := Lib.hid fun w' h => ⟨by unfold cutT cutE; rw [hck, if_neg hz, if_neg hz], fun h => absurd (hck.symm.trans h) hz, h⟩
    clear hpt hck hm3
    go_enter Tryz.func21, Tryz.ntmps21
    go_wp2_with (first | (refine wpList_box1 rfl 54 (.tmp 0) rfl V _ rfl HBx.out ?_) | (refine wpList_load1 rfl 54 (.tmp 2) rfl _ V rfl (HLd.out _ _ (Lies.new _ _ _)) ?_) | (refine wpList_load1 rfl 54 (.tmp 2) rfl _ V rfl (HLd.out _ _ HL1.out) ?_) | (go_at_call 22; (with_reducible refine (HCk.out _ HB0.out).mono ?_); rintro e w1 ⟨rfl, hb1⟩; have HL1 := Lib.hid ((Lies.new w 54 C).next hb1); have HB1 := Lib.hid (HB0.out.trans (hb1.mono HB0.out.size)); clear hb1) | fail)
    go_ret2
    exact HCW.out _ HB1.out
end Go.Proofs.YtadeflehdfmilaaGreat
namespace Go.Proofs.YtadeflehdfmilaaGreat
open Go.RowKit
set_option linter.unusedVariables false
set_option maxRecDepth 100000

abbrev exL : List UInt8 := [0, 1, 1, 0, 0, 1, 0, 0, 0, 0, 0, 0, 1, 97, 0, 0, 1, 0, 1]
def hdC (n : Int) : Hd := { qh 1 true 1 with n1 := n }
def exR : MR := ⟨⟨#[1, 97]⟩, 1, 1, 0, ⟨false, 0, 7, nob, nob, 0, 0, 0, 0, 0, [], nob⟩⟩
def exRV : RV := (exR, nilS)
/-- A count of one, and no record. -/
def mM : MM := ⟨hdC 1, [exQ], [], [], []⟩
/-- Three records. -/
def nM : MM := ⟨hdC 3, [exQ], [exRV, exRV, exRV], [], []⟩
theorem ex_1 : rdErr (exL ++ [120]) = 4 := by kernel_rfl
theorem ex_2 : rdErr (exL.take 18) = 8 := by kernel_rfl
theorem ex_3 : rdErr (exL.take 11) = 8 := by kernel_rfl
theorem ex_4 {l : List UInt8} (h : l.length = 65536) : rdErr l = 3 := by
  unfold rdErr
  rw [if_pos (by omega)]
theorem ex_5 : putErr 18 exMM = 3 := by kernel_rfl
theorem ex_6 : checkM mM = 2 ∧ sizeM mM = 0 ∧ sameM mM nM = false := ⟨by kernel_rfl, by kernel_rfl, by kernel_rfl⟩
theorem ex_7 : cutE 60 nM = 0 ∧ rdErr (cutT 60 nM) = 0 := ⟨by kernel_rfl, by kernel_rfl⟩
theorem ex_7a : (rdV (cutT 60 nM)).tc = true ∧ (rdL (cutT 60 nM) (rdV (cutT 60 nM)) 0).length = 2 ∧ (cutT 60 nM).length = 51 := ⟨by kernel_rfl, by kernel_rfl, by kernel_rfl⟩
theorem ex_8 : cutE 18 nM = 3 := by kernel_rfl
theorem ex_9 : cutE 99 nM = 0 ∧ (cutT 99 nM).length = 67 := ⟨by kernel_rfl, by kernel_rfl⟩
theorem ex_10 : sizeM nM = 70 ∧ sameM nM nM = true := ⟨by kernel_rfl, by kernel_rfl⟩
end Go.Proofs.YtadeflehdfmilaaGreat
namespace Go.Proofs.YtadeflehdfmilaaGreat
open Go.RowKit Go.Maps
set_option linter.unusedVariables false
set_option maxRecDepth 100000

theorem wpList_mk1 {ops : Array Oper} {rest : List Oper} {o : Oper} {a : Act} {w w' : World} {Q : Exit → Act → World → Prop} (hgd : o.guard = none) (t : TypeId) (x y : Operand) (ho : o.op = .makeSlice t x y) (V1 V2 u : Value) (hx : a.eval x = V1) (hy : a.eval y = V2) (hb : (Instr.makeSlice t V1 V2).run Tryz.prog w = .ok u w')
    (h : wpList Tryz.prog ops Q rest (a.put o.dst u) w') : wpList Tryz.prog ops Q (o :: rest) a w := by
  refine wpList_plain hgd fun K hK => ?_
  unfold Oper.wp execOp
  simp only [ho, hx, hy, Sem.run_bind, Sem.run_pure, hb, Result.andThen_ok]
  exact hK _ _ h
theorem wpList_cv1 {ops : Array Oper} {rest : List Oper} {o : Oper} {a : Act} {w w' : World} {Q : Exit → Act → World → Prop} (hgd : o.guard = none) (s t : TypeId) (x : Operand) (ho : o.op = .convert s t x) (V1 u : Value) (hx : a.eval x = V1) (hb : (convert s t V1).run Tryz.prog w = .ok u w')
    (h : wpList Tryz.prog ops Q rest (a.put o.dst u) w') : wpList Tryz.prog ops Q (o :: rest) a w := by
  refine wpList_plain hgd fun K hK => ?_
  unfold Oper.wp execOp
  simp only [ho, hx, Sem.run_bind, Sem.run_pure, hb, Result.andThen_ok]
  exact hK _ _ h
theorem wpList_bs3 {ops : Array Oper} {rest : List Oper} {o : Oper} {a : Act} {w w' : World} {Q : Exit → Act → World → Prop} (hgd : o.guard = none) (ts : TypeId) (x y z : Operand) (ho : o.op = .buildSlice ts 3 #[(0, x), (1, y), (2, z)]) (V u : Value) (hx : a.eval x = V) (hy : a.eval y = V) (hz : a.eval z = V) (hb : (Instr.buildSlice ts 3 #[(0, V), (1, V), (2, V)]).run Tryz.prog w = .ok u w')
    (h : wpList Tryz.prog ops Q rest (a.put o.dst u) w') : wpList Tryz.prog ops Q (o :: rest) a w := by
  refine wpList_plain hgd fun K hK => ?_
  unfold Oper.wp execOp
  simp only [ho, List.map_toArray, List.map_cons, List.map_nil, hx, hy, hz, Sem.run_bind, Sem.run_pure, hb, Result.andThen_ok]
  exact hK _ _ h
theorem rep_get (n j : Nat) (h : j < (List.replicate n (0 : UInt8)).length) : ((List.replicate n (0 : UInt8))[j]).toNat = 0 := by
  rw [List.getElem_replicate]
  rfl
/-- 65536 noughts. -/
theorem make_zeros (w : World) : ∃ v w1 Z, (Instr.makeSlice 58 (.int .i64 65536) (.int .i64 65536)).run Tryz.prog w = .ok v w1 ∧ (convert 58 9 v).run Tryz.prog w1 = .ok (.string Z) w1 ∧ (bs Z).length = 65536 ∧ Below w.heap.size w w1 := by
  obtain ⟨i, hi⟩ := Option.isSome_iff_exists.1 (show (Tryz.prog.info? 5).isSome = true by kernel_rfl)
  have hz : i.zero = some (.int .u8 0) := by
    have h : (Tryz.prog.info? 5).bind (·.zero) = some (.int .u8 0) := by kernel_rfl
    rw [hi] at h
    exact h
  have hs : i.size = 1 := by
    have h : (Tryz.prog.info? 5).map (·.size) = some 1 := by kernel_rfl
    rw [hi] at h
    injection h
  have hby : i.bytes = 1 := by
    have h : (Tryz.prog.info? 5).map (·.bytes) = some 1 := by kernel_rfl
    rw [hi] at h
    injection h
  have hm := run_makeSlice (P := Tryz.prog) w 58 5 i _ (by kernel_rfl) hi hz .i64 .i64 65536 65536 (by decide) (by decide) (by rw [hs]; decide) (by rw [hby]; decide) (by decide)
  have hcells : (madeCells (Value.int .u8 0).cells ((65536 : Int).toNat * i.size)).toList = List.replicate 65536 (.int .u8 0) := by
    rw [hs]
    exact toList_madeCells_one _ _
  obtain ⟨C, hC⟩ : ∃ C, madeCells (Value.int .u8 0).cells ((65536 : Int).toNat * i.size) = C := ⟨_, rfl⟩
  rw [hC] at hm hcells
  obtain ⟨L, hL⟩ : ∃ L : List UInt8, L = List.replicate 65536 0 := ⟨_, rfl⟩
  have hLl : L.length = 65536 := by rw [hL, List.length_replicate]
  have hLg : ∀ j (h : j < L.length), L[j].toNat = 0 := by rw [hL]; exact fun j h => rep_get _ j h
  clear hL
  have hb := run_convert_bytes_back (P := Tryz.prog) (w.alloc (.cells C 5)) 58 9 5 ⟨w.heap.size, 0, none⟩ 65536 L (by kernel_rfl) (by kernel_rfl) (by kernel_rfl) (fun j hj => by
    have h1 := (Lies.new w 5 C).cell j
    rw [show (⟨w.heap.size, 0, none⟩ : Addr).add j = ⟨w.heap.size, j, none⟩ by simp [Addr.add]; exact fun h => h.symm, h1, ← Array.getElem?_toList, hcells, List.getElem?_replicate, if_pos (by omega), hLg]
    rfl)
  rw [hLl] at hb
  refine ⟨_, _, _, hm, hb, ?_, (Below.refl _ _).alloc (Nat.le_refl _) _⟩
  rw [bs_mk]
  exact hLl
/-- What is read and kept. -/
def KeptR (w : World) (T : List UInt8) (e : Ending) (w' : World) : Prop :=
  ∃ V g wa wb, e = .returned (.tuple #[V, .int .i64 (rdErr T : Nat)]) ∧ (Instr.alloc 54 true (.tuple #[])).run Tryz.prog w' = .ok (pp g) wa ∧ (Instr.storeAt 54 (pp g) V).run Tryz.prog wa = .ok () wb ∧ Below w.heap.size w wb ∧
    (rdErr T = 0 → ∀ wx, Below wb.heap.size wb wx → wx.cell? ⟨g, 4, none⟩ = some (.bool (rdV T).tc) ∧ ∃ A c, wx.cell? ⟨g, 15, none⟩ = some (.slice A (rdL T (rdV T) 0).length c) ∧ (rdL T (rdV T) 0).length ≤ maxLen)
theorem read_kept (S : ByteArray) (w : World) (hS : S.size ≤ 1099511627776) : Calls Tryz.prog 20 #[.string S] w (KeptR w (bs S)) := by
  refine (mRead_any S w hS).mono ?_
  rintro e w' ⟨m, vq, va, vu, vm, rfl, hb, hf, _, ho⟩
  obtain ⟨Aq, cq, Aa, ca, Au, cu, Am, cm, rfl, rfl, rfl, rfl, ⟨_, la, _⟩, _⟩ := hf.shapes
  refine ⟨_, w'.heap.size, _, _, rfl, alloc_m w', store_mf m.h Aq Aa Au Am m.q.length m.a.length m.u.length m.m.length cq ca cu cm w', hb.alloc hb.size _, fun h0 wx hx => ?_⟩
  have hl := (Lies.new w' 54 (cellsM m.h (.slice Aq m.q.length cq) (.slice Aa m.a.length ca) (.slice Au m.u.length cu) (.slice Am m.m.length cm))).next hx
  have h1 := ho h0
  have e1 : (rdL (bs S) (rdV (bs S)) 0).length = m.a.length := by rw [← h1.a, List.length_map]
  rw [← h1.h, e1] at *
  exact ⟨(liesM hl).1.2.2.2.2.1, Aa, ca, hl.cell 15, la⟩
/-- A message of the law, made. -/
theorem example_m (w : World) : Calls Tryz.prog 19 #[] w (fun e w' => ∃ g, e = .returned (msgV (qh 1 true 1) (.slice (some ⟨g, 0, none⟩) 1 1) nilS nilS nilS) ∧ FitM w' exMM (.slice (some ⟨g, 0, none⟩) 1 1) nilS nilS nilS ∧ Below w.heap.size w w') := by
  refine (example_any w).mono ?_
  rintro e w' ⟨g, rfl, hg, hl, hb⟩
  exact ⟨g, rfl, qm_fit (id := 1) (q := exQ) (rd := true) (by decide) (by unfold maxLen; decide) hl, hb⟩
theorem store_n1 {w : World} {g : Nat} {h : Hd} {vq va vu vm : Value} (l : Lies w g 54 (cellsM h vq va vu vm)) (b : Int) : ∃ w', (Instr.storeAt 3 (.pointer (some ⟨g, 11, none⟩)) (.int .i64 b)).run Tryz.prog w = .ok () w' ∧ Lies w' g 54 (cellsM { h with n1 := b } vq va vu vm) ∧ w.grownBy w' (some g) := by
  have hc := (liesM l).1.2.2.2.2.2.2.2.2.2.2.2.1
  have hf := l.free 11
  refine ⟨w.setCell ⟨g, 11, none⟩ (.int .i64 b), ?_, l.set 11 _, grown_set (base := 0) w g 11 _⟩
  clear l
  go_simp
theorem fit_ex (w : World) : FitR w exR nilS := ⟨by unfold maxLen; decide, by decide, { fit0 w with lo := by decide }⟩
theorem three_r (w : World) : (Instr.buildSlice 52 3 #[(0, recV exR nilS), (1, recV exR nilS), (2, recV exR nilS)]).run Tryz.prog w = .ok (.slice (some ⟨w.heap.size, 0, none⟩) 3 3) (w.alloc (.cells (csR exRV ++ csR exRV ++ csR exRV).toArray 32)) := by
  unfold recV cellsR
  go_simp
  rfl
end Go.Proofs.YtadeflehdfmilaaGreat
