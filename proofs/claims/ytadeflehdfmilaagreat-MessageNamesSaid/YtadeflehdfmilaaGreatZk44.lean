/-
  message.first over questions, over records; message.Check: the walks. Condition: Go can have the message.
-/
import Derived.Test.YtadeflehdfmilaaGreatZk42
namespace Go.Proofs.YtadeflehdfmilaaGreat
open Go.RowKit Go.Maps
set_option linter.unusedVariables false
set_option maxRecDepth 100000

theorem CRow.ld_r {w : World} {A : Option Addr} {n cap : Nat} {L : List RV} (h : CRow csR 16 w (.slice A n cap) L) (j : Nat) (hj : j < L.length) : ∃ g o, A = some ⟨g, o, none⟩ ∧ ∀ wx, Below w.heap.size w wx → (Instr.loadAt 32 (.pointer (some ⟨g, o + j * 16, none⟩))).run Tryz.prog wx = .ok (recV L[j].1 L[j].2) wx := by
  obtain ⟨g, o, e1, e2, e3⟩ := h.at j hj
  exact ⟨g, o, e1, fun wx hb => load_r fun i v hv => (hb.cell (p := ⟨g, o + j * 16 + i, none⟩) e2).trans (e3 i v hv)⟩
set_option maxHeartbeats 2000000 in
theorem firstR_any (v : Value) (L : List RV) (w : World) (h : CRow csR 16 w v L) (hf : ∀ x ∈ L, FitR w x.1 x.2) :
    Calls Tryz.prog 63 #[v, .func (.func 12) #[] #[]] w (Told w (.int .i64 (fst0 ckR L : Nat))) := by
  obtain ⟨A0, cap0, rfl, hl0, hc0, _⟩ := h.shape
  have hgo : ∀ (args : Array Value) (wx : World), (callFunc 12 args).run Tryz.prog wx = .ok (.enter 12 args) wx := fun args wx => by kernel_rfl
  have HR := Lib.hid h
  have HF := Lib.hid hf
  obtain ⟨R, hR⟩ : ∃ R, R = fst0 ckR L := ⟨_, rfl⟩
  rw [← hR]
  have HST : Hid (∃ k : Nat, (Value.int .i64 0) = .int .i64 (k : Int) ∧ k ≤ L.length ∧ fst0 ckR (L.drop k) = R ∧ Below w.heap.size w w) := Lib.hid ⟨0, rfl, Nat.zero_le _, by rw [hR]; rfl, Below.refl _ _⟩
  unfold maxLen at hc0
  clear h hf hR
  go_enter Tryz.func63, Tryz.ntmps63
  go_wp2
  go_loopw [10] (fun vi wr => ∃ k : Nat, vi = .int .i64 k ∧ k ≤ L.length ∧ fst0 ckR (L.drop k) = R ∧ Below w.heap.size w wr) (fun vi _ => L.length - (intOf vi).toNat)
  case atStart => exact HST.out
  case round =>
    obtain ⟨k, rfl, hk, hd, hb⟩ := hrel
    have HD := Lib.hid hd
    have HB := Lib.hid hb
    clear hd hb HST
    rcases Nat.lt_or_ge k L.length with hlt | hge
    · obtain ⟨g, o, rfl, hld⟩ := HR.out.ld_r k hlt
      have hmem := List.getElem_mem hlt
      have hdr := fst0_drop (f := ckR) hlt
      have hfit := HF.out _ hmem
      obtain ⟨x, hx⟩ : ∃ x, x = L[k] := ⟨_, rfl⟩
      rw [← hx] at hld hdr hfit
      clear hmem hx
      obtain ⟨r, tv⟩ := x
      replace hfit : FitR w r tv := hfit
      obtain ⟨A, cap, htv, _, _⟩ := hfit.d.row.shape
      obtain ⟨n, htv'⟩ : ∃ n, tv = .slice A n cap := ⟨_, htv⟩
      clear htv
      subst htv'
      have hck := fun wx (hb : Below w.heap.size w wx) => rcCheck_any r (.slice A n cap) wx (hfit.next hb)
      have hst := store_r r A n cap
      have hl2 := fun wx : World => load_rl (Lies.new wx 32 (cellsR r (.slice A n cap)))
      obtain ⟨C, hC⟩ : ∃ C, cellsR r (.slice A n cap) = C := ⟨_, rfl⟩
      obtain ⟨V, hV⟩ : ∃ V, recV r (.slice A n cap) = V := ⟨_, rfl⟩
      simp only [hV] at hld hck hst hl2
      simp only [hC] at hst hl2
      obtain ⟨c, hc⟩ : ∃ c, checkR r = c := ⟨_, rfl⟩
      rw [hc] at hck
      replace hdr : fst0 ckR (L.drop k) = if c = 0 then fst0 ckR (L.drop (k + 1)) else c := by rw [hdr]; show (if checkR r = 0 then _ else checkR r) = _; rw [hc]
      have HLd := Lib.hid (hld _ HB.out)
      have HCk := Lib.hid hck
      have HSt := Lib.hid hst
      have HL2 := Lib.hid hl2
      have HDr := Lib.hid hdr
      have HBx := Lib.hid fun (o : Obj) wx (hb : Below (wr.alloc o).heap.size (wr.alloc o) wx) => HB.out.trans (((Below.refl _ wr).alloc (Nat.le_refl _) o).trans (hb.mono (by simp)) |>.mono HB.out.size)
      clear hld hck hst hl2 hdr hfit hV hC hc
      by_cases hz : c = 0
      · subst hz
        have hne : ((((0 : Nat) : Nat) : Int) != 0) = false := rfl
        go_wp2_with (first | (refine wpList_load1 rfl 32 (.tmp 12) rfl _ V rfl HLd.out ?_) | (refine wpList_alloc1 rfl 32 rfl _ (alloc_r _) ?_) | (refine wpList_store1 rfl 32 (.tmp 6) (.tmp 13) rfl _ V rfl rfl (HSt.out _) ?_) | (refine wpList_load1 rfl 32 (.tmp 6) rfl _ V rfl (HL2.out _) ?_) | ((with_reducible refine (HCk.out _ (HB.out.alloc HB.out.size _)).mono ?_); rintro e w1 ⟨rfl, hb1⟩; have HB1 := Lib.hid (HBx.out _ _ hb1); clear hb1))
        go_roundw
        case rel => exact ⟨k + 1, by go_num, hlt, by rw [← HD.out, HDr.out]; rfl, HB1.out⟩
        case measure => simp [intOf]; omega
      · have hne : (((c : Nat) : Int) != 0) = true := by simpa using hz
        go_wp2_with (first | (refine wpList_load1 rfl 32 (.tmp 12) rfl _ V rfl HLd.out ?_) | (refine wpList_alloc1 rfl 32 rfl _ (alloc_r _) ?_) | (refine wpList_store1 rfl 32 (.tmp 6) (.tmp 13) rfl _ V rfl rfl (HSt.out _) ?_) | (refine wpList_load1 rfl 32 (.tmp 6) rfl _ V rfl (HL2.out _) ?_) | ((with_reducible refine (HCk.out _ (HB.out.alloc HB.out.size _)).mono ?_); rintro e w1 ⟨rfl, hb1⟩; have HB1 := Lib.hid (HBx.out _ _ hb1); clear hb1))
        go_ret
        exact ⟨(by rw [← HD.out, HDr.out, if_neg hz]; first | done | rfl), HB1.out⟩
    · obtain rfl : k = L.length := by omega
      have hR0 : R = 0 := by rw [← HD.out, List.drop_length]; rfl
      subst hR0
      go_wp2
      go_ret
      exact ⟨rfl, HB.out⟩
set_option maxHeartbeats 2000000 in
theorem firstQ_any (v : Value) (L : List MQ) (w : World) (h : CRow csQ 3 w v L) (hf : ∀ x ∈ L, x.n.size ≤ maxLen) :
    Calls Tryz.prog 61 #[v, .func (.func 44) #[] #[]] w (Told w (.int .i64 (fst0 checkQ L : Nat))) := by
  obtain ⟨A0, cap0, rfl, hl0, hc0, _⟩ := h.shape
  have hgo : ∀ (args : Array Value) (wx : World), (callFunc 44 args).run Tryz.prog wx = .ok (.enter 44 args) wx := fun args wx => by kernel_rfl
  have HR := Lib.hid h
  have HF := Lib.hid hf
  obtain ⟨R, hR⟩ : ∃ R, R = fst0 checkQ L := ⟨_, rfl⟩
  rw [← hR]
  have HST : Hid (∃ k : Nat, (Value.int .i64 0) = .int .i64 (k : Int) ∧ k ≤ L.length ∧ fst0 checkQ (L.drop k) = R ∧ Below w.heap.size w w) := Lib.hid ⟨0, rfl, Nat.zero_le _, by rw [hR]; rfl, Below.refl _ _⟩
  unfold maxLen at hc0
  clear h hf hR
  go_enter Tryz.func61, Tryz.ntmps61
  go_wp2
  go_loopw [10] (fun vi wr => ∃ k : Nat, vi = .int .i64 k ∧ k ≤ L.length ∧ fst0 checkQ (L.drop k) = R ∧ Below w.heap.size w wr) (fun vi _ => L.length - (intOf vi).toNat)
  case atStart => exact HST.out
  case round =>
    obtain ⟨k, rfl, hk, hd, hb⟩ := hrel
    have HD := Lib.hid hd
    have HB := Lib.hid hb
    clear hd hb HST
    rcases Nat.lt_or_ge k L.length with hlt | hge
    · obtain ⟨g, o, rfl, hc⟩ := HR.out.q_at k hlt
      obtain ⟨c0, c1, c2⟩ := hc _ HB.out
      have hdr := fst0_drop (f := checkQ) hlt
      have hn := HF.out _ (List.getElem_mem hlt)
      obtain ⟨x, hx⟩ : ∃ x, x = L[k] := ⟨_, rfl⟩
      rw [← hx] at c0 c1 c2 hdr hn
      have hck := fun wx => CheckQuestion_any x wx hn
      obtain ⟨c, hcc⟩ : ∃ c, checkQ x = c := ⟨_, rfl⟩
      rw [hcc] at hck hdr
      have HCk := Lib.hid hck
      have HDr := Lib.hid hdr
      have HBx := Lib.hid fun (o : Obj) wx (hb : Below (wr.alloc o).heap.size (wr.alloc o) wx) => HB.out.trans (((Below.refl _ wr).alloc (Nat.le_refl _) o).trans (hb.mono (by simp)) |>.mono HB.out.size)
      clear hck hdr hn hcc hc hx
      by_cases hz : c = 0
      · subst hz
        have hne : ((((0 : Nat) : Nat) : Int) != 0) = false := rfl
        go_wp2_with ((with_reducible refine (HCk.out _).mono ?_); rintro e w1 ⟨rfl, hb1⟩; have HB1 := Lib.hid (HBx.out _ _ hb1); clear hb1)
        go_roundw
        case rel => exact ⟨k + 1, by go_num, hlt, by rw [← HD.out, HDr.out]; rfl, HB1.out⟩
        case measure => simp [intOf]; omega
      · have hne : (((c : Nat) : Int) != 0) = true := by simpa using hz
        go_wp2_with ((with_reducible refine (HCk.out _).mono ?_); rintro e w1 ⟨rfl, hb1⟩; have HB1 := Lib.hid (HBx.out _ _ hb1); clear hb1)
        go_ret
        exact ⟨(by rw [← HD.out, HDr.out, if_neg hz]; first | done | rfl), HB1.out⟩
    · obtain rfl : k = L.length := by omega
      have hR0 : R = 0 := by rw [← HD.out, List.drop_length]; rfl
      subst hR0
      go_wp2
      go_ret
      exact ⟨rfl, HB.out⟩
/-- What the rows are. -/
def rowAt (m : MM) : Nat → List RV
  | 0 => m.a
  | 1 => m.u
  | _ => m.m
theorem rows_drop (m : MM) {j : Nat} (h : j < 3) : fst0 (fst0 ckR) ([m.a, m.u, m.m].drop j) = if fst0 ckR (rowAt m j) = 0 then fst0 (fst0 ckR) ([m.a, m.u, m.m].drop (j + 1)) else fst0 ckR (rowAt m j) := by
  obtain rfl | rfl | rfl : j = 0 ∨ j = 1 ∨ j = 2 := by omega
  all_goals rfl
theorem FitM.row {w : World} {m : MM} {Aq Aa Au Am : Option Addr} {nq cq na ca nu cu nm cm : Nat} (f : FitM w m (.slice Aq nq cq) (.slice Aa na ca) (.slice Au nu cu) (.slice Am nm cm)) {t : TypeId} {g0 : Nat} {W : World} (l : ∀ wx, Below W.heap.size W wx → Lies wx g0 t (cellsM m.h (.slice Aq nq cq) (.slice Aa na ca) (.slice Au nu cu) (.slice Am nm cm))) (j : Nat) (hj : j < 3) :
    ∃ A c, CRow csR 16 w (.slice A (rowAt m j).length c) (rowAt m j) ∧ (∀ wx, Below W.heap.size W wx → wx.cell? ⟨g0, 15 + j, none⟩ = some (.slice A (rowAt m j).length c)) ∧ (∀ wx, (Instr.index 115 (rowsV g0) (.int .i64 (j : Int))).run Tryz.prog wx = .ok (.pointer (some ⟨g0, 15 + j, none⟩)) wx) ∧ (∀ x ∈ rowAt m j, FitR w x.1 x.2) ∧ (rowAt m j).length ≤ maxLen := by
  obtain rfl | rfl | rfl : j = 0 ∨ j = 1 ∨ j = 2 := by omega
  · obtain ⟨A, c, e, h1, h2, _⟩ := f.a.shape
    injection e with e1 e2 e3
    subst e1 e2 e3
    exact ⟨_, _, f.a, fun wx hb => (l wx hb).cell 15, fun wx => by kernel_rfl, fun x hx => f.rs x (mem_recs.2 (.inl hx)), Nat.le_trans h1 h2⟩
  · obtain ⟨A, c, e, h1, h2, _⟩ := f.u.shape
    injection e with e1 e2 e3
    subst e1 e2 e3
    exact ⟨_, _, f.u, fun wx hb => (l wx hb).cell 16, fun wx => by kernel_rfl, fun x hx => f.rs x (mem_recs.2 (.inr (.inl hx))), Nat.le_trans h1 h2⟩
  · obtain ⟨A, c, e, h1, h2, _⟩ := f.rm.shape
    injection e with e1 e2 e3
    subst e1 e2 e3
    exact ⟨_, _, f.rm, fun wx hb => (l wx hb).cell 17, fun wx => by kernel_rfl, fun x hx => f.rs x (mem_recs.2 (.inr (.inr hx))), Nat.le_trans h1 h2⟩
theorem cnt_neq (m : MM) (w : World) : (Op.equalIn 10000 48 (.agg #[.int .i64 m.h.n0, .int .i64 m.h.n1, .int .i64 m.h.n2, .int .i64 m.h.n3]) (.agg #[.int .i64 (m.q.length : Int), .int .i64 (m.a.length : Int), .int .i64 (m.u.length : Int), .int .i64 (m.m.length : Int)])).run Tryz.prog w = .ok (cntB m) w := ints_four ..
set_option maxHeartbeats 4000000 in
theorem mCheck_any (m : MM) (vq va vu vm : Value) (w : World) (hf : FitM w m vq va vu vm) :
    Calls Tryz.prog 22 #[msgV m.h vq va vu vm] w (Told w (.int .i64 (checkM m : Nat))) := by
  obtain ⟨Aq, cq, Aa, ca, Au, cu, Am, cm, rfl, rfl, rfl, rfl, ⟨l1, l2, l3, l4⟩, _⟩ := hf.shapes
  unfold maxLen at l1 l2 l3 l4
  obtain ⟨C, hC⟩ : ∃ C, cellsM m.h (.slice Aq m.q.length cq) (.slice Aa m.a.length ca) (.slice Au m.u.length cu) (.slice Am m.m.length cm) = C := ⟨_, rfl⟩
  obtain ⟨V, hV⟩ : ∃ V, msgV m.h (.slice Aq m.q.length cq) (.slice Aa m.a.length ca) (.slice Au m.u.length cu) (.slice Am m.m.length cm) = V := ⟨_, rfl⟩
  obtain ⟨Vh, hVh⟩ : ∃ V, hv m.h = V := ⟨_, rfl⟩
  have hbx := box_m m.h Aq Aa Au Am m.q.length m.a.length m.u.length m.m.length cq ca cu cm w
  obtain ⟨W, hW⟩ : ∃ W, W = w.alloc (.cells C 54) := ⟨_, rfl⟩
  rw [hC, hV, ← hW] at hbx
  have hB0 : Below w.heap.size w W := by rw [hW]; exact (Below.refl _ _).alloc (Nat.le_refl _) _
  have hL0 : Lies W w.heap.size 54 C := by rw [hW]; exact Lies.new _ _ _
  have HL : Hid (∀ wx, Below W.heap.size W wx → Lies wx w.heap.size 54 (cellsM m.h (.slice Aq m.q.length cq) (.slice Aa m.a.length ca) (.slice Au m.u.length cu) (.slice Am m.m.length cm))) := Lib.hid fun wx hb => by rw [hC]; exact hL0.next hb
  have HLdV : Hid (∀ wx, Below W.heap.size W wx → (Instr.loadAt 54 (pp w.heap.size)).run Tryz.prog wx = .ok V wx) := Lib.hid fun wx hb => by rw [← hV]; exact load_ml (HL.out wx hb)
  have HLdH : Hid (∀ wx, Below W.heap.size W wx → (Instr.loadAt 50 (pp w.heap.size)).run Tryz.prog wx = .ok Vh wx) := Lib.hid fun wx hb => by rw [← hVh]; exact load_hd (HL.out wx hb)
  have HB0 := Lib.hid hB0
  have HBx := Lib.hid hbx
  have HF := Lib.hid hf
  have HRow := Lib.hid (hf.row (t := 54) HL.out)
  have HH : Hid (∀ wx, Calls Tryz.prog 59 #[Vh] wx (Told wx (.int .i64 (chkH m.h : Nat)))) := Lib.hid fun wx => hVh ▸ hdCheck_any m.h wx
  have HCnt : Hid (∀ wx, Calls Tryz.prog 60 #[V] wx (Told wx (intsV m.q.length m.a.length m.u.length m.m.length))) := Lib.hid fun wx => hV ▸ countsOf_any m.h Aq Aa Au Am m.q.length m.a.length m.u.length m.m.length cq ca cu cm wx
  have HFq := Lib.hid fun wx (hb : Below w.heap.size w wx) => firstQ_any _ _ wx (hf.q.below hb) hf.qs
  have HRo := Lib.hid fun wx => rowsOf_any w.heap.size wx
  have HV : Hid (checkM m = if chkH m.h ≠ 0 then chkH m.h else if cntB m = false then 2 else if fst0 checkQ m.q ≠ 0 then fst0 checkQ m.q else fst0 (fst0 ckR) [m.a, m.u, m.m]) := Lib.hid rfl
  have hEq := cnt_neq m
  rw [hV]
  obtain ⟨ch, hch⟩ : ∃ c, chkH m.h = c := ⟨_, rfl⟩
  obtain ⟨cb, hcb⟩ : ∃ c, cntB m = c := ⟨_, rfl⟩
  obtain ⟨cq0, hcq0⟩ : ∃ c, fst0 checkQ m.q = c := ⟨_, rfl⟩
  obtain ⟨R, hR⟩ : ∃ c, fst0 (fst0 ckR) [m.a, m.u, m.m] = c := ⟨_, rfl⟩
  rw [hch] at HH HV
  rw [hcb] at HV hEq
  rw [hcq0] at HFq HV
  rw [hR] at HV
  have HR := Lib.hid hR
  obtain ⟨VV, hVV⟩ : ∃ V, checkM m = V := ⟨_, rfl⟩
  rw [hVV] at HV ⊢
  clear hL0 hB0 hf hch hcb hcq0 hR hVV hbx hC hV hVh hW
  unfold intsV at HCnt
  have HEnt : Hid (∀ wx, Below W.heap.size W wx → Below w.heap.size w wx) := Lib.hid fun wx hb => HB0.out.trans (hb.mono HB0.out.size)
  by_cases h0 : ch = 0
  · subst h0
    have hne : ((((0 : Nat) : Nat) : Int) != 0) = false := rfl
    go_enter Tryz.func22, Tryz.ntmps22
    go_wp2_with (first | (refine wpList_box1 rfl 54 (.tmp 0) rfl V _ rfl HBx.out ?_) | (refine wpList_load1 rfl 50 (.tmp 8) rfl _ Vh rfl (HLdH.out _ (Below.refl _ _)) ?_) | fail)
    refine (HH.out _).mono ?_
    rintro e w1 ⟨rfl, hb1⟩
    have HB1 := Lib.hid hb1
    clear hb1
    go_upto_region 4 with (fail)
    obtain ⟨Ix, f, i0, hf0, hCn, hstep⟩ := class_ofC w1
    haveI : Nonempty Ix := ⟨i0⟩
    have HBn := Lib.hid fun n => HB1.out.trans ((hCn n).mono HB1.out.size)
    have x10 := fun n => (liesM (HL.out _ (HBn.out n))).1.2.2.2.2.2.2.2.2.2.2.1
    have x11 := fun n => (liesM (HL.out _ (HBn.out n))).1.2.2.2.2.2.2.2.2.2.2.2.1
    have x12 := fun n => (liesM (HL.out _ (HBn.out n))).1.2.2.2.2.2.2.2.2.2.2.2.2.1
    have x13 := fun n => (liesM (HL.out _ (HBn.out n))).1.2.2.2.2.2.2.2.2.2.2.2.2.2
    have HVn : Hid (∀ wx, (∃ n, wx = f n) → (Instr.loadAt 54 (pp w.heap.size)).run Tryz.prog wx = .ok V wx) := Lib.hid fun wx ⟨n, e⟩ => by rw [e]; exact HLdV.out _ (HBn.out n)
    have V1 := Lib.hid (fun n => (HCnt.out (f n)).mono (fun _ _ h => (⟨h.1, hstep n _ h.2⟩ : _ ∧ ∃ m, _ = f m)))
    clear hstep
    refine wp_region_class f (by kernel_rfl) (lexB_of (by kernel_rfl) (by as_aux_lemma => kernel_rfl)) i0 hf0 ?_
    clear hf0
    repeat (first | (refine wpQuiet_load1 rfl 54 (.tmp 1) rfl _ V rfl HVn.out ?_; simp only [Act.put, List.setIfInBounds_toArray, List.set_cons_succ, List.set_cons_zero]) | go_big_quiet_step (with_reducible exact V1.out _))
    all_goals
      refine wpQuiet_nil ?_
      intro _ hw'
      obtain ⟨nE, hw''⟩ := hw'
      subst hw''
    clear x10 x11 x12 x13 V1 hEq HVn
    have HBE := Lib.hid (HBn.out nE)
    have y14 := (liesM (HL.out _ HBE.out)).2.1
    clear hCn
    obtain ⟨wE, hwE⟩ : ∃ wE, f nE = wE := ⟨_, rfl⟩
    rw [hwE] at HBE y14 ⊢
    clear hwE HBn
    cases cb
    · as_aux_lemma =>
        have hV2 : VV = 2 := by rw [HV.out]; rfl
        subst hV2
        go_wp2
        go_ret
        exact ⟨rfl, HEnt.out _ HBE.out⟩
    · by_cases hq : cq0 = 0
      · as_aux_lemma =>
          subst hq
          have hVR : VV = R := by rw [HV.out]; rfl
          subst hVR
          go_wp2_with (first | (go_at_call 61; (with_reducible refine (HFq.out _ (HEnt.out _ HBE.out)).mono ?_); rintro e w3 ⟨rfl, hb3⟩; have HB3 := Lib.hid (HBE.out.trans (hb3.mono HBE.out.size)); clear hb3) | (go_at_call 62; (with_reducible refine (HRo.out _).mono ?_); rintro e w4 ⟨rfl, hb4⟩; have HB4 := Lib.hid (HB3.out.trans (hb4.mono HB3.out.size)); clear hb4))
          have HST : Hid (∃ j : Nat, (Value.int .i64 0) = .int .i64 (j : Int) ∧ j ≤ 3 ∧ fst0 (fst0 ckR) ([m.a, m.u, m.m].drop j) = VV ∧ Below W.heap.size W w4) := Lib.hid ⟨0, rfl, by omega, HR.out, HB4.out⟩
          clear y14 HV hne
          go_loopw [27] (fun vi wr => ∃ j : Nat, vi = .int .i64 j ∧ j ≤ 3 ∧ fst0 (fst0 ckR) ([m.a, m.u, m.m].drop j) = VV ∧ Below W.heap.size W wr) (fun vi _ => 3 - (intOf vi).toNat)
          case atStart => exact HST.out
          case round =>
            obtain ⟨j, rfl, hj, hd, hb⟩ := hrel
            have HD := Lib.hid hd
            have HB := Lib.hid hb
            clear hd hb HST
            rcases Nat.lt_or_ge j 3 with hlt | hge
            · obtain ⟨A, c, hrow, hcell, hidx, hfit, hlen⟩ := HRow.out j hlt
              have hy := hcell _ HB.out
              have hdr := rows_drop m hlt
              have hfr := firstR_any _ _ wr (hrow.below (HEnt.out _ HB.out)) (fun x hx => (hfit x hx).next (HEnt.out _ HB.out))
              obtain ⟨L, hL⟩ : ∃ L, rowAt m j = L := ⟨_, rfl⟩
              rw [hL] at hy hdr hfr hlen
              obtain ⟨cr, hcr⟩ : ∃ c, fst0 ckR L = c := ⟨_, rfl⟩
              rw [hcr] at hdr hfr
              have HDr := Lib.hid hdr
              have HFr := Lib.hid hfr
              clear hrow hcell hfit hdr hfr hL hcr
              by_cases hz : cr = 0
              · subst hz
                have hne : ((((0 : Nat) : Nat) : Int) != 0) = false := rfl
                go_wp2_with (go_at_call 63; (with_reducible refine HFr.out.mono ?_); rintro e w5 ⟨rfl, hb5⟩; have HB5 := Lib.hid (HB.out.trans (hb5.mono HB.out.size)); clear hb5)
                go_roundw
                case rel => exact ⟨j + 1, by go_num, hlt, by rw [← HD.out, HDr.out]; rfl, HB5.out⟩
                case measure => simp [intOf]; omega
              · have hne : (((cr : Nat) : Int) != 0) = true := by simpa using hz
                have hVc : VV = cr := by rw [← HD.out, HDr.out, if_neg hz]
                subst hVc
                go_wp2_with (go_at_call 63; (with_reducible refine HFr.out.mono ?_); rintro e w5 ⟨rfl, hb5⟩; have HB5 := Lib.hid (HB.out.trans (hb5.mono HB.out.size)); clear hb5)
                go_ret
                exact ⟨rfl, HEnt.out _ HB5.out⟩
            · obtain rfl : j = 3 := by omega
              have hV0 : VV = 0 := by rw [← HD.out]; rfl
              subst hV0
              go_wp2
              go_ret
              exact ⟨rfl, HEnt.out _ HB.out⟩
      · as_aux_lemma =>
          have hne : (((cq0 : Nat) : Int) != 0) = true := by simpa using hq
          have hVc : VV = cq0 := by rw [HV.out, if_neg (by simp), if_neg (by simp), if_pos hq]
          subst hVc
          go_wp2_with (first | (go_at_call 61; (with_reducible refine (HFq.out _ (HEnt.out _ HBE.out)).mono ?_); rintro e w3 ⟨rfl, hb3⟩; have HB3 := Lib.hid (HBE.out.trans (hb3.mono HBE.out.size)); clear hb3))
          go_ret
          exact ⟨rfl, HEnt.out _ HB3.out⟩
  · have hne : (((ch : Nat) : Int) != 0) = true := by simpa using h0
    have hVc : VV = ch := by rw [HV.out, if_pos h0]
    subst hVc
    go_enter Tryz.func22, Tryz.ntmps22
    go_wp2_with (first | (refine wpList_box1 rfl 54 (.tmp 0) rfl V _ rfl HBx.out ?_) | (refine wpList_load1 rfl 50 (.tmp 8) rfl _ Vh rfl (HLdH.out _ (Below.refl _ _)) ?_) | fail)
    refine (HH.out _).mono ?_
    rintro e w1 ⟨rfl, hb1⟩
    have HB1 := Lib.hid hb1
    clear hb1
    go_wp2
    go_ret
    exact ⟨rfl, HEnt.out _ HB1.out⟩
end Go.Proofs.YtadeflehdfmilaaGreat
