/-
  The first free address: the walk of next. Conditions: the laid tables' cells (Ground).
-/
import Derived.Test.YthlabpbplikjbaaDoorZk28
namespace Go.Proofs.YthlabpbplikjbaaDoor
open Go.RowKit Go.Maps Go.Shelf
set_option linter.unusedVariables false
attribute [local go_sem] Oper.semAt_some

section
variable {w w1 W : World} {g : Nat} {t : TypeId} {x0 x1 x2 y0 y1 y2 u v : Value}
theorem nx_ad (h : Lies W g t #[x0, x1, x2]) : Lies ((((W.setCell ⟨g, 0, none⟩ y0).setCell ⟨g, 1, none⟩ y1).setCell ⟨g, 2, none⟩ y2).setCell ⟨g + 1, 0, none⟩ v) g t #[y0, y1, y2] := (((h.set 0 y0).set 1 y1).set 2 y2).setOther (by omega) v
theorem nx_box (h : Boxed W (g + 1) t u) : Boxed ((((W.setCell ⟨g, 0, none⟩ y0).setCell ⟨g, 1, none⟩ y1).setCell ⟨g, 2, none⟩ y2).setCell ⟨g + 1, 0, none⟩ v) (g + 1) t v :=
  Boxed.set v (W := ((W.setCell ⟨g, 0, none⟩ y0).setCell ⟨g, 1, none⟩ y1).setCell ⟨g, 2, none⟩ y2) (v := u) ((((show Lies W (g + 1) t #[u] from h).setOther (by omega) y0).setOther (by omega) y1).setOther (by omega) y2)
theorem nx_def {D n : Nat} {o : Obj} (h : W.heap[D]? = some o) (hD : n ≤ D) (hg : g + 1 < n) : ((((W.setCell ⟨g, 0, none⟩ y0).setCell ⟨g, 1, none⟩ y1).setCell ⟨g, 2, none⟩ y2).setCell ⟨g + 1, 0, none⟩ v).heap[D]? = some o := by
  rw [heap_setCell_other _ _ _ _ (show D ≠ g + 1 by omega), heap_setCell_other _ _ _ _ (show D ≠ g by omega), heap_setCell_other _ _ _ _ (show D ≠ g by omega), heap_setCell_other _ _ _ _ (show D ≠ g by omega)]
  exact h
theorem nx_bel (h : Below w.heap.size w W) : Below w.heap.size w ((((W.setCell ⟨w.heap.size + 1, 0, none⟩ y0).setCell ⟨w.heap.size + 1, 1, none⟩ y1).setCell ⟨w.heap.size + 1, 2, none⟩ y2).setCell ⟨w.heap.size + 1 + 1, 0, none⟩ v) :=
  (((h.setCell (p := ⟨w.heap.size + 1, 0, none⟩) (by simp) _).setCell (p := ⟨w.heap.size + 1, 1, none⟩) (by simp) _).setCell (p := ⟨w.heap.size + 1, 2, none⟩) (by simp) _).setCell (p := ⟨w.heap.size + 1 + 1, 0, none⟩) (by simp; omega) _
end
set_option maxRecDepth 100000 in
set_option maxHeartbeats 8000000 in
theorem pnext_any {w : World} {B : PB} {p : PoolD} {H : List Hd} (hG : Ground w) (h : PoolAt w B p H) {F : ByteArray} {k : List UInt8} (hF : bs F = k) (hk : foldN k = k) (hs : F.size ≤ maxLen) :
    Calls Tryd.prog 45 #[.pointer (some ⟨B.g, 0, none⟩), .string F] w fun e w' => e = .returned (.tuple #[av (p.nextA H k), .bool (p.nextB H k)]) ∧ Below w.heap.size w w' := by
  obtain ⟨W, hW⟩ : ∃ W, ((w.alloc (.cells #[.pointer (some ⟨B.g, 0, none⟩)] 23)).alloc (.cells #[.bool false, .int .u64 0, .int .u64 0] 29)).alloc (.cells #[.bool false] 4) = W := ⟨_, rfl⟩
  have hbW : Below w.heap.size w W := by rw [← hW]; exact (((Below.refl _ _).alloc (Nat.le_refl _) _).alloc (by simp) _).alloc (by simp; omega) _
  have hzW : W.heap.size = w.heap.size + 3 := by rw [← hW]; simp
  have hp0 : Boxed W w.heap.size 23 (.pointer (some ⟨B.g, 0, none⟩)) := by rw [← hW]; exact ((Boxed.new w _ _).alloc _).alloc _
  have hr0 : Lies W (w.heap.size + 1) 29 #[.bool false, .int .u64 0, .int .u64 0] := by
    rw [← hW]
    have := (Lies.new (w.alloc (.cells #[.pointer (some ⟨B.g, 0, none⟩)] 23)) 29 #[.bool false, .int .u64 0, .int .u64 0]).alloc (.cells #[.bool false] 4)
    rwa [World.size_alloc] at this
  have hr1 : Boxed W (w.heap.size + 2) 4 (.bool false) := by
    rw [← hW]
    have := Boxed.new ((w.alloc (.cells #[.pointer (some ⟨B.g, 0, none⟩)] 23)).alloc (.cells #[.bool false, .int .u64 0, .int .u64 0] 29)) 4 (.bool false)
    simp only [World.size_alloc] at this
    exact this
  have hpW : PoolAt W B p H := h.next hbW
  have HW := Lib.hid hW
  have HFr := Lib.hid (pFree_any hpW)
  have HPW := Lib.hid hpW
  have HGW := Lib.hid (hG.next hbW)
  have HBW := Lib.hid hbW
  have HZW := Lib.hid hzW
  have HR0 := Lib.hid hr0
  have HR1 := Lib.hid hr1
  have HP0 := Lib.hid hp0
  have hc0 := hp0.cell
  have hfull := h.wf.full h.ok k
  have hle := h.wf.le
  clear hW hbW hzW hr0 hr1 hpW hp0 hG
  have HHP := Lib.hid fun wx => Probe_any (n := F) hs (k := (p.sz : Int)) (by have := h.ok.pos.2; omega) wx
  have hok := h.ok
  have hpos := hok.pos
  have hwf := h.wf
  obtain ⟨s0, s1⟩ := slotH_range k (k := (p.sz : Int)) (by omega)
  rw [hF] at HHP
  obtain ⟨sz, hsz⟩ : ∃ sz, p.sz = sz := ⟨_, rfl⟩
  rw [hsz] at HHP hpos s0 s1
  have HSZ := Lib.hid hsz
  have htour : Hid (∀ x pre, pre ++ [x] <+: rnd (slotH k (sz : Int)) (sz : Int) → pre ++ [x] <+: p.tour k) := Lib.hid (fun x pre hx => by unfold PoolD.tour; rw [hsz]; exact hx)
  have hall : Hid (∀ x, x ∈ rnd (slotH k (sz : Int)) (sz : Int) ↔ 0 ≤ x ∧ x < sz) := Lib.hid (fun x => mem_rnd s0 s1)
  have hnone : Hid ((∀ y ∈ rnd (slotH k (sz : Int)) (sz : Int), p.freeJ H y.toNat = false) → p.first H k = none) := Lib.hid (fun h => by
    unfold PoolD.first PoolD.tour
    rw [hsz, List.find?_eq_none]
    intro y hy
    rw [h y hy]
    decide)
  obtain ⟨sl, hsl⟩ : ∃ sl, slotH k (sz : Int) = sl := ⟨_, rfl⟩
  rw [hsl] at HHP htour hall hnone s0 s1
  refine (callsIn_wide (n := 21)).1 ?_
  refine callsIn_of_wp_marks Tryd.func45 rfl trivial ?_ rfl
  simp only [Tryd.ntmps45, List.size_toArray, List.length_cons, List.length_nil, Nat.reduceAdd, Nat.reduceSub, Array.replicate_succ, Array.replicate_zero, List.push_toArray, List.append_toArray, List.nil_append, List.cons_append]
  refine wpIn_wide.2 ?_
  by_cases hz : p.room - H.length = 0
  · obtain ⟨eA, eB⟩ := first_non (hfull.2 (by omega))
    rw [eA, eB]
    rw [hz] at HFr
    clear hfull hle hz hk hF eA eB hs h hok hpos hwf HHP htour hall hnone s0 s1 hsl hsz
    go_wp2_with fail
    rw [HW.out]
    go_wp2_with fail
    refine HFr.out.mono ?_
    rintro e w1 ⟨rfl, nd, rfl⟩
    have hl0 : Lies (W.drewN nd) (w.heap.size + 1) 29 #[.bool false, .int .u64 0, .int .u64 0] := HR0.out.drewN nd
    have hl1 : Boxed (W.drewN nd) (w.heap.size + 2) 4 (.bool false) := HR1.out
    have hbx : Below w.heap.size w (W.drewN nd) := HBW.out.trans ⟨rfl, rfl, rfl, Nat.le_refl _, fun _ _ => rfl⟩
    obtain ⟨W1, hW1⟩ : ∃ W1, W.drewN nd = W1 := ⟨_, rfl⟩
    rw [hW1] at hl0 hl1 hbx
    rw [hW1]
    obtain ⟨⟨a0, a1, a2⟩, b0, b1, b2⟩ := ad_cells hl0
    have a3 := hl1.cell
    have b3 := hl1.frozen
    have HL0 := Lib.hid hl0
    have HL1 := Lib.hid hl1
    have HBX := Lib.hid hbx
    clear hl0 hl1 hbx hW1
    go_wp2
    refine ⟨_, ret_nx rfl _ _ (w.heap.size + 1) noA false rfl rfl (nx_ad HL0.out) (nx_box HL1.out), rfl, nx_bel HBX.out⟩
  · obtain ⟨fr, hfr⟩ : ∃ fr, p.room - H.length = fr := ⟨_, rfl⟩
    rw [hfr] at HFr hz
    have hzI : ((fr : Int) == 0) = false := by simpa using hz
    have HPo := Lib.hid h.obj
    obtain ⟨⟨ns, nh, nl⟩, hna⟩ : ∃ a, p.nextA H k = a := ⟨_, rfl⟩
    obtain ⟨nb, hnb⟩ : ∃ b, p.nextB H k = b := ⟨_, rfl⟩
    have HNA := Lib.hid (And.intro hna hnb)
    rw [hna, hnb]
    clear hna hnb
    clear hfull hle hz hfr hk hF hs h hsl
    go_wp2_with fail
    rw [HW.out]
    go_wp2_with fail
    refine HFr.out.mono ?_
    rintro e w1 ⟨rfl, nd, rfl⟩
    have hp1 : PoolAt (W.drewN nd) B p H := HPW.out.drewN nd
    have hl0 : Lies (W.drewN nd) (w.heap.size + 1) 29 #[.bool false, .int .u64 0, .int .u64 0] := HR0.out.drewN nd
    have hl1 : Boxed (W.drewN nd) (w.heap.size + 2) 4 (.bool false) := HR1.out
    have hl2 : Boxed (W.drewN nd) w.heap.size 23 (.pointer (some ⟨B.g, 0, none⟩)) := HP0.out
    have hdb : Below W.heap.size W (W.drewN nd) := ⟨rfl, rfl, rfl, Nat.le_refl _, fun _ _ => rfl⟩
    have hbx : Below w.heap.size w (W.drewN nd) := HBW.out.trans (hdb.mono HBW.out.size)
    have hG1 : Ground (W.drewN nd) := HGW.out.next hdb
    have hsz1 : (W.drewN nd).heap.size = w.heap.size + 3 := HZW.out
    obtain ⟨W1, hW1⟩ : ∃ W1, W.drewN nd = W1 := ⟨_, rfl⟩
    rw [hW1] at hp1 hl0 hl1 hl2 hbx hG1 hsz1
    rw [hW1]
    clear hW1 hdb HW HFr HPW HGW HBW HZW HR0 HR1 HP0 hc0
    have c0 := hl2.cell
    have c4 : W1.cell? ⟨B.g, 4, none⟩ = some (.slice (some ⟨B.s, 0, none⟩) p.sz p.sz) := hp1.obj.cell 4
    rw [HSZ.out] at c4
    have HPA := Lib.hid hp1
    have HL0 := Lib.hid hl0
    have HL1 := Lib.hid hl1
    have HL2 := Lib.hid hl2
    have HBX := Lib.hid hbx
    have HG1 := Lib.hid hG1
    have HS1 := Lib.hid hsz1
    clear hp1 hl0 hl1 hl2 hbx hG1 hsz1
    go_wp2_with fail
    refine (HHP.out _).mono ?_
    rintro e w2 ⟨v, g, rfl, hv⟩
    obtain ⟨hval, hb2, hge, hlt, b1, b2⟩ := hv
    subst hval
    have hnn := not_nil g
    have HPA2 := Lib.hid (HPA.out.next hb2)
    have HL02 := Lib.hid (HL0.out.next hb2)
    have HL12 : Hid (Boxed w2 (w.heap.size + 2) 4 (.bool false)) := Lib.hid (Lies.next HL1.out hb2)
    have HL22 : Hid (Boxed w2 w.heap.size 23 (.pointer (some ⟨B.g, 0, none⟩))) := Lib.hid (Lies.next HL2.out hb2)
    have HB2 := Lib.hid (HBX.out.trans (hb2.mono HBX.out.size))
    have HG2 := Lib.hid (HG1.out.next hb2)
    have hge3 : w.heap.size + 3 ≤ g := by have := HS1.out; omega
    have HQ1 := Lib.hid b1
    have HQ2 := Lib.hid b2
    clear HPA HL0 HL1 HL2 HBX HG1 HS1 hb2 hge b1 b2 c0 c4
    go_wp2
    clear hnn
    refine (wpIn_wide (n := 20)).1 ?_
    refine range_own1 rfl (by decide) (gf := 105) (bd := #[]) (lb := #[.pointer (some ⟨g, 0, none⟩), .pointer (some ⟨g + 1, 0, none⟩)]) rfl trivial (enters_of Tryd.func105 (by kernel_rfl) rfl)
      (round_seq _ g (by decide) sl (sz : Int) w2 s0 (by omega) (by omega) (by omega) HQ1.out HQ2.out) (Below.refl _ _) (fun b h => by rcases h with rfl | rfl <;> omega) (fun _ => rfl)
      (NI w2 (w.heap.size + 1) p H) (fun c pre W => c = .ret ∧ NX w (w.heap.size + 1) p H k W) (fun T => ni_own T (Nat.le_refl _)) ?hIx (fun _ e => by cases e) ?hfresh
      (T9 (w.heap.size + 1)) (fun b h => by unfold T9; rcases h with rfl | rfl <;> omega) ⟨rfl, fun y hy => (by cases hy), Below.refl _ _⟩ ?a1 ?assign ?body ?done ?stop
    case hIx =>
      intro c s X Y row hs hg hr
      exact ⟨hs.1, nx_own (n := w2.heap.size) (by omega) HB2.out.size () X Y row hs.2 hg hr⟩
    case hfresh =>
      intro pre T W hI b hb hT
      rw [hI.eT] at hT
      have := hI.bel.size
      unfold T9 at hT
      omega
    case assign =>
      intro l2 x W' K hK
      gi_wp2
      exact hK
    case body =>
      rintro l2 pre x T W _ _ hI hlt
      obtain ⟨x0, x1⟩ := (hall.out x).1 (hlt.subset (by simp))
      have HT := Lib.hid (htour.out x pre hlt)
      obtain ⟨xn, rfl⟩ : ∃ xn : Nat, x = xn := ⟨x.toNat, by omega⟩
      have hxn : xn < sz := by omega
      have hpl : xn < p.sz := by rw [HSZ.out]; exact hxn
      obtain rfl := hI.eT
      have hpW := HPA2.out.next hI.bel
      have c0 : W.cell? ⟨w.heap.size, 0, none⟩ = some (.pointer (some ⟨B.g, 0, none⟩)) := (show Boxed W w.heap.size 23 _ from Lies.next HL22.out hI.bel).cell
      have c4 : W.cell? ⟨B.g, 4, none⟩ = some (.slice (some ⟨B.s, 0, none⟩) p.sz p.sz) := hpW.obj.cell 4
      rw [HSZ.out] at c4
      obtain ⟨sb, hsb⟩ : ∃ sb, okP p.r p.R xn = sb := ⟨_, rfl⟩
      have c5 : W.cell? ⟨B.s, xn, none⟩ = some (.bool (!sb)) := by
        rw [hpW.row.cell xn, ← hsb]
        simp [PoolD.shut, hpl]
      have HI := Lib.hid hI
      have HX : Hid ((xn : Int) < sz ∧ 0 ≤ (xn : Int)) := Lib.hid ⟨x1, x0⟩
      cases sb with
      | false =>
        have hfj : Hid (p.freeJ H xn = false) := Lib.hid (by unfold PoolD.freeJ; rw [hsb]; rfl)
        have hstep : Hid (∀ W', Below W.heap.size W W' → NI w2 (w.heap.size + 1) p H (pre ++ [(xn : Int)]) (T9 (w.heap.size + 1)) W') := Lib.hid fun W' hb => ⟨rfl, fun y hy => by
          rcases List.mem_append.1 hy with h' | h'
          · exact HI.out.no y h'
          · rw [List.mem_singleton] at h'; subst h'; simpa using hfj.out, HI.out.bel.trans (hb.mono HI.out.bel.size)⟩
        clear hI hlt hpl hpW hsb
        gi_wp2
        exact ⟨_, Kpt.refl _ _, hstep.out _ (Below.refl _ _)⟩
      | true =>
        obtain ⟨⟨ts, th, tl⟩, htl⟩ : ∃ a, plR p.r xn = a := ⟨_, rfl⟩
        have gA := Lib.hid (gAr (six := p.r.1) (hi := p.r.2.1) (lo := p.r.2.2) (n := p.b) (i := (xn : Int)) (s := ts) (ah := th) (al := tl) (is := true) hok.fit (by rw [← htl]; exact at_pl hok.fit hpl))
        have hfa : fitA (ts, th, tl) := by rw [← htl]; exact pl_fit hok.fit hpl
        have r0 : W.cell? ⟨B.g, 0, none⟩ = some (.bool p.r.1) := hpW.obj.cell 0
        have r1 : W.cell? ⟨B.g, 1, none⟩ = some (.int .u64 (p.r.2.1 : Int)) := hpW.obj.cell 1
        have r2 : W.cell? ⟨B.g, 2, none⟩ = some (.int .u64 (p.r.2.2 : Int)) := hpW.obj.cell 2
        have r3 : W.cell? ⟨B.g, 3, none⟩ = some (.int .i64 p.b) := hpW.obj.cell 3
        obtain ⟨b, hb⟩ : ∃ b, (findA H (ts, th, tl)).isSome = b := ⟨_, rfl⟩
        obtain ⟨xs1, x1', x2', x3', hv⟩ : ∃ s x1 x2 x3, hostV H (ts, th, tl) = .agg #[.string s, .bool x1, .int .u64 x2, .int .u64 x3] := by
          unfold hostV
          cases findA H (ts, th, tl) with
          | some y => exact ⟨_, _, _, _, rfl⟩
          | none => exact ⟨_, _, _, _, rfl⟩
        have HQ : Hid (∀ wx, Below w2.heap.size w2 wx → wx.cell? ⟨w.heap.size, 0, none⟩ = some (.pointer (some ⟨B.g, 0, none⟩)) ∧ wx.cell? ⟨B.g, 7, none⟩ = some (.map (some B.h)) ∧ (Instr.lookup 71 (.map (some B.h)) (.agg #[.bool ts, .int .u64 (th : Int), .int .u64 (tl : Int)]) true).run Tryd.prog wx = .ok (.tuple #[.agg #[.string xs1, .bool x1', .int .u64 x2', .int .u64 x3'], .bool b]) wx ∧ Lies wx (w.heap.size + 1) 29 #[.bool false, .int .u64 0, .int .u64 0] ∧ Lies wx (w.heap.size + 2) 4 #[.bool false]) := Lib.hid fun wx hbx => ⟨(show Boxed wx w.heap.size 23 _ from Lies.next HL22.out hbx).cell, (HPA2.out.next hbx).obj.cell 7, by
            have := (HPA2.out.next hbx).addr_any hfa
            rw [hv, hb] at this
            exact this, HL02.out.next hbx, Lies.next HL12.out hbx⟩
        have HGW := Lib.hid (HG2.out.next hI.bel)
        have hfree : Hid (p.freeJ H xn = !b) := Lib.hid (by
          unfold PoolD.freeJ
          rw [hsb, htl, Bool.true_and, ← hb]
          cases findA H (ts, th, tl) <;> rfl)
        have HTL := Lib.hid htl
        clear hI hlt hpl hpW hsb hb hv hfa htl
        gi_wp2_with (refine ⟨trivial, ?_⟩; gi_at_call 69; refine (CallsIn.inRound l2 (callsIn_wide.2 (gA.out.go _ HGW.out))).mono ?_; rintro e w3 ⟨rfl, hb3⟩)
        obtain ⟨W4, hW4⟩ : ∃ W4, w3.alloc (.cells #[.bool ts, .int .u64 (th : Int), .int .u64 (tl : Int)] 29) = W4 := ⟨_, rfl⟩
        have hbW4 : Below W.heap.size W W4 := by rw [← hW4]; exact hb3.alloc hb3.size _
        have hl4 : Lies W4 w3.heap.size 29 #[.bool ts, .int .u64 (th : Int), .int .u64 (tl : Int)] := by rw [← hW4]; exact Lies.new _ _ _
        have hs4 : W4.heap.size = w3.heap.size + 1 := by rw [← hW4]; simp
        have hw3 := hb3.size
        rw [hW4]
        obtain ⟨g7, hg7⟩ : ∃ g7, w3.heap.size = g7 := ⟨_, rfl⟩
        rw [hg7] at hl4 hs4 hw3 ⊢
        have HB4 := Lib.hid hbW4
        have HL4 := Lib.hid hl4
        have HS4 := Lib.hid hs4
        have HW3 := Lib.hid hw3
        have hb5 : Below w2.heap.size w2 W4 := HI.out.bel.trans (hbW4.mono HI.out.bel.size)
        have HB5 := Lib.hid hb5
        clear hbW4 hl4 hs4 hw3 hW4 hg7 hb3 c0 c4 c5 r0 r1 r2 r3
        have hb6 : Below w2.heap.size w2 (W4.alloc (.cells #[.string ⟨#[]⟩, .bool false, .int .u64 0, .int .u64 0] 61)) := hb5.alloc hb5.size _
        obtain ⟨e0, e1, e2, _, _⟩ := HQ.out _ hb5
        obtain ⟨d0, d1, d2, _, _⟩ := HQ.out _ hb6
        obtain ⟨_, _, e3, _, _⟩ := HQ.out _ hb5.drew
        obtain ⟨_, _, d3, _, _⟩ := HQ.out _ hb6.drew
        obtain ⟨⟨f0, f1, f2⟩, _⟩ := ad_cells HL4.out
        obtain ⟨⟨k0, k1, k2⟩, _⟩ := ad_cells (HL4.out.alloc (.cells #[.string ⟨#[]⟩, .bool false, .int .u64 0, .int .u64 0] 61))
        clear hb5 hb6
        gi_wp2
        gi_region
        all_goals
          have hX1 : Below W4.heap.size W4 (W4.alloc (.cells #[.string xs1, .bool x1', .int .u64 x2', .int .u64 x3'] 61)).drew := ((Below.refl _ _).alloc (Nat.le_refl _) _).drew
          obtain ⟨X, hX⟩ : ∃ X, (W4.alloc (.cells #[.string xs1, .bool x1', .int .u64 x2', .int .u64 x3'] 61)).drew = X := ⟨_, rfl⟩
          rw [hX] at hX1 ⊢
          clear hX
          have hXW := HB4.out.trans (hX1.mono HB4.out.size)
          have hX2 := HB5.out.trans (hX1.mono HB5.out.size)
          have hla := HL4.out.next hX1
          obtain ⟨_, _, _, hlr, hlb⟩ := HQ.out _ hX2
          obtain ⟨⟨f0, f1, f2⟩, _⟩ := ad_cells hla
          obtain ⟨⟨k0, k1, k2⟩, l0, l1, l2⟩ := ad_cells hlr
          have k3 := (show Boxed X (w.heap.size + 2) 4 (.bool false) from hlb).cell
          have l3 := (show Boxed X (w.heap.size + 2) 4 (.bool false) from hlb).frozen
          have HXW := Lib.hid hXW
          have HX2 := Lib.hid hX2
          have HLR := Lib.hid hlr
          have HLB := Lib.hid hlb
          clear hX1 hXW hX2 hla hlr hlb
        all_goals
          cases b with
          | true =>
            have hstep : Hid (NI w2 (w.heap.size + 1) p H (pre ++ [(xn : Int)]) (T9 (w.heap.size + 1)) X) := Lib.hid ⟨rfl, fun y hy => by
              rcases List.mem_append.1 hy with h' | h'
              · exact HI.out.no y h'
              · rw [List.mem_singleton] at h'; subst h'; simpa using hfree.out, HX2.out⟩
            gi_wp2
            exact ⟨_, Kpt.below HXW.out, hstep.out⟩
          | false =>
            have hF := first_of HT.out HI.out.no (by simpa using hfree.out)
            have hk : Hid (Kpt (T9 (w.heap.size + 1)) (T9 (w.heap.size + 1)) W ((((X.setCell ⟨w.heap.size + 1, 0, none⟩ (.bool ts)).setCell ⟨w.heap.size + 1, 1, none⟩ (.int .u64 (th : Int))).setCell ⟨w.heap.size + 1, 2, none⟩ (.int .u64 (tl : Int))).setCell ⟨w.heap.size + 1 + 1, 0, none⟩ (.bool true)) ∧ NX w (w.heap.size + 1) p H k ((((X.setCell ⟨w.heap.size + 1, 0, none⟩ (.bool ts)).setCell ⟨w.heap.size + 1, 1, none⟩ (.int .u64 (th : Int))).setCell ⟨w.heap.size + 1, 2, none⟩ (.int .u64 (tl : Int))).setCell ⟨w.heap.size + 1 + 1, 0, none⟩ (.bool true))) := Lib.hid (by
              refine ⟨((((Kpt.below HXW.out).trans (Kpt.setCell (.inl rfl) _)).trans (Kpt.setCell (.inl rfl) _)).trans (Kpt.setCell (.inl rfl) _)).trans (Kpt.setCell (.inr rfl) _), ?_, ?_, ?_⟩
              · rw [hF.1, Int.toNat_natCast, HTL.out]; exact nx_ad HLR.out
              · rw [hF.2]; exact nx_box (g := w.heap.size + 1) HLB.out
              · exact nx_bel (HB2.out.trans (HX2.out.mono HB2.out.size)))
            clear hF
            gi_wp2
            exact ⟨_, hk.out.1, rfl, hk.out.2⟩
    case done =>
      rintro D xs T W hD hnD rfl hI hK
      have hfn := hnone.out hI.no
      obtain ⟨eA, eB⟩ := first_non hfn
      rw [HNA.out.1] at eA
      rw [HNA.out.2] at eB
      subst eB
      obtain ⟨rfl, rfl, rfl⟩ : ns = false ∧ nh = 0 ∧ nl = 0 := by unfold noA at eA; simpa using eA
      have HI := Lib.hid hI
      have hl0 := HL02.out.next hI.bel
      have hl1 : Boxed W (w.heap.size + 2) 4 (.bool false) := Lies.next HL12.out hI.bel
      obtain ⟨⟨a0, a1, a2⟩, d0, d1, d2⟩ := ad_cells hl0
      have a3 := hl1.cell
      have d3 := hl1.frozen
      have HLa := Lib.hid hl0
      have HLb := Lib.hid hl1
      have HD : Hid (w2.heap.size ≤ D) := Lib.hid hD
      have HK := Lib.hid hK
      clear hl0 hl1 hI hfn eA hD hnD
      go_wp2
      have hK2 := nx_def (g := w.heap.size + 1) (y0 := .bool false) (y1 := .int .u64 0) (y2 := .int .u64 0) (v := .bool false) (n := w2.heap.size) HK.out HD.out (by have := HQ1.out; omega)
      have hx1 := nx_ad (y0 := .bool false) (y1 := .int .u64 0) (y2 := .int .u64 0) (v := .bool false) HLa.out
      have hx2 := nx_box (y0 := .bool false) (y1 := .int .u64 0) (y2 := .int .u64 0) (v := .bool false) (g := w.heap.size + 1) HLb.out
      have hx3 := nx_bel (y0 := .bool false) (y1 := .int .u64 0) (y2 := .int .u64 0) (v := .bool false) (HB2.out.trans (HI.out.bel.mono HB2.out.size))
      refine ⟨by simp, .inl ⟨_, _, rfl, run_takeDeferred hK2, ?_⟩⟩
      have hbk := belowK_b (w := w2) (Nat.le_refl _) _ D _ (.deferred none) HD.out hK2 rfl rfl
      refine ⟨_, ret_nx rfl _ _ (w.heap.size + 1) (false, 0, 0) false rfl rfl (hx1.below hbk (by omega)) (Lies.below hx2 hbk (by omega)), rfl, ?_⟩
      exact hx3.trans (hbk.mono HB2.out.size)
    case stop =>
      rintro D c pre W hD hS ⟨rfl, hX⟩ hK
      have HX := Lib.hid hX
      have HD : Hid (w2.heap.size ≤ D) := Lib.hid hD
      clear hX hS hD
      gi_wp2
      refine ⟨by simp, .inl ⟨_, _, rfl, run_takeDeferred hK, ?_⟩⟩
      have hbk := belowK_b (w := w2) (Nat.le_refl _) W D _ (.deferred none) HD.out hK rfl rfl
      have hX := HX.out
      rw [← HNA.out.1, ← HNA.out.2]
      refine ⟨_, ret_nx rfl _ _ (w.heap.size + 1) (p.nextA H k) (p.nextB H k) rfl rfl (hX.ad.below hbk (by omega)) (Lies.below hX.yes hbk (by omega)), rfl, ?_⟩
      exact hX.bel.trans (hbk.mono HB2.out.size)
end Go.Proofs.YthlabpbplikjbaaDoor
