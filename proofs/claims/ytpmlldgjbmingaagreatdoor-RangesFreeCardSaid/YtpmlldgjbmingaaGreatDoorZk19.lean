/-
  ranges.Free: how many places of a range are in none of the reserved ones: the walk. Conditions: as each theorem names them.
-/
import Derived.Test.YtpmlldgjbmingaaGreatDoorZk18
import Derived.Shelf.RegionOpen
namespace Go.Proofs.YtpmlldgjbmingaaGreatDoor
open Go.RowKit Go.Maps Go.Shelf
set_option linter.unusedVariables false
attribute [local go_sem] Oper.semAt_some

set_option maxRecDepth 100000 in
set_option maxHeartbeats 4000000 in
theorem Free_core (six : Bool) (hi lo : Nat) (n : Int) (v : Value) (sz : Nat) (L : List (Ad × Int)) (w : World) (hf : fitA (six, hi, lo)) (hL : ∀ o ∈ L, fitA o.1) (hz : sizeR (six, hi, lo) n = sz) (hsz : sz ≤ 65536) (hM : ∀ a, runsR (six, hi, lo) n L a ≤ 65536)
    (hSz : ∀ wx, Below w.heap.size w wx → Calls Tryz.prog 32 #[.agg #[.bool six, .int .u64 (hi : Int), .int .u64 (lo : Int), .int .i64 n]] wx fun e w' => e = .returned (.int .i64 (sz : Int)) ∧ Below wx.heap.size wx w')
    (hRu : ∀ wx, Below w.heap.size w wx → Calls Tryz.prog 89 #[.agg #[.bool six, .int .u64 (hi : Int), .int .u64 (lo : Int), .int .i64 n], v] wx fun e w' => ∃ b, e = .returned (.map (some b)) ∧ wx.heap.size ≤ b ∧ MapA w' b L.length (runsR (six, hi, lo) n L) ∧ Below wx.heap.size wx w') :
    Calls Tryz.prog 35 #[.agg #[.bool six, .int .u64 (hi : Int), .int .u64 (lo : Int), .int .i64 n], v] w fun e w' => e = .returned (.int .i64 (freeR (six, hi, lo) n L : Nat)) ∧ Below w.heap.size w w' := by
  have HSz := Lib.hid hSz
  have HRu := Lib.hid hRu
  have HM := Lib.hid hM
  obtain ⟨z, hzz⟩ : ∃ z, freeR (six, hi, lo) n L = z := ⟨_, rfl⟩
  rw [hzz]
  have HZZ := Lib.hid hzz
  clear hSz hRu hM hzz
  refine (callsIn_wide (n := 19)).1 ?_
  refine callsIn_of_wp_marks Tryz.func35 rfl trivial ?_ rfl
  simp only [Tryz.ntmps35, List.size_toArray, List.length_cons, List.length_nil, Nat.reduceAdd, Nat.reduceSub, Array.replicate_succ, Array.replicate_zero, List.push_toArray, List.append_toArray, List.nil_append, List.cons_append]
  refine wpIn_wide.2 ?_
  go_wp2_with fail
  obtain ⟨W1, hW1⟩ : ∃ W1, w.alloc (.cells #[.bool six, .int .u64 (hi : Int), .int .u64 (lo : Int), .int .i64 n] 41) = W1 := ⟨_, rfl⟩
  have hr : Lies W1 w.heap.size 41 #[.bool six, .int .u64 (hi : Int), .int .u64 (lo : Int), .int .i64 n] := by rw [← hW1]; exact Lies.new _ _ _
  have hz1 : W1.heap.size = w.heap.size + 1 := by rw [← hW1]; simp
  have hB1 : Below w.heap.size w W1 := by rw [← hW1]; exact (Below.refl _ _).alloc (Nat.le_refl _) _
  rw [hW1]
  clear hW1
  refine wp_region_inv (by kernel_rfl) (by kernel_rfl) (fun f a w' => Frm { tmps := #[.agg #[.bool six, .int .u64 (hi : Int), .int .u64 (lo : Int), .int .i64 n], v, ppF w.heap.size, undef, .int .i64 0, undef, undef, undef, undef, undef, undef, undef, undef, undef, undef, undef, undef, undef, undef, undef, undef, undef, undef, undef, undef, undef, undef, undef, undef, undef, undef, undef, undef, undef, undef, undef, undef], defers := [] } r1S a ∧ Below W1.heap.size W1 w') (fun j a w' => FT sz L.length W1.heap.size (runsR (six, hi, lo) n L) v (.agg #[.bool six, .int .u64 (hi : Int), .int .u64 (lo : Int), .int .i64 n]) j a w') ⟨Frm.refl _ _, (Below.refl _ _).drew⟩ ?step ?fin
  case step =>
    intro f i o a wx D ho hf' hn hdep hcl hB hT
    obtain ⟨hF, hbx⟩ := hB
    have h2 := slot_nf (show slot a 2 = .pointer (some ⟨w.heap.size, 0, none⟩) from hF.old 2 (by decide))
    have h1 := slot_nf (show slot a 1 = v from hF.old 1 (by decide))
    have hcells := hr.below hbx (by omega)
    have c0 := hcells.cell 0
    have c1 := hcells.cell 1
    have c2 := hcells.cell 2
    have c3 := hcells.cell 3
    simp only [List.getElem?_toArray, List.getElem?_cons_zero, List.getElem?_cons_succ] at c0 c1 c2 c3
    rcases i with _ | _ | _ | _ | _ | _ | _ | _ | _ | i
    · simp only [List.getElem?_cons_zero, Option.some.injEq] at ho
      subst ho
      refine rg_op rfl rfl (rg_value (v := .agg #[.bool six, .int .u64 (hi : Int), .int .u64 (lo : Int), .int .i64 n]) (w' := wx) ?_ (r1_grow hF rfl hbx hT (d := 11) (by decide) ?_ _ (Below.refl _ _) (slot_self hF rfl (by decide) _)))
      · simp [execOp, h2, go_sem, c0, c1, c2, c3, Tryz.isAgg41, Tryz.sizeOf41]
      · intro j hj
        rcases j with _ | _ | _ | _ | _ | _ | _ | _ | _ | j <;> first | (simp [FS]; done) | exact absurd hj hn
    · simp only [List.getElem?_cons_zero, List.getElem?_cons_succ, Option.some.injEq] at ho
      subst ho
      have t0 := slot_nf (show slot a 11 = _ from hT 0 (hdep ⟨0, .data⟩ (by simp) rfl))
      refine rg_op rfl rfl (rg_call rfl (fun _ _ => by kernel_rfl) (args := #[.agg #[.bool six, .int .u64 (hi : Int), .int .u64 (lo : Int), .int .i64 n]]) (by simp [Act.eval, go_sem, t0]) ?_)
      refine (HSz.out wx (hB1.trans (hbx.mono hB1.size))).mono ?_
      rintro e w' ⟨rfl, hb⟩
      refine ⟨_, rfl, r1_grow hF rfl hbx hT (d := 12) (by decide) ?_ _ hb (slot_self hF rfl (by decide) _)⟩
      intro j hj
      rcases j with _ | _ | _ | _ | _ | _ | _ | _ | _ | j <;> first | (simp [FS]; done) | exact absurd hj hn
    · simp only [List.getElem?_cons_zero, List.getElem?_cons_succ, Option.some.injEq] at ho
      subst ho
      refine rg_op rfl rfl (rg_value (v := .agg #[.bool six, .int .u64 (hi : Int), .int .u64 (lo : Int), .int .i64 n]) (w' := wx) ?_ (r1_grow hF rfl hbx hT (d := 13) (by decide) ?_ _ (Below.refl _ _) (slot_self hF rfl (by decide) _)))
      · simp [execOp, h2, go_sem, c0, c1, c2, c3, Tryz.isAgg41, Tryz.sizeOf41]
      · intro j hj
        rcases j with _ | _ | _ | _ | _ | _ | _ | _ | _ | j <;> first | (simp [FS]; done) | exact absurd hj hn
    · simp only [List.getElem?_cons_zero, List.getElem?_cons_succ, Option.some.injEq] at ho
      subst ho
      refine rg_op rfl rfl (rg_value (v := v) (w' := wx) ?_ (r1_grow hF rfl hbx hT (d := 14) (by decide) ?_ _ (Below.refl _ _) (slot_self hF rfl (by decide) _)))
      · simp [execOp, h1, go_sem]
      · intro j hj
        rcases j with _ | _ | _ | _ | _ | _ | _ | _ | _ | j <;> first | (simp [FS]; done) | exact absurd hj hn
    · simp only [List.getElem?_cons_zero, List.getElem?_cons_succ, Option.some.injEq] at ho
      subst ho
      have t2 := slot_nf (show slot a 13 = _ from hT 2 (hdep ⟨2, .data⟩ (by simp) rfl))
      have t3 := slot_nf (show slot a 14 = _ from hT 3 (hdep ⟨3, .data⟩ (by simp) rfl))
      refine rg_op rfl rfl (rg_call rfl (fun _ _ => by kernel_rfl) (args := #[.agg #[.bool six, .int .u64 (hi : Int), .int .u64 (lo : Int), .int .i64 n], v]) (by simp [Act.eval, go_sem, t2, t3]) ?_)
      refine (HRu.out wx (hB1.trans (hbx.mono hB1.size))).mono ?_
      rintro e w' ⟨b, rfl, hbl, hMA, hb⟩
      refine ⟨_, rfl, r1_grow hF rfl hbx hT (d := 15) (by decide) ?_ _ hb ⟨b, slot_self hF rfl (by decide) _, Nat.le_trans hbx.size hbl, hMA⟩⟩
      intro j hj
      rcases j with _ | _ | _ | _ | _ | _ | _ | _ | _ | j <;> first | (simp [FS]; done) | exact absurd hj hn | exact absurd (hcl 8 _ rfl hj ⟨4, .data⟩ (by simp) rfl) hn
    · simp only [List.getElem?_cons_zero, List.getElem?_cons_succ, Option.some.injEq] at ho
      subst ho
      refine rg_op rfl rfl (rg_value (v := ppF wx.heap.size) (w' := wx.alloc (.cells #[.int .i64 0] 3)) ?_ (r1_grow hF rfl hbx hT (d := 5) (by decide) ?_ _ ((Below.refl _ _).alloc (Nat.le_refl _) _) ⟨_, _, slot_self hF rfl (by decide) _, hbx.size, Boxed.new _ _ _⟩))
      · simp [execOp, go_sem, ppF, Tryz.zeroValue3]
      · intro j hj
        rcases j with _ | _ | _ | _ | _ | _ | _ | _ | _ | j <;> first | (simp [FS]; done) | exact absurd hj hn | exact absurd (hcl 7 _ rfl hj ⟨5, .data⟩ (by simp) rfl) hn
    · simp only [List.getElem?_cons_zero, List.getElem?_cons_succ, Option.some.injEq] at ho
      subst ho
      refine rg_op rfl rfl (rg_value (v := ppF wx.heap.size) (w' := wx.alloc (.cells #[.map none] 100)) ?_ (r1_grow hF rfl hbx hT (d := 6) (by decide) ?_ _ ((Below.refl _ _).alloc (Nat.le_refl _) _) ⟨_, _, slot_self hF rfl (by decide) _, hbx.size, Boxed.new _ _ _⟩))
      · simp [execOp, go_sem, ppF, Tryz.zeroValue100]
      · intro j hj
        rcases j with _ | _ | _ | _ | _ | _ | _ | _ | _ | j <;> first | (simp [FS]; done) | exact absurd hj hn | exact absurd (hcl 8 _ rfl hj ⟨6, .data⟩ (by simp) rfl) hn
    · simp only [List.getElem?_cons_zero, List.getElem?_cons_succ, Option.some.injEq] at ho
      subst ho
      obtain ⟨g, u, e5, hlo, hg⟩ := hT 5 (hdep ⟨5, .data⟩ (by simp) rfl)
      have t1 := slot_nf (show slot a 12 = _ from hT 1 (hdep ⟨1, .data⟩ (by simp) rfl))
      have e5' := slot_nf e5
      have hfz := hg.frozen
      have hgc := hg.cell
      refine rg_op rfl rfl (rg_skip (w' := wx.setCell ⟨g, 0, none⟩ (.int .i64 (sz : Int))) ?_ ⟨⟨hF, hbx.setCell (p := ⟨g, 0, none⟩) hlo _⟩, ⟨g, e5, hlo, hg.set _⟩, fun j hj => (hT j hj).set5 e5 hg (fun e => by subst e; exact hn hj) _⟩)
      simp [execOp, e5', ppF, t1, go_sem, hfz, hgc]
    · simp only [List.getElem?_cons_zero, List.getElem?_cons_succ, Option.some.injEq] at ho
      subst ho
      obtain ⟨g, u, e6, hlo, hg⟩ := hT 6 (hdep ⟨6, .data⟩ (by simp) rfl)
      obtain ⟨b, e15, hlb, hMA⟩ := hT 4 (hdep ⟨4, .data⟩ (by simp) rfl)
      have e6' := slot_nf e6
      have e15' := slot_nf e15
      have hfz := hg.frozen
      have hgc := hg.cell
      refine rg_op rfl rfl (rg_skip (w' := wx.setCell ⟨g, 0, none⟩ (.map (some b))) ?_ ⟨⟨hF, hbx.setCell (p := ⟨g, 0, none⟩) hlo _⟩, ⟨g, b, e6, hlo, e15, hg.set _⟩, fun j hj => (hT j hj).set6 e6 hg (fun e => by subst e; exact hn hj) _⟩)
      simp [execOp, e6', ppF, e15', go_sem, hfz, hgc]
    · simp at ho
  case fin =>
    intro a wc hB hT
    obtain ⟨hF, hbx⟩ := hB
    obtain ⟨g5, e5, hl5, x5⟩ := hT 7 (by decide)
    obtain ⟨g6, b, e6, hl6, e15, x6⟩ := hT 8 (by decide)
    obtain ⟨b', e15', hlb, hMA⟩ := hT 4 (by decide)
    rw [e15] at e15'
    obtain rfl : b = b' := by simpa using e15'
    have t0 : slot a 11 = _ := hT 0 (by decide)
    have t1 : slot a 12 = _ := hT 1 (by decide)
    have t2 : slot a 13 = _ := hT 2 (by decide)
    have t3 : slot a 14 = _ := hT 3 (by decide)
    have he := hF.eq [(5, ppF g5), (6, ppF g6), (11, .agg #[.bool six, .int .u64 (hi : Int), .int .u64 (lo : Int), .int .i64 n]), (12, .int .i64 (sz : Int)), (13, .agg #[.bool six, .int .u64 (hi : Int), .int .u64 (lo : Int), .int .i64 n]), (14, v), (15, .map (some b))] rfl (show ([5, 6, 11, 12, 13, 14, 15] : List Nat).Nodup by decide) (by intro p hp; simp only [List.mem_cons, List.not_mem_nil, or_false] at hp; rcases hp with rfl | rfl | rfl | rfl | rfl | rfl | rfl <;> simp) (by intro p hp; simp only [List.mem_cons, List.not_mem_nil, or_false] at hp; rcases hp with rfl | rfl | rfl | rfl | rfl | rfl | rfl <;> assumption)
    rw [he]
    simp only [setAll, List.foldl_cons, List.foldl_nil, List.setIfInBounds_toArray, List.set_cons_succ, List.set_cons_zero]
    clear he hF hT t0 t1 t2 t3 e5 e6 e15 e15'
    obtain ⟨ob, hob⟩ : ∃ ob, wc.heap[b]? = some ob := ⟨_, Array.getElem?_eq_getElem hMA.lt⟩
    have hrc := hr.below hbx (by omega)
    have hbw : Below w.heap.size w wc := hB1.trans (hbx.mono hB1.size)
    have hzc : w.heap.size + 1 ≤ wc.heap.size := by have := hbx.size; omega
    have HMA := Lib.hid hMA
    unfold ppF
    clear hB1 hr hz1 HSz HRu
    have hb2 : Below wc.heap.size wc ((wc.alloc (.cells #[.int .i64 0] 3)).alloc (.cells #[.int .i64 0] 3)) := ((Below.refl _ _).alloc (Nat.le_refl _) _).alloc (by simp) _
    have y7 : Boxed ((wc.alloc (.cells #[.int .i64 0] 3)).alloc (.cells #[.int .i64 0] 3)) wc.heap.size 3 (.int .i64 0) := (Boxed.new _ _ _).alloc _
    have y8 : Boxed ((wc.alloc (.cells #[.int .i64 0] 3)).alloc (.cells #[.int .i64 0] 3)) (wc.heap.size + 1) 3 (.int .i64 0) := by
      have := Boxed.new (wc.alloc (.cells #[.int .i64 0] 3)) 3 (.int .i64 0)
      rwa [World.size_alloc] at this
    have hr2 := hrc.next hb2
    have k0 := hr2.cell 0
    have k1 := hr2.cell 1
    have k2 := hr2.cell 2
    simp only [List.getElem?_toArray, List.getElem?_cons_zero, List.getElem?_cons_succ] at k0 k1 k2
    go_wp2_with fail
    refine (behind_any six hi lo _).mono ?_
    rintro e W3 ⟨rfl, hW3⟩
    clear k0 k1 k2
    go_wp2
    obtain ⟨g, hg⟩ : ∃ g, wc.heap.size = g := ⟨_, rfl⟩
    rw [hg] at y7 y8
    obtain ⟨W0, hW0⟩ : ∃ W0, ((wc.alloc (.cells #[.int .i64 0] 3)).alloc (.cells #[.int .i64 0] 3)).alloc (.cells #[.bool six, .int .u64 (hi : Int), .int .u64 (lo : Int)] 24) = W0 := ⟨_, rfl⟩
    have hzW : W0.heap.size = g + 3 := by rw [← hW0, ← hg]; simp
    have h5g := x5.lt
    have h6g := x6.lt
    have hbg := hMA.lt
    rw [hg] at h5g h6g hbg hzc
    have hbW : Below wc.heap.size wc W0 := by rw [← hW0]; exact hb2.alloc (by simp; omega) _
    have hq : W0.heap[g + 2]? = some (.cells #[.bool six, .int .u64 (hi : Int), .int .u64 (lo : Int)] 24) := by
      rw [← hW0, ← hg]
      have := World.alloc_heap_new ((wc.alloc (.cells #[.int .i64 0] 3)).alloc (.cells #[.int .i64 0] 3)) (.cells #[.bool six, .int .u64 (hi : Int), .int .u64 (lo : Int)] 24)
      simpa using this
    obtain ⟨m, hm⟩ : ∃ m, mA (six, hi, lo) n L = m := ⟨_, rfl⟩
    have hI0 : FI w g g5 g6 b sz ob m (six, hi, lo) [] (TF g) W0 := by
      refine ⟨rfl, rfl, Nat.zero_le _, .inl rfl, ?_, ?_, ?_, hbw.trans (hbW.mono hbw.size)⟩
      · rw [← hW0]; exact y7.alloc _
      · rw [← hW0]; exact y8.alloc _
      · intro p hp
        simp only [EF, List.mem_cons, List.not_mem_nil, or_false] at hp
        rcases hp with rfl | rfl | rfl
        · exact ⟨boxed_grow x5 hbW, by unfold TF; dsimp only; omega⟩
        · exact ⟨boxed_grow x6 hbW, by unfold TF; dsimp only; omega⟩
        · exact ⟨(hbW.block b hMA.lt).trans hob, by unfold TF; dsimp only; omega⟩
    have HMap : Hid (∀ W, W.heap[b]? = some ob → MapA W b L.length (runsR (six, hi, lo) n L)) := Lib.hid fun W h => hMA.same (h.trans hob.symm)
    have hmM : ∀ i, m i ≤ 65536 := fun i => by rw [← hm]; exact HM.out _
    have HFS : Hid (∀ i, i ≤ sz → sz ≤ endF m (i + 1) → freeR (six, hi, lo) n L = cntF m i) := Lib.hid fun i h1 h2 => by rw [← hm] at h2 ⊢; rw [← hz] at h1 h2; exact free_stop hf hL h1 h2
    have HFD : Hid (∀ i, i ≤ sz → (addA (six, hi, lo) i).2 = false → freeR (six, hi, lo) n L = cntF m i) := Lib.hid fun i h1 h2 => by rw [← hm]; rw [← hz] at h1; exact free_done hf hL h1 h2
    rw [HZZ.out] at HFS HFD
    have Hm := Lib.hid hm
    have hwg : w.heap.size ≤ g := by omega
    rw [hW0]
    simp only [hg]
    clear hW0 hg y7 y8 x5 x6 hMA hob hbw hbx hb2 hbW hr2 hrc HMA hW3 hm hz hL HM
    refine (wpIn_wide (n := 18)).1 ?_
    refine range_own rfl (by decide) (gf := 132) (bd := #[]) (lb := #[.pointer (some ⟨g + 1 + 1, 0, none⟩)]) rfl trivial (enters_of Tryz.func132 (by kernel_rfl) rfl)
      (behind_seq _ (g + 2) (by decide) six hi lo hf.1 hf.2 W0 (by omega) hq 65536 (by decide)) (Below.refl _ _) (fun k h => by omega) (fun _ => rfl)
      (FI w g g5 g6 b sz ob m (six, hi, lo)) (fun c _ W => FX w g z c W) (fi_own h5g h6g hbg hwg _ (by omega)) (fun c => fx_own hwg _ (by omega) z c) (fun M0 e pre T W h => by injection e with e; rw [← e]; exact Nat.le_trans h.le hsz) (fun _ _ _ h => h.fresh)
      (TF g) (fun k h => by unfold TF; omega) hI0
      (fun x a' W => ∃ Bx, g + 1 < Bx ∧ W.heap[Bx]? = some (.cells #[.bool x.2.1, .int .u64 (x.2.2.1 : Int), .int .u64 (x.2.2.2 : Int)] 24) ∧
        a' = { tmps := #[.agg #[.bool six, .int .u64 (hi : Int), .int .u64 (lo : Int), .int .i64 n], v, .pointer (some ⟨w.heap.size, 0, none⟩), undef, .int .i64 0, .pointer (some ⟨g5, 0, none⟩), .pointer (some ⟨g6, 0, none⟩), .pointer (some ⟨g, 0, none⟩), .pointer (some ⟨g + 1, 0, none⟩), .int .i64 (x.1 : Int), .pointer (some ⟨Bx, 0, none⟩), .agg #[.bool six, .int .u64 (hi : Int), .int .u64 (lo : Int), .int .i64 n], .int .i64 (sz : Int), .agg #[.bool six, .int .u64 (hi : Int), .int .u64 (lo : Int), .int .i64 n], v, .map (some b), .pointer (some ⟨w.heap.size, 0, none⟩), .agg #[.bool six, .int .u64 (hi : Int), .int .u64 (lo : Int)], .func (.func 132) #[] #[.pointer (some ⟨g + 1 + 1, 0, none⟩)], .int .i64 (x.1 : Int), .agg #[.bool x.2.1, .int .u64 (x.2.2.1 : Int), .int .u64 (x.2.2.2 : Int)], undef, undef, undef, undef, undef, undef, undef, undef, undef, undef, undef, undef, undef, undef, undef, undef], defers := [] })
      ?hAx ?assign ?body ?done ?stop
    case hAx =>
      rintro x a' _ X Y row ⟨Bx, e1, e2, e3⟩ hgr hr
      exact ⟨Bx, e1, (hgr.block Bx (Array.getElem?_eq_some_iff.1 e2).1 fun e => by obtain ⟨_, o, ho, hc⟩ := hr Bx e.symm; rw [e2] at ho; cases ho; cases hc).trans e2, e3⟩
    case assign =>
      rintro l pre ⟨xi, xs, xh, xl⟩ T W K hI hK
      have hz0 : g + 2 ≤ W.heap.size := by have := hI.fin.lt; omega
      simp only [behE]
      gi_wp2
      obtain rfl := hI.eT
      exact hK _ _ (TF g) (Kpt.alloc _ _ _) (hI.kept ((Below.refl _ _).alloc (Nat.le_refl _) _)) ⟨W.heap.size, by omega, World.alloc_heap_new _ _, rfl⟩
    case body =>
      rintro l pre ⟨xi, xs, xh, xl⟩ a' T W hl _ hI ⟨Bx, hBx, hbx, rfl⟩ ⟨hpre, hx, his⟩
      obtain rfl := hI.eT
      obtain ⟨k, hk⟩ : ∃ k, pre.length = k := ⟨_, rfl⟩
      rw [hk] at hpre hx his
      have hxk : xi = k := congrArg Prod.fst hx
      have hxa : (addA (six, hi, lo) k).1 = (xs, xh, xl) := (congrArg Prod.snd hx).symm
      subst hxk
      have hfit : fitA (xs, xh, xl) := by rw [← hxa]; exact addA_fit _ _
      have hmk : runsR (six, hi, lo) n L (xs, xh, xl) = m xi := by rw [← Hm.out]; unfold mA; rw [hxa]
      have hmle := hmM xi
      have hle := hI.le
      rw [hk] at hle
      have hend : endF m xi ≤ 65536 := by
        rcases hI.lt with h | h
        · rw [hk] at h; subst h; exact Nat.zero_le _
        · rw [hk] at h; omega
      have hcl : cntF m xi ≤ 65536 := Nat.le_trans (cntF_le _) (by omega)
      have c8 := hI.fin.cell
      have f8 := hI.fin.frozen
      have c7 := hI.cnt.cell
      have f7 := hI.cnt.frozen
      have c5 := (show Boxed W g5 3 (.int .i64 (sz : Int)) from (hI.has (g5, .cells #[.int .i64 (sz : Int)] 3) (by simp [EF])).1).cell
      have c6 := (show Boxed W g6 100 (.map (some b)) from (hI.has (g6, .cells #[.map (some b)] 100) (by simp [EF])).1).cell
      have hbo : W.heap[b]? = some ob := (hI.has (b, ob) (by simp [EF])).1
      have hlook := (HMap.out W.drew hbo).look hfit
      rw [hmk] at hlook
      rw [hk] at c8 c7
      have d0 := (cell_of_row W Bx 0 _ _ (0, 0) hbx)
      have d1 := (cell_of_row W Bx 1 _ _ (0, 0) hbx)
      have d2 := (cell_of_row W Bx 2 _ _ (0, 0) hbx)
      simp only [List.getElem?_toArray, List.getElem?_cons_zero, List.getElem?_cons_succ] at d0 d1 d2
      obtain ⟨mk, hmkk⟩ : ∃ mk, m xi = mk := ⟨_, rfl⟩
      obtain ⟨en, hen⟩ : ∃ en, endF m xi = en := ⟨_, rfl⟩
      obtain ⟨cn, hcn⟩ : ∃ cn, cntF m xi = cn := ⟨_, rfl⟩
      obtain ⟨e2, he2⟩ : ∃ e2, endF m (xi + 1) = e2 := ⟨_, rfl⟩
      have hE2 : e2 = max en (xi + mk) := by rw [← he2, ← hen, ← hmkk]; rfl
      have hmax : max (en : Int) ((xi : Int) + (mk : Int)) = (e2 : Int) := by omega
      have hC2 : cntF m (xi + 1) = cn + (if e2 = xi then 1 else 0) := by rw [← hcn, ← he2]; rfl
      rw [hmkk] at hlook hmle
      rw [hen] at c8 hend
      rw [hcn] at c7 hcl
      have HXA := Lib.hid hxa
      have HI := Lib.hid hI
      have HC2 := Lib.hid hC2
      have HE2 := Lib.hid he2
      have HCN := Lib.hid hcn
      have HK := Lib.hid hk
      have hsum : (xi : Int) + (mk : Int) ≤ 200000 := by omega
      have hmx : Tryz.prog.follows .mixedOrders = true := by kernel_rfl
      clear hI hpre hx his hxa hmk hbo hbx hfit hmkk hen hcn he2 hE2 hC2 hk
      gi_wp2
      gi_region_with_o (fail)
      all_goals gi_wp2
      all_goals first
        | (have hse : sz ≤ e2 := by assumption
           have hfx := HFS.out xi hle (by rw [HE2.out]; exact hse)
           have hcb := HI.out.cnt
           rw [HK.out, ← hfx] at hcb
           exact ⟨TF g, (Kpt.setCell (T := TF g) (p := ⟨g + 1, 0, none⟩) (.inr rfl) _).trans (Kpt.below ((Below.refl _ _).drew)), rfl, boxed_drew (hcb.other (by omega) _), (HI.out.bel.setCell (p := ⟨g + 1, 0, none⟩) (by dsimp only; omega) _).drew⟩)
        | (have hse : ¬ sz ≤ e2 := by assumption
           have hxe : ((xi : Int) == (e2 : Int)) = true := by assumption
           have hx2 : e2 = xi := by have := eq_of_beq hxe; omega
           have hst := HI.out.step hwg xi HK.out (xs, xh, xl) HXA.out e2 (cn + 1) HE2.out (by rw [HC2.out, if_pos hx2]) (by omega) _ (.inr rfl)
           exact ⟨TF g, hst.2, hst.1⟩)
        | (have hse : ¬ sz ≤ e2 := by assumption
           have hxe : ((xi : Int) == (e2 : Int)) = false := by assumption
           have hx2 : ¬ e2 = xi := by intro e; rw [e] at hxe; simp at hxe
           have hst := HI.out.step hwg xi HK.out (xs, xh, xl) HXA.out e2 cn HE2.out (by rw [HC2.out, if_neg hx2]; rfl) (by omega) _ (.inl ⟨HCN.out.symm, rfl⟩)
           exact ⟨TF g, hst.2, hst.1⟩)
    case done =>
      rintro D xs T W hD hnD ⟨hxs, hno⟩ hI hK
      obtain rfl := hI.eT
      have hz0 := HFD.out _ hI.le hno
      have hcn := hI.cnt
      rw [← hz0] at hcn
      have c7 := hcn.cell
      have HB := Lib.hid hI.bel
      clear hI hxs hno hz0
      go_wp2
      refine ⟨by simp, .inl ⟨_, _, rfl, run_takeDeferred hK, ?_⟩⟩
      exact ⟨_, results_tmp rfl _ _ _, rfl, HB.out.trans (belowK_b (w := w) (Nat.le_refl _) W D _ _ (by omega) hK rfl rfl)⟩
    case stop =>
      rintro D c pre W hD _ ⟨rfl, hcn, hbl⟩ hK
      have c7 := hcn.cell
      have HB := Lib.hid hbl
      refine (wpIn_wide (n := 18)).2 ?_
      go_wp2
      refine ⟨by simp, .inl ⟨_, _, rfl, run_takeDeferred hK, ?_⟩⟩
      exact ⟨_, results_tmp rfl _ _ _, rfl, HB.out.trans (belowK_b (w := w) (Nat.le_refl _) W D _ _ (by omega) hK rfl rfl)⟩
end Go.Proofs.YtpmlldgjbmingaaGreatDoor
