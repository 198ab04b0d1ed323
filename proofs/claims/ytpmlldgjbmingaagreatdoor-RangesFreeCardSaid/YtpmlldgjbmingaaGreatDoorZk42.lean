/-
  RangesFree: the walk. Condition: the laid tables' cells (Ground).
-/
import Derived.Test.YtpmlldgjbmingaaGreatDoorZk38
import Derived.Test.YtpmlldgjbmingaaGreatDoorZk41
import Derived.Test.YtpmlldgjbmingaaGreatDoorQui
import Derived.Test.YtpmlldgjbmingaaGreatDoorZk37
namespace Go.Proofs.YtpmlldgjbmingaaGreatDoor
open Go.RowKit Go.Maps
set_option linter.unusedVariables false

theorem rn_rowN {w : World} {s : Bool} {hi lo : Nat} {n : Int} (hf : fitA (s, hi, lo)) (hn : (Lit.int IntKind.i64 n).wf = true) : RgRowN (w.alloc (.cells #[.bool s, .int .u64 (hi : Int), .int .u64 (lo : Int), .int .i64 n] 41)) (.slice (some ⟨w.heap.size, 0, none⟩) 1 1) [((s, hi, lo), n)] :=
  ⟨rn_row hf, fun n c e => (by injection e with e; cases e), fun x hx => (by obtain rfl := List.mem_singleton.1 hx; exact hn)⟩
theorem ex_appG {ρ : Operand → Value} {o : Oper} {w w' : World} {s x : Operand} {v sv v' : Value} (hop : o.op = .call { callee := .builtin .append, args := #[s, x], argTypes := #[53, 53] }) (hs : ρ s = v) (hx : ρ x = sv) (h : (Builtin.append_ #[53, 53] o.type #[v, sv]).run Tryz.prog w = .ok v' w') : (execOp ρ o).run Tryz.prog w = .ok (.value v') w' := by
  unfold execOp
  simp only [hop, resolve, invoke, builtin, Sem.run_bind, Sem.run_pure, Result.andThen_ok, List.map_toArray, List.map_cons, List.map_nil, hs, hx, h]
def fL : List Nat := [90, 91, 92, 93, 94, 95, 96, 6]
def fS (j : Nat) : Nat := if j = 34 then 6 else j + 63
def fV (r : Ad) (n : Int) (j : Nat) (v : Value) (w : World) : Prop :=
  if j = 30 then RgRow w v [(r, n)] else v = if j = 28 ∨ j = 29 then .agg #[.bool r.1, .int .u64 (r.2.1 : Int), .int .u64 (r.2.2 : Int), .int .i64 n] else if j = 31 then .int .i64 0 else .bool true
theorem fV_b {r : Ad} {n : Int} {j : Nat} {v : Value} {w : World} (h : j = 27 ∨ j = 32 ∨ j = 33 ∨ j = 34) : fV r n j v w ↔ v = .bool true := by
  unfold fV
  rcases h with rfl | rfl | rfl | rfl <;> simp
theorem fV_r {r : Ad} {n : Int} {j : Nat} {v : Value} {w : World} (h : j = 28 ∨ j = 29) : fV r n j v w ↔ v = .agg #[.bool r.1, .int .u64 (r.2.1 : Int), .int .u64 (r.2.2 : Int), .int .i64 n] := by
  unfold fV
  rcases h with rfl | rfl <;> simp
theorem fV_31 {r : Ad} {n : Int} {v : Value} {w : World} : fV r n 31 v w ↔ v = .int .i64 0 := by
  unfold fV
  simp
theorem fV_30 {r : Ad} {n : Int} {v : Value} {w : World} : fV r n 30 v w ↔ RgRow w v [(r, n)] := by
  unfold fV
  simp
theorem fV_grow {r : Ad} {n : Int} (j : Nat) (v : Value) (w w' : World) (h : fV r n j v w) (hb : Below w.heap.size w w') : fV r n j v w' := by
  unfold fV at h ⊢
  split at h
  · rename_i e; rw [if_pos e]; exact h.next hb
  · rename_i e; rw [if_neg e]; exact h
theorem fS_mem (i : Nat) (h1 : 27 ≤ i) (h2 : i < 35) : fS i ∈ fL ∧ fS i < 97 := by
  have : i = 27 ∨ i = 28 ∨ i = 29 ∨ i = 30 ∨ i = 31 ∨ i = 32 ∨ i = 33 ∨ i = 34 := by omega
  rcases this with rfl | rfl | rfl | rfl | rfl | rfl | rfl | rfl <;> decide
theorem fS_inj (i j : Nat) (h : fS i = fS j) : i = j := by
  unfold fS at h
  split at h <;> split at h <;> omega
/-- The outer loop's relation. -/
def FoRel (w : World) (r : Ad) (L : List (Ad × Int)) (z : Nat) (B : List (Nat × TypeId × Array Value)) (vn vi : Value) (wr : World) : Prop :=
  ∃ k : Nat, vi = .int .i64 (k : Int) ∧ vn = .int .i64 ((cnP r L k : Nat) : Int) ∧ k ≤ z ∧ Bx w wr B
/-- The inner loop's. -/
def FiRel (w : World) (L : List (Ad × Int)) (P : Ad) (B : List (Nat × TypeId × Array Value)) (vf vj : Value) (wr : World) : Prop :=
  ∃ j : Nat, vj = .int .i64 (j : Int) ∧ vf = .bool ((L.take j).all fun o => !hasR o.1 o.2 P) ∧ j ≤ L.length ∧ Bx w wr B
theorem take_all {α : Type} (p : α → Bool) (L : List α) (j : Nat) (h : j < L.length) : (L.take (j + 1)).all p = ((L.take j).all p && p L[j]) := by
  rw [← List.take_append_getElem h, List.all_append]
  simp
set_option maxHeartbeats 8000000 in
set_option maxRecDepth 100000 in
theorem RangesFree_walk (six : Bool) (hi lo : Nat) (n : Int) (v : Value) (s : Bool) (ah al : Nat) (m : Int) (h1 : hi < 18446744073709551616) (h2 : lo < 18446744073709551616) (hn : (Lit.int IntKind.i64 n).wf = true) (h3 : ah < 18446744073709551616) (h4 : al < 18446744073709551616) (hm : (Lit.int IntKind.i64 m).wf = true) (w : World) (hG : Ground w) (L : List (Ad × Int)) (hrow : RgRowN w v L) :
    Calls Tryz.prog 6 #[.agg #[.bool six, .int .u64 (hi : Int), .int .u64 (lo : Int), .int .i64 n], v, .agg #[.bool s, .int .u64 (ah : Int), .int .u64 (al : Int), .int .i64 m]] w fun e w' => e = .returned (.bool true) ∧ Below w.heap.size w w' := by
  have hf : fitA (six, hi, lo) := ⟨h1, h2⟩
  have hfm : fitA (s, ah, al) := ⟨h3, h4⟩
  obtain ⟨z, hz⟩ : ∃ z, sizeR (six, hi, lo) n = z := ⟨_, rfl⟩
  have HROW := Lib.hid hrow
  have HF := Lib.hid hf
  have HFM := Lib.hid hfm
  have HZ := Lib.hid hz
  have HWM := Lib.hid hm
  have HWN := Lib.hid hn
  have G_lives5 := Lib.hid lives5
  have G_light := Lib.hid (light_any six hi lo n z hf hz)
  have G_size := Lib.hid (gSr hf hz)
  obtain ⟨A, cap, rfl, hlc, hcm, hat⟩ := hrow.row.shape
  have HAt := Lib.hid hat
  unfold maxLen at hcm
  have HG := Lib.hid (fun wx (hb : Below w.heap.size w wx) => hG.next hb)
  obtain ⟨B, hB⟩ : ∃ B : List (Nat × TypeId × Array Value), [(w.heap.size + 1, 41, #[.bool s, .int .u64 (ah : Int), .int .u64 (al : Int), .int .i64 m]), (w.heap.size, 41, #[.bool six, .int .u64 (hi : Int), .int .u64 (lo : Int), .int .i64 n])] = B := ⟨_, rfl⟩
  have HS : Hid (Bx w ((w.alloc (.cells #[.bool six, .int .u64 (hi : Int), .int .u64 (lo : Int), .int .i64 n] 41)).alloc (.cells #[.bool s, .int .u64 (ah : Int), .int .u64 (al : Int), .int .i64 m] 41)) B) := Lib.hid (by
    rw [← hB]
    have := ((Bx.start w).more 41 #[.bool six, .int .u64 (hi : Int), .int .u64 (lo : Int), .int .i64 n]).more 41 #[.bool s, .int .u64 (ah : Int), .int .u64 (al : Int), .int .i64 m]
    rw [show (w.alloc (.cells #[.bool six, .int .u64 (hi : Int), .int .u64 (lo : Int), .int .i64 n] 41)).heap.size = w.heap.size + 1 by simp] at this
    exact this)
  have HR : Hid (∀ wx, Bx w wx B → wx.cell? ⟨w.heap.size, 0, none⟩ = some (.bool six) ∧ wx.cell? ⟨w.heap.size, 1, none⟩ = some (.int .u64 (hi : Int)) ∧ wx.cell? ⟨w.heap.size, 2, none⟩ = some (.int .u64 (lo : Int)) ∧ wx.cell? ⟨w.heap.size, 3, none⟩ = some (.int .i64 n)) := Lib.hid (fun wx h => by
    rw [← hB] at h
    exact bx_four h (g := w.heap.size) (t := 41) (List.mem_cons_of_mem _ List.mem_cons_self))
  have HM : Hid (∀ wx, Bx w wx B → wx.cell? ⟨w.heap.size + 1, 0, none⟩ = some (.bool s) ∧ wx.cell? ⟨w.heap.size + 1, 1, none⟩ = some (.int .u64 (ah : Int)) ∧ wx.cell? ⟨w.heap.size + 1, 2, none⟩ = some (.int .u64 (al : Int)) ∧ wx.cell? ⟨w.heap.size + 1, 3, none⟩ = some (.int .i64 m)) := Lib.hid (fun wx h => by
    rw [← hB] at h
    exact bx_four h (g := w.heap.size + 1) (t := 41) List.mem_cons_self)
  clear hB hz hat hrow hn hm hf hfm h1 h2 h3 h4 hG
  by_cases hsm : z ≤ 300 ∧ L.length ≤ 20
  · obtain ⟨hz3, hl2⟩ := hsm
    have hzd : decide (z ≤ 300) = true := by simpa using hz3
    have hld : ¬ (20 : Int) < (L.length : Int) := by omega
    rw [hzd] at G_light
    have HZ3 := Lib.hid hz3
    have HL2 := Lib.hid hl2
    clear hzd hz3 hl2
    go_enter Tryz.func6, Tryz.ntmps6
    go_wp2_with fail
    (with_reducible refine (G_lives5.out.go _ (HG.out _ HS.out.bel)).mono ?_)
    rintro e w1 ⟨rfl, hb⟩
    replace HS := Lib.hid (HS.out.next hb)
    clear hb
    obtain ⟨a0, a1, a2, a3⟩ := HR.out _ HS.out
    go_wp2_with fail
    (with_reducible refine (G_light.out.go _ (HG.out _ HS.out.bel)).mono ?_)
    rintro e w2 ⟨rfl, hb⟩
    replace HS := Lib.hid (HS.out.next hb)
    clear hb a0 a1 a2 a3
    go_wp2
    go_loopw [7, 8] (fun vn vi wr => FoRel w (six, hi, lo) L z B vn vi wr) (fun _ vi _ => z - (intOf vi).toNat)
    case atStart => exact ⟨0, rfl, rfl, Nat.zero_le _, HS.out⟩
    case round =>
      clear HS
      obtain ⟨k, rfl, rfl, hk, hbx⟩ := hrel
      have HS := Lib.hid hbx
      clear hbx
      obtain ⟨a0, a1, a2, a3⟩ := HR.out _ HS.out
      rcases Nat.lt_or_ge k z with hkz | hkz
      · have hkI : (k : Int) < (z : Int) := by omega
        have hks : k < sizeR (six, hi, lo) n := by rw [HZ.out]; exact hkz
        obtain ⟨⟨ps, ph, pl⟩, hP⟩ : ∃ P, plR (six, hi, lo) k = P := ⟨_, rfl⟩
        have HP := Lib.hid hP
        have hfp : fitA (ps, ph, pl) := by rw [← hP]; exact pl_fit HF.out hks
        have HFP := Lib.hid hfp
        have G_at : Hid (GG 31 #[.agg #[.bool six, .int .u64 (hi : Int), .int .u64 (lo : Int), .int .i64 n], .int .i64 (k : Int)] (.tuple #[.agg #[.bool ps, .int .u64 (ph : Int), .int .u64 (pl : Int)], .bool true])) := Lib.hid (gAr HF.out (by rw [at_pl HF.out hks, hP]))
        have HC := Lib.hid (cnP_succ (six, hi, lo) L k)
        have HOK : Hid (okP (six, hi, lo) L k = L.all fun o => !hasR o.1 o.2 (ps, ph, pl)) := Lib.hid (by unfold okP; rw [hP])
        have HCL : Hid (cnP (six, hi, lo) L k ≤ k) := Lib.hid (cnP_le _ _ _)
        have HKZ := Lib.hid hkz
        clear hks hP hfp
        go_wp2_with fail
        (with_reducible refine (G_size.out.go _ (HG.out _ HS.out.bel)).mono ?_)
        rintro e w3 ⟨rfl, hb⟩
        replace HS := Lib.hid (HS.out.next hb)
        clear hb a0 a1 a2 a3
        obtain ⟨a0, a1, a2, a3⟩ := HR.out _ HS.out
        go_wp2_with fail
        (with_reducible refine (G_at.out.go _ (HG.out _ HS.out.bel)).mono ?_)
        rintro e w4 ⟨rfl, hb⟩
        replace HS := Lib.hid (HS.out.next hb)
        clear hb a0 a1 a2 a3
        replace HS := Lib.hid (HS.out.more 24 #[.bool ps, .int .u64 (ph : Int), .int .u64 (pl : Int)])
        obtain ⟨gx, hgx⟩ : ∃ gx, w4.heap.size = gx := ⟨_, rfl⟩
        go_wp2
        rw [hgx] at HS
        clear hgx
        go_loopw [11, 12] (fun vf vj wk => FiRel w L (ps, ph, pl) ((gx, 24, #[.bool ps, .int .u64 (ph : Int), .int .u64 (pl : Int)]) :: B) vf vj wk) (fun _ vj _ => L.length - (intOf vj).toNat)
        case atStart => exact ⟨0, rfl, by simp, Nat.zero_le _, HS.out⟩
        case round =>
          clear HS
          obtain ⟨j, rfl, rfl, hj, hbx⟩ := hrel
          have HS := Lib.hid hbx
          clear hbx
          rcases Nat.lt_or_ge j L.length with hjl | hjl
          · have hjI : (j : Int) < (L.length : Int) := by omega
            obtain ⟨g, off, hA, hgw, hcell⟩ := HAt.out j hjl
            subst hA
            obtain ⟨⟨⟨xs, xh, xl⟩, xb⟩, hx⟩ : ∃ x, L[j] = x := ⟨_, rfl⟩
            have hfx : fitA (xs, xh, xl) := by have := HROW.out.row.fits L[j] (List.getElem_mem hjl); rw [hx] at this; exact this
            rw [hx] at hcell
            have HCELL := Lib.hid hcell
            obtain ⟨b, hb⟩ : ∃ b, hasR (xs, xh, xl) xb (ps, ph, pl) = b := ⟨_, rfl⟩
            have G_has := Lib.hid (gHr hfx HFP.out hb)
            have HT := Lib.hid (take_all (fun o : Ad × Int => !hasR o.1 o.2 (ps, ph, pl)) L j hjl)
            rw [hx] at HT
            dsimp only at HT
            rw [hb] at HT
            obtain ⟨f, hfv⟩ : ∃ f, ((L.take j).all fun o => !hasR o.1 o.2 (ps, ph, pl)) = f := ⟨_, rfl⟩
            rw [hfv] at HT ⊢
            have HJL := Lib.hid hjl
            clear hfv hb hfx hx hcell
            go_wp2_with fail
            obtain ⟨Ix, fw, i0, hf0, hC, hGo⟩ := class_bx HS.out (HG.out _ HS.out.bel)
            haveI : Nonempty Ix := ⟨i0⟩
            have c0 : ∀ i, (fw i).cell? ⟨g, off + j * 4, none⟩ = some (.bool xs) := fun i => (HCELL.out.below (hC i).bel hgw).c0
            have c1 : ∀ i, (fw i).cell? ⟨g, off + j * 4 + 1, none⟩ = some (.int .u64 (xh : Int)) := fun i => (HCELL.out.below (hC i).bel hgw).c1
            have c2 : ∀ i, (fw i).cell? ⟨g, off + j * 4 + 2, none⟩ = some (.int .u64 (xl : Int)) := fun i => (HCELL.out.below (hC i).bel hgw).c2
            have c3 : ∀ i, (fw i).cell? ⟨g, off + j * 4 + 3, none⟩ = some (.int .i64 xb) := fun i => (HCELL.out.below (hC i).bel hgw).c3
            have d0 : ∀ i, (fw i).cell? ⟨gx, 0, none⟩ = some (.bool ps) := fun i => ((hC i).at List.mem_cons_self).cell 0
            have d1 : ∀ i, (fw i).cell? ⟨gx, 1, none⟩ = some (.int .u64 (ph : Int)) := fun i => ((hC i).at List.mem_cons_self).cell 1
            have d2 : ∀ i, (fw i).cell? ⟨gx, 2, none⟩ = some (.int .u64 (pl : Int)) := fun i => ((hC i).at List.mem_cons_self).cell 2
            have V_has := Lib.hid (hGo G_has.out)
            replace HS := Lib.hid hC
            clear hC hGo
            rcases f with _ | _
            · refine wp_region_class fw (by kernel_rfl) (lexB_of (by kernel_rfl) (by as_aux_lemma => kernel_rfl)) i0 hf0 ?_
              clear hf0
              repeat (go_big_quiet_step (with_reducible exact V_has.out _))
              refine wpQuiet_nil ?_
              intro _ hw'
              obtain ⟨nE, hw''⟩ := hw'
              subst hw''
              replace HS := Lib.hid (HS.out nE)
              clear c0 c1 c2 c3 d0 d1 d2 V_has
              go_wp2
              go_roundw
              case rel => exact ⟨j + 1, by go_num, by rw [HT.out]; rfl, HJL.out, HS.out⟩
              case measure => simp [intOf]; omega
            · refine wp_region_class fw (by kernel_rfl) (lexB_of (by kernel_rfl) (by as_aux_lemma => kernel_rfl)) i0 hf0 ?_
              clear hf0
              repeat (go_big_quiet_step (with_reducible exact V_has.out _))
              refine wpQuiet_nil ?_
              intro _ hw'
              obtain ⟨nE, hw''⟩ := hw'
              subst hw''
              replace HS := Lib.hid (HS.out nE)
              clear c0 c1 c2 c3 d0 d1 d2 V_has
              go_wp2
              go_roundw
              case rel => exact ⟨j + 1, by go_num, by rw [HT.out]; simp, HJL.out, HS.out⟩
              case measure => simp [intOf]; omega
          · have hjI : ¬ (j : Int) < (L.length : Int) := by omega
            have e : j = L.length := by omega
            subst e
            rw [List.take_length, ← HOK.out]
            have HSB : Hid (Bx w wr B) := Lib.hid HS.out.tail
            rcases hok : okP (six, hi, lo) L k with _ | _
            · have HN := HC.out
              rw [hok, if_neg (by decide)] at HN
              have hkz := HKZ.out
              have hcl := HCL.out
              have hz3 := HZ3.out
              go_wp2
              go_roundw
              case rel => exact ⟨k + 1, by go_num, by rw [HN]; rfl, hkz, HSB.out⟩
              case measure => simp [intOf]; omega
            · have HN := HC.out
              rw [hok, if_pos rfl] at HN
              have hkz := HKZ.out
              have hcl := HCL.out
              have hz3 := HZ3.out
              go_wp2
              go_roundw
              case rel => exact ⟨k + 1, by go_num, by rw [HN]; go_num, hkz, HSB.out⟩
              case measure => simp [intOf]; omega
      · have hkI : ¬ (k : Int) < (z : Int) := by omega
        have e : k = z := by omega
        subst e
        go_wp2_with fail
        (with_reducible refine (G_size.out.go _ (HG.out _ HS.out.bel)).mono ?_)
        rintro e w3 ⟨rfl, hb⟩
        replace HS := Lib.hid (HS.out.next hb)
        clear hb a0 a1 a2 a3
        go_wp2
        refine region_at (by kernel_rfl) ?_
        replace HS := Lib.hid HS.out.drew
        obtain ⟨W1, hW1⟩ : ∃ W1, w3.drew = W1 := ⟨_, rfl⟩
        rw [hW1] at HS ⊢
        clear hW1
        obtain ⟨x, hx⟩ : ∃ x, freeR (six, hi, lo) n (L ++ [((s, ah, al), m)]) = x := ⟨_, rfl⟩
        have HX := Lib.hid hx
        clear hx
        have HW := Lib.hid HS.out.bel
        refine reg17 (.agg #[.bool six, .int .u64 (hi : Int), .int .u64 (lo : Int), .int .i64 n]) (.slice A L.length cap) (.agg #[.bool s, .int .u64 (ah : Int), .int .u64 (al : Int), .int .i64 m]) x L ((s, ah, al), m) rfl (by as_aux_lemma => kernel_rfl) rfl rfl ⟨_, rfl, ⟨5, .data⟩, by simp, rfl, rfl⟩ ⟨_, rfl, ⟨6, .data⟩, by simp, rfl, rfl⟩ ?_ ?_
        · intro i o a wx D K ho hi8 hdep hF hb h61 hs hT hK hK5
          have HSx := HS.out.next hb
          have e1 := slot_nf (show slot a 1 = .slice A L.length cap from hF.old 1 (by decide))
          have e3 := slot_nf (show slot a 3 = .pointer (some ⟨w.heap.size, 0, none⟩) from hF.old 3 (by decide))
          have e5 := slot_nf (show slot a 5 = .pointer (some ⟨w.heap.size + 1, 0, none⟩) from hF.old 5 (by decide))
          have hcase : i = 0 ∨ i = 1 ∨ i = 2 ∨ i = 3 ∨ i = 4 ∨ i = 5 ∨ i = 6 ∨ i = 7 := by omega
          have put : ∀ d, d < 97 → ∀ y, slot (a.put (some d) y) d = y := fun d hd y => by rw [slot_put (by rw [hs]; exact hd), if_pos rfl]
          rcases hcase with rfl | rfl | rfl | rfl | rfl | rfl | rfl | rfl
          · obtain rfl : _ = o := Option.some.inj ho
            obtain ⟨c0, c1, c2, c3⟩ := HR.out _ HSx
            exact rg_op rfl rfl (rg_value (v := .agg #[.bool six, .int .u64 (hi : Int), .int .u64 (lo : Int), .int .i64 n]) (w' := wx) (by simp [execOp, e3, go_sem, c0, c1, c2, c3, Tryz.isAgg41, Tryz.sizeOf41]) (hK _ _ (by decide) (Below.refl _ _) (put 56 (by decide) _)))
          · obtain rfl : _ = o := Option.some.inj ho
            exact rg_op rfl rfl (rg_value (v := .slice A L.length cap) (w' := wx) (by simp [execOp, e1, go_sem]) (hK _ _ (by decide) (Below.refl _ _) (put 57 (by decide) _)))
          · obtain rfl : _ = o := Option.some.inj ho
            have t1 := slot_nf (show slot a 57 = _ from hT 1 (hdep ⟨1, .data⟩ (by simp) rfl))
            refine rg_op rfl rfl (rg_call rfl (fun _ _ => by kernel_rfl) (args := #[.slice A L.length cap]) (by simp [Act.eval, go_sem, t1]) ?_)
            refine (ownRg_any _ L wx (HROW.out.next HSx.bel) (by have := HL2.out; omega)).mono ?_
            rintro e w' ⟨u, rfl, hu, hb'⟩
            exact ⟨_, rfl, hK _ _ (by decide) hb' ⟨u, put 58 (by decide) _, fun _ => hu.base hb.size⟩⟩
          · obtain rfl : _ = o := Option.some.inj ho
            obtain ⟨c0, c1, c2, c3⟩ := HM.out _ HSx
            exact rg_op rfl rfl (rg_value (v := .agg #[.bool s, .int .u64 (ah : Int), .int .u64 (al : Int), .int .i64 m]) (w' := wx) (by simp [execOp, e5, go_sem, c0, c1, c2, c3, Tryz.isAgg41, Tryz.sizeOf41]) (hK _ _ (by decide) (Below.refl _ _) (put 59 (by decide) _)))
          · obtain rfl : _ = o := Option.some.inj ho
            have t3 : slot a 59 = _ := hT 3 (hdep ⟨3, .data⟩ (by simp) rfl)
            exact rg_op rfl rfl (rg_value (rn_bs (s := s) (hi := ah) (lo := al) (n := m) rfl t3) (hK _ _ (by decide) ((Below.refl _ _).alloc (Nat.le_refl _) _) ⟨_, put 60 (by decide) _, fun _ => rn_rowN HFM.out HWM.out⟩))
          · obtain rfl : _ = o := Option.some.inj ho
            obtain ⟨u, t2, r2⟩ := hT 2 (hdep ⟨2, .data⟩ (by simp) rfl)
            obtain ⟨y, t4, r4⟩ := hT 4 (hdep ⟨4, .data⟩ (by simp) rfl)
            have hu := h61 rfl
            obtain ⟨v', w', q1, q2, q3⟩ := run_appG (r2 hu) 53 (r4 hu) (by have := HL2.out; simp; omega) hb.size
            exact rg_op rfl rfl (rg_value (v := v') (w' := w') (ex_appG rfl t2 t4 q1) (hK5 _ _ rfl q2 (hb.trans q3)))
          · obtain rfl : _ = o := Option.some.inj ho
            have t0 := slot_nf (show slot a 56 = _ from hT 0 (hdep ⟨0, .data⟩ (by simp) rfl))
            obtain ⟨u, t5, r5⟩ := hT 5 (hdep ⟨5, .data⟩ (by simp) rfl)
            have u5 := slot_nf t5
            refine rg_op rfl rfl (rg_call rfl (fun _ _ => by kernel_rfl) (args := #[.agg #[.bool six, .int .u64 (hi : Int), .int .u64 (lo : Int), .int .i64 n], u]) (by simp [Act.eval, go_sem, t0, u5]) ?_)
            refine (rFree_any six hi lo n u (L ++ [((s, ah, al), m)]) wx (HG.out _ HSx.bel) HF.out (r5.row fun y hy => ?_) (by have := HL2.out; simp; omega)).mono ?_
            · rcases List.mem_append.1 hy with h | h
              · exact HROW.out.row.fits y h
              · obtain rfl : y = ((s, ah, al), m) := by simpa using h
                exact HFM.out
            · rintro e w' ⟨rfl, hb'⟩
              rw [HX.out]
              exact ⟨_, rfl, hK _ _ (by decide) hb' (put 62 (by decide) _)⟩
          · obtain rfl : _ = o := Option.some.inj ho
            have t6 := slot_nf (show slot a 62 = _ from hT 6 (hdep ⟨6, .data⟩ (by simp) rfl))
            exact rg_op rfl rfl (rg_value (v := .int .i64 (x : Int)) (w' := wx) (by simp [execOp, t6, go_sem]) (hK _ _ (by decide) (Below.refl _ _) (put 13 (by decide) _)))
        · intro a wc hF hb hT
          replace HS := Lib.hid (HS.out.next hb)
          have t0 : slot a 56 = _ := hT 0 (by decide)
          have t1 : slot a 57 = _ := hT 1 (by decide)
          obtain ⟨u2, t2, _⟩ := hT 2 (by decide)
          have t3 : slot a 59 = _ := hT 3 (by decide)
          obtain ⟨u4, t4, _⟩ := hT 4 (by decide)
          obtain ⟨u5, t5, _⟩ := hT 5 (by decide)
          have t6 : slot a 62 = _ := hT 6 (by decide)
          have t7 : slot a 13 = _ := hT 7 (by decide)
          have he := hF.eq [(56, .agg #[.bool six, .int .u64 (hi : Int), .int .u64 (lo : Int), .int .i64 n]), (57, .slice A L.length cap), (58, u2), (59, .agg #[.bool s, .int .u64 (ah : Int), .int .u64 (al : Int), .int .i64 m]), (60, u4), (61, u5), (62, .int .i64 (x : Int)), (13, .int .i64 (x : Int))] rfl (show ([56, 57, 58, 59, 60, 61, 62, 13] : List Nat).Nodup by decide) (by intro p hp; simp only [List.mem_cons, List.not_mem_nil, or_false] at hp; rcases hp with rfl | rfl | rfl | rfl | rfl | rfl | rfl | rfl <;> simp) (by intro p hp; simp only [List.mem_cons, List.not_mem_nil, or_false] at hp; rcases hp with rfl | rfl | rfl | rfl | rfl | rfl | rfl | rfl <;> assumption)
          rw [he]
          simp only [setAll, List.foldl_cons, List.foldl_nil, List.setIfInBounds_toArray, List.set_cons_succ, List.set_cons_zero]
          clear he hF hT t0 t1 t2 t3 t4 t5 t6 t7 hb
          go_wp2_with fail
          try simp only [List.append_eq, List.cons_append, List.nil_append]
          refine region_at (by kernel_rfl) ?_
          obtain ⟨Ix, fw, i0, hf0, hC, hSt⟩ := class_of wc
          haveI : Nonempty Ix := ⟨i0⟩
          have HC := Lib.hid hC
          have HSt := Lib.hid hSt
          obtain ⟨c, hc⟩ : ∃ c, cnP (six, hi, lo) L k = c := ⟨_, rfl⟩
          have HFr : Hid (freeR (six, hi, lo) n L = c) := Lib.hid (by rw [free_cnP, HZ.out, hc])
          have HFn : Hid (freeR (six, hi, lo) n [] = k) := Lib.hid (by rw [free_nil, HZ.out])
          have hxc : x ≤ c := by rw [← HFr.out, ← HX.out]; exact free_more _ _
          have hxI : (x : Int) ≤ (c : Int) := by omega
          rw [hc]
          have c0 : ∀ i, (fw i).cell? ⟨w.heap.size, 0, none⟩ = some (.bool six) := fun i => (HR.out _ (HS.out.next (HC.out i))).1
          have c1 : ∀ i, (fw i).cell? ⟨w.heap.size, 1, none⟩ = some (.int .u64 (hi : Int)) := fun i => (HR.out _ (HS.out.next (HC.out i))).2.1
          have c2 : ∀ i, (fw i).cell? ⟨w.heap.size, 2, none⟩ = some (.int .u64 (lo : Int)) := fun i => (HR.out _ (HS.out.next (HC.out i))).2.2.1
          have c3 : ∀ i, (fw i).cell? ⟨w.heap.size, 3, none⟩ = some (.int .i64 n) := fun i => (HR.out _ (HS.out.next (HC.out i))).2.2.2
          have d0 : ∀ i, (fw i).cell? ⟨w.heap.size + 1, 0, none⟩ = some (.bool s) := fun i => (HM.out _ (HS.out.next (HC.out i))).1
          have d1 : ∀ i, (fw i).cell? ⟨w.heap.size + 1, 1, none⟩ = some (.int .u64 (ah : Int)) := fun i => (HM.out _ (HS.out.next (HC.out i))).2.1
          have d2 : ∀ i, (fw i).cell? ⟨w.heap.size + 1, 2, none⟩ = some (.int .u64 (al : Int)) := fun i => (HM.out _ (HS.out.next (HC.out i))).2.2.1
          have d3 : ∀ i, (fw i).cell? ⟨w.heap.size + 1, 3, none⟩ = some (.int .i64 m) := fun i => (HM.out _ (HS.out.next (HC.out i))).2.2.2
          have V_free : Hid (∀ i, Calls Tryz.prog 35 #[.agg #[.bool six, .int .u64 (hi : Int), .int .u64 (lo : Int), .int .i64 n], .slice A L.length cap] (fw i) fun e w' => e = .returned (.int .i64 (c : Int)) ∧ ∃ q, w' = fw q) := Lib.hid fun i => (rFree_any six hi lo n (.slice A L.length cap) L (fw i) (HG.out _ (HS.out.next (HC.out i)).bel) HF.out (HROW.out.next (HS.out.next (HC.out i)).bel).row (by have := HL2.out; omega)).mono fun e w' y => ⟨by rw [← HFr.out]; exact y.1, HSt.out i _ y.2⟩
          have V_nil : Hid (∀ i, Calls Tryz.prog 35 #[.agg #[.bool six, .int .u64 (hi : Int), .int .u64 (lo : Int), .int .i64 n], .slice none 0 0] (fw i) fun e w' => e = .returned (.int .i64 (k : Int)) ∧ ∃ q, w' = fw q) := Lib.hid fun i => (rFree_any six hi lo n (.slice none 0 0) [] (fw i) (HG.out _ (HS.out.next (HC.out i)).bel) HF.out ⟨⟨none, 0, rfl, Nat.le_refl _, Nat.zero_le _, fun j hj => absurd hj (Nat.not_lt_zero _)⟩, fun y hy => nomatch hy⟩ (by simp)).mono fun e w' y => ⟨by rw [show ((k : Nat) : Int) = ((freeR (six, hi, lo) n [] : Nat) : Int) by rw [HFn.out]]; exact y.1, HSt.out i _ y.2⟩
          have V_size := Lib.hid (class_go G_size.out (HG.out _ HS.out.bel) hC hSt)
          obtain ⟨b, hb⟩ : ∃ b, meetR (six, hi, lo) n (s, ah, al) m = b := ⟨_, rfl⟩
          have V_meet := Lib.hid (class_go (gMr HF.out HFM.out hb) (HG.out _ HS.out.bel) hC hSt)
          clear hC hSt hc
          rcases b with _ | _
          · have e : x = c := by rw [← HFr.out, ← HX.out]; exact free_same HF.out L HFM.out hb
            subst e
            clear hb
            refine at_seg (fun w' => ∃ i, w' = fw i) 0 27 _ rfl (by decide) (by decide) (by as_aux_lemma => kernel_rfl) (by as_aux_lemma => kernel_rfl) (fun _ => by as_aux_lemma => kernel_rfl) (by as_aux_lemma => kernel_rfl) ⟨i0, hf0⟩ ?_
            clear hf0
            change wpQuiet _ _ _ _ (_ :: _ :: _ :: _ :: _ :: _ :: _ :: _ :: _ :: _ :: _ :: _ :: _ :: _ :: _ :: _ :: _ :: _ :: _ :: _ :: _ :: _ :: _ :: _ :: _ :: _ :: _ :: []) _
            repeat (go_big_quiet_step (first | (with_reducible exact V_free.out _) | (with_reducible exact V_nil.out _) | (with_reducible exact V_size.out _) | (with_reducible exact V_meet.out _)))
            refine wpQuiet_nil ?_
            intro _ hw'
            obtain ⟨nE, hw''⟩ := hw'
            subst hw''
            replace HS := Lib.hid (HS.out.next (HC.out nE))
            clear V_free V_nil V_size V_meet c0 c1 c2 c3 d0 d1 d2 d3
            refine tl_inv 27 35 97 fS fL (fV (six, hi, lo) n) rfl (by decide) (by as_aux_lemma => kernel_rfl) rfl fS_mem fS_inj fV_grow ?_ ?_
            · intro i o a wx K ho hi1 hi2 hF hb hdep hs hK
              have hsl : ∀ s v, slot a s = v → s < 97 → a.tmps[s]? = some v := fun s v h h' => slot_some h (by rw [hs]; exact h')
              have HSx := HS.out.next hb
              have e3 := slot_nf (show slot a 3 = .pointer (some ⟨w.heap.size, 0, none⟩) from hF.old 3 (by decide))
              obtain ⟨c0, c1, c2, c3⟩ := HR.out _ HSx
              have hcase : i = 27 ∨ i = 28 ∨ i = 29 ∨ i = 30 ∨ i = 31 ∨ i = 32 ∨ i = 33 ∨ i = 34 := by omega
              rcases hcase with rfl | rfl | rfl | rfl | rfl | rfl | rfl | rfl
              · obtain rfl : _ = o := Option.some.inj ho
                have q := slot_nf (show slot a 89 = .bool true from hF.old 89 (by decide))
                exact rg_op rfl rfl (rg_value (v := .bool true) (w' := wx) (by simp [execOp, go_sem, q]) (hK _ _ (Below.refl _ _) ((fV_b (by decide)).2 rfl)))
              · obtain rfl : _ = o := Option.some.inj ho
                have t27 : slot a 90 = .bool true := (fV_b (by decide)).1 (hdep ⟨27, .guard⟩ (by simp) rfl (by decide))
                exact rg_opg rfl rfl rfl (hsl 90 _ t27 (by decide)) (rg_value (v := .agg #[.bool six, .int .u64 (hi : Int), .int .u64 (lo : Int), .int .i64 n]) (w' := wx) (by simp [execOp, e3, go_sem, c0, c1, c2, c3, Tryz.isAgg41, Tryz.sizeOf41]) (hK _ _ (Below.refl _ _) ((fV_r (by decide)).2 rfl)))
              · obtain rfl : _ = o := Option.some.inj ho
                have t27 : slot a 90 = .bool true := (fV_b (by decide)).1 (hdep ⟨27, .guard⟩ (by simp) rfl (by decide))
                exact rg_opg rfl rfl rfl (hsl 90 _ t27 (by decide)) (rg_value (v := .agg #[.bool six, .int .u64 (hi : Int), .int .u64 (lo : Int), .int .i64 n]) (w' := wx) (by simp [execOp, e3, go_sem, c0, c1, c2, c3, Tryz.isAgg41, Tryz.sizeOf41]) (hK _ _ (Below.refl _ _) ((fV_r (by decide)).2 rfl)))
              · obtain rfl : _ = o := Option.some.inj ho
                have t27 : slot a 90 = .bool true := (fV_b (by decide)).1 (hdep ⟨27, .guard⟩ (by simp) rfl (by decide))
                have t29 : slot a 92 = .agg #[.bool six, .int .u64 (hi : Int), .int .u64 (lo : Int), .int .i64 n] := (fV_r (by decide)).1 (hdep ⟨29, .data⟩ (by simp) rfl (by decide))
                exact rg_opg rfl rfl rfl (hsl 90 _ t27 (by decide)) (rg_value (rn_bs (s := six) (hi := hi) (lo := lo) (n := n) rfl t29) (hK _ _ ((Below.refl _ _).alloc (Nat.le_refl _) _) (fV_30.2 (rn_row HF.out))))
              · obtain rfl : _ = o := Option.some.inj ho
                have t27 : slot a 90 = .bool true := (fV_b (by decide)).1 (hdep ⟨27, .guard⟩ (by simp) rfl (by decide))
                have t28 : slot a 91 = .agg #[.bool six, .int .u64 (hi : Int), .int .u64 (lo : Int), .int .i64 n] := (fV_r (by decide)).1 (hdep ⟨28, .data⟩ (by simp) rfl (by decide))
                have t30 : RgRow wx (slot a 93) [((six, hi, lo), n)] := fV_30.1 (hdep ⟨30, .data⟩ (by simp) rfl (by decide))
                obtain ⟨u, hu⟩ : ∃ u, slot a 93 = u := ⟨_, rfl⟩
                rw [hu] at t30
                have u28 := slot_nf t28
                have u30 := slot_nf hu
                refine rg_opg rfl rfl rfl (hsl 90 _ t27 (by decide)) (rg_call rfl (fun _ _ => by kernel_rfl) (args := #[.agg #[.bool six, .int .u64 (hi : Int), .int .u64 (lo : Int), .int .i64 n], u]) (by simp [Act.eval, go_sem, u28, u30]) ?_)
                refine (rFree_any six hi lo n u [((six, hi, lo), n)] wx (HG.out _ HSx.bel) HF.out t30 (by simp)).mono ?_
                rintro e w' ⟨rfl, hb'⟩
                rw [free_self HF.out]
                exact ⟨_, rfl, hK _ _ hb' (fV_31.2 rfl)⟩
              · obtain rfl : _ = o := Option.some.inj ho
                have t27 : slot a 90 = .bool true := (fV_b (by decide)).1 (hdep ⟨27, .guard⟩ (by simp) rfl (by decide))
                have t31 := slot_nf (show slot a 94 = .int .i64 0 from fV_31.1 (hdep ⟨31, .data⟩ (by simp) rfl (by decide)))
                exact rg_opg rfl rfl rfl (hsl 90 _ t27 (by decide)) (rg_value (v := .bool true) (w' := wx) (by simp [execOp, go_sem, t31]) (hK _ _ (Below.refl _ _) ((fV_b (by decide)).2 rfl)))
              · obtain rfl : _ = o := Option.some.inj ho
                have t27 := slot_nf (show slot a 90 = .bool true from (fV_b (by decide)).1 (hdep ⟨27, .data⟩ (by simp) rfl (by decide)))
                have t32 := slot_nf (show slot a 95 = .bool true from (fV_b (by decide)).1 (hdep ⟨32, .data⟩ (by simp) rfl (by decide)))
                exact rg_op rfl rfl (rg_value (v := .bool true) (w' := wx) (by simp [execOp, go_sem, t27, t32]) (hK _ _ (Below.refl _ _) ((fV_b (by decide)).2 rfl)))
              · obtain rfl : _ = o := Option.some.inj ho
                have t33 := slot_nf (show slot a 96 = .bool true from (fV_b (by decide)).1 (hdep ⟨33, .data⟩ (by simp) rfl (by decide)))
                exact rg_op rfl rfl (rg_value (v := .bool true) (w' := wx) (by simp [execOp, go_sem, t33]) (hK _ _ (Below.refl _ _) ((fV_b (by decide)).2 rfl)))
            · intro a wx hF hb hV hs
              have h0 : slot a 6 = .bool true := (fV_b (by decide)).1 (hV 34 (by decide) (by decide))
              obtain ⟨t, df⟩ := a
              obtain rfl : df = [] := hF.dfr
              go_wp2
              exact bodyPost_ret (v := .bool true) ((results_tmp rfl _ _ _).trans (by rw [show t.getD 6 undef = .bool true from h0])) rfl ⟨rfl, (HS.out.next hb).bel⟩
          · clear hb
            refine at_seg (fun w' => ∃ i, w' = fw i) 0 27 _ rfl (by decide) (by decide) (by as_aux_lemma => kernel_rfl) (by as_aux_lemma => kernel_rfl) (fun _ => by as_aux_lemma => kernel_rfl) (by as_aux_lemma => kernel_rfl) ⟨i0, hf0⟩ ?_
            clear hf0
            change wpQuiet _ _ _ _ (_ :: _ :: _ :: _ :: _ :: _ :: _ :: _ :: _ :: _ :: _ :: _ :: _ :: _ :: _ :: _ :: _ :: _ :: _ :: _ :: _ :: _ :: _ :: _ :: _ :: _ :: _ :: []) _
            repeat (go_big_quiet_step (first | (with_reducible exact V_free.out _) | (with_reducible exact V_nil.out _) | (with_reducible exact V_size.out _) | (with_reducible exact V_meet.out _)))
            refine wpQuiet_nil ?_
            intro _ hw'
            obtain ⟨nE, hw''⟩ := hw'
            subst hw''
            replace HS := Lib.hid (HS.out.next (HC.out nE))
            clear V_free V_nil V_size V_meet c0 c1 c2 c3 d0 d1 d2 d3
            refine tl_inv 27 35 97 fS fL (fV (six, hi, lo) n) rfl (by decide) (by as_aux_lemma => kernel_rfl) rfl fS_mem fS_inj fV_grow ?_ ?_
            · intro i o a wx K ho hi1 hi2 hF hb hdep hs hK
              have hsl : ∀ s v, slot a s = v → s < 97 → a.tmps[s]? = some v := fun s v h h' => slot_some h (by rw [hs]; exact h')
              have HSx := HS.out.next hb
              have e3 := slot_nf (show slot a 3 = .pointer (some ⟨w.heap.size, 0, none⟩) from hF.old 3 (by decide))
              obtain ⟨c0, c1, c2, c3⟩ := HR.out _ HSx
              have hcase : i = 27 ∨ i = 28 ∨ i = 29 ∨ i = 30 ∨ i = 31 ∨ i = 32 ∨ i = 33 ∨ i = 34 := by omega
              rcases hcase with rfl | rfl | rfl | rfl | rfl | rfl | rfl | rfl
              · obtain rfl : _ = o := Option.some.inj ho
                have q := slot_nf (show slot a 89 = .bool true from hF.old 89 (by decide))
                exact rg_op rfl rfl (rg_value (v := .bool true) (w' := wx) (by simp [execOp, go_sem, q]) (hK _ _ (Below.refl _ _) ((fV_b (by decide)).2 rfl)))
              · obtain rfl : _ = o := Option.some.inj ho
                have t27 : slot a 90 = .bool true := (fV_b (by decide)).1 (hdep ⟨27, .guard⟩ (by simp) rfl (by decide))
                exact rg_opg rfl rfl rfl (hsl 90 _ t27 (by decide)) (rg_value (v := .agg #[.bool six, .int .u64 (hi : Int), .int .u64 (lo : Int), .int .i64 n]) (w' := wx) (by simp [execOp, e3, go_sem, c0, c1, c2, c3, Tryz.isAgg41, Tryz.sizeOf41]) (hK _ _ (Below.refl _ _) ((fV_r (by decide)).2 rfl)))
              · obtain rfl : _ = o := Option.some.inj ho
                have t27 : slot a 90 = .bool true := (fV_b (by decide)).1 (hdep ⟨27, .guard⟩ (by simp) rfl (by decide))
                exact rg_opg rfl rfl rfl (hsl 90 _ t27 (by decide)) (rg_value (v := .agg #[.bool six, .int .u64 (hi : Int), .int .u64 (lo : Int), .int .i64 n]) (w' := wx) (by simp [execOp, e3, go_sem, c0, c1, c2, c3, Tryz.isAgg41, Tryz.sizeOf41]) (hK _ _ (Below.refl _ _) ((fV_r (by decide)).2 rfl)))
              · obtain rfl : _ = o := Option.some.inj ho
                have t27 : slot a 90 = .bool true := (fV_b (by decide)).1 (hdep ⟨27, .guard⟩ (by simp) rfl (by decide))
                have t29 : slot a 92 = .agg #[.bool six, .int .u64 (hi : Int), .int .u64 (lo : Int), .int .i64 n] := (fV_r (by decide)).1 (hdep ⟨29, .data⟩ (by simp) rfl (by decide))
                exact rg_opg rfl rfl rfl (hsl 90 _ t27 (by decide)) (rg_value (rn_bs (s := six) (hi := hi) (lo := lo) (n := n) rfl t29) (hK _ _ ((Below.refl _ _).alloc (Nat.le_refl _) _) (fV_30.2 (rn_row HF.out))))
              · obtain rfl : _ = o := Option.some.inj ho
                have t27 : slot a 90 = .bool true := (fV_b (by decide)).1 (hdep ⟨27, .guard⟩ (by simp) rfl (by decide))
                have t28 : slot a 91 = .agg #[.bool six, .int .u64 (hi : Int), .int .u64 (lo : Int), .int .i64 n] := (fV_r (by decide)).1 (hdep ⟨28, .data⟩ (by simp) rfl (by decide))
                have t30 : RgRow wx (slot a 93) [((six, hi, lo), n)] := fV_30.1 (hdep ⟨30, .data⟩ (by simp) rfl (by decide))
                obtain ⟨u, hu⟩ : ∃ u, slot a 93 = u := ⟨_, rfl⟩
                rw [hu] at t30
                have u28 := slot_nf t28
                have u30 := slot_nf hu
                refine rg_opg rfl rfl rfl (hsl 90 _ t27 (by decide)) (rg_call rfl (fun _ _ => by kernel_rfl) (args := #[.agg #[.bool six, .int .u64 (hi : Int), .int .u64 (lo : Int), .int .i64 n], u]) (by simp [Act.eval, go_sem, u28, u30]) ?_)
                refine (rFree_any six hi lo n u [((six, hi, lo), n)] wx (HG.out _ HSx.bel) HF.out t30 (by simp)).mono ?_
                rintro e w' ⟨rfl, hb'⟩
                rw [free_self HF.out]
                exact ⟨_, rfl, hK _ _ hb' (fV_31.2 rfl)⟩
              · obtain rfl : _ = o := Option.some.inj ho
                have t27 : slot a 90 = .bool true := (fV_b (by decide)).1 (hdep ⟨27, .guard⟩ (by simp) rfl (by decide))
                have t31 := slot_nf (show slot a 94 = .int .i64 0 from fV_31.1 (hdep ⟨31, .data⟩ (by simp) rfl (by decide)))
                exact rg_opg rfl rfl rfl (hsl 90 _ t27 (by decide)) (rg_value (v := .bool true) (w' := wx) (by simp [execOp, go_sem, t31]) (hK _ _ (Below.refl _ _) ((fV_b (by decide)).2 rfl)))
              · obtain rfl : _ = o := Option.some.inj ho
                have t27 := slot_nf (show slot a 90 = .bool true from (fV_b (by decide)).1 (hdep ⟨27, .data⟩ (by simp) rfl (by decide)))
                have t32 := slot_nf (show slot a 95 = .bool true from (fV_b (by decide)).1 (hdep ⟨32, .data⟩ (by simp) rfl (by decide)))
                exact rg_op rfl rfl (rg_value (v := .bool true) (w' := wx) (by simp [execOp, go_sem, t27, t32]) (hK _ _ (Below.refl _ _) ((fV_b (by decide)).2 rfl)))
              · obtain rfl : _ = o := Option.some.inj ho
                have t33 := slot_nf (show slot a 96 = .bool true from (fV_b (by decide)).1 (hdep ⟨33, .data⟩ (by simp) rfl (by decide)))
                exact rg_op rfl rfl (rg_value (v := .bool true) (w' := wx) (by simp [execOp, go_sem, t33]) (hK _ _ (Below.refl _ _) ((fV_b (by decide)).2 rfl)))
            · intro a wx hF hb hV hs
              have h0 : slot a 6 = .bool true := (fV_b (by decide)).1 (hV 34 (by decide) (by decide))
              obtain ⟨t, df⟩ := a
              obtain rfl : df = [] := hF.dfr
              go_wp2
              exact bodyPost_ret (v := .bool true) ((results_tmp rfl _ _ _).trans (by rw [show t.getD 6 undef = .bool true from h0])) rfl ⟨rfl, (HS.out.next hb).bel⟩
  · by_cases hz3 : z ≤ 300
    · have hld : (20 : Int) < (L.length : Int) := by omega
      have hzd : decide (z ≤ 300) = true := by simpa using hz3
      rw [hzd] at G_light
      clear hzd hz3 hsm
      go_enter Tryz.func6, Tryz.ntmps6
      go_wp2_with fail
      (with_reducible refine (G_lives5.out.go _ (HG.out _ HS.out.bel)).mono ?_)
      rintro e w1 ⟨rfl, hb⟩
      replace HS := Lib.hid (HS.out.next hb)
      clear hb
      obtain ⟨a0, a1, a2, a3⟩ := HR.out _ HS.out
      go_wp2_with fail
      (with_reducible refine (G_light.out.go _ (HG.out _ HS.out.bel)).mono ?_)
      rintro e w2 ⟨rfl, hb⟩
      replace HS := Lib.hid (HS.out.next hb)
      clear hb a0 a1 a2 a3
      go_wp2
      go_ret
      exact ⟨rfl, HS.out.bel⟩
    · have hzd : decide (z ≤ 300) = false := by simpa using hz3
      rw [hzd] at G_light
      clear hzd hz3 hsm
      go_enter Tryz.func6, Tryz.ntmps6
      go_wp2_with fail
      (with_reducible refine (G_lives5.out.go _ (HG.out _ HS.out.bel)).mono ?_)
      rintro e w1 ⟨rfl, hb⟩
      replace HS := Lib.hid (HS.out.next hb)
      clear hb
      obtain ⟨a0, a1, a2, a3⟩ := HR.out _ HS.out
      go_wp2_with fail
      (with_reducible refine (G_light.out.go _ (HG.out _ HS.out.bel)).mono ?_)
      rintro e w2 ⟨rfl, hb⟩
      replace HS := Lib.hid (HS.out.next hb)
      clear hb a0 a1 a2 a3
      go_wp2
      go_ret
      exact ⟨rfl, HS.out.bel⟩
end Go.Proofs.YtpmlldgjbmingaaGreatDoor
