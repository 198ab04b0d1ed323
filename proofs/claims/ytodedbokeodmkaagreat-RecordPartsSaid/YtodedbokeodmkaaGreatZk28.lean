/-
  A name read where it stands: the walks of unpack.begin, read, Name, Plain, Jumps, Skip. Conditions: as each theorem names them.
-/
import Derived.Test.YtodedbokeodmkaaGreatZk27
import Derived.Deep.LoopGhost
namespace Go.Proofs.YtodedbokeodmkaaGreat
open Go.RowKit
set_option linter.unusedVariables false

theorem Lies.eight {w : World} {g : Nat} {t : TypeId} {c0 c1 c2 c3 c4 c5 c6 c7 : Value} (h : Lies w g t #[c0, c1, c2, c3, c4, c5, c6, c7]) :
    (w.cell? ⟨g, 0, none⟩ = some c0 ∧ w.cell? ⟨g, 1, none⟩ = some c1 ∧ w.cell? ⟨g, 2, none⟩ = some c2 ∧ w.cell? ⟨g, 3, none⟩ = some c3 ∧ w.cell? ⟨g, 4, none⟩ = some c4 ∧ w.cell? ⟨g, 5, none⟩ = some c5 ∧ w.cell? ⟨g, 6, none⟩ = some c6 ∧ w.cell? ⟨g, 7, none⟩ = some c7) :=
  ⟨h.cell 0, h.cell 1, h.cell 2, h.cell 3, h.cell 4, h.cell 5, h.cell 6, h.cell 7⟩
theorem Lies.eightF {w : World} {g : Nat} {t : TypeId} {cs : Array Value} (h : Lies w g t cs) :
    (w.frozen? ⟨g, 0, none⟩ = false ∧ w.frozen? ⟨g, 1, none⟩ = false ∧ w.frozen? ⟨g, 2, none⟩ = false ∧ w.frozen? ⟨g, 3, none⟩ = false ∧ w.frozen? ⟨g, 4, none⟩ = false ∧ w.frozen? ⟨g, 5, none⟩ = false ∧ w.frozen? ⟨g, 6, none⟩ = false ∧ w.frozen? ⟨g, 7, none⟩ = false) :=
  ⟨h.free 0, h.free 1, h.free 2, h.free 3, h.free 4, h.free 5, h.free 6, h.free 7⟩
/-- The walk that begin hands back. -/
abbrev begV (S : ByteArray) (a r : Int) (f : Nat) : Value := .agg #[.slice none 0 0, .int .i64 0, .int .i64 0, .int .i64 f, .string S, .int .i64 r, .int .i64 a, .string ⟨#[]⟩]
set_option maxHeartbeats 400000 in
theorem beg_yes (S : ByteArray) (a r : Int) (w : World) (hs : S.size ≤ maxLen) (h0 : 0 ≤ a) (ha : a ≤ S.size) :
    Calls Tryz.prog 214 #[.string S, .int .i64 a, .int .i64 r] w fun e w' => e = .returned (begV S a r 0) ∧ Below w.heap.size w w' := by
  unfold maxLen at hs
  have hd1 : decide (a < 0) = false := by simp; omega
  have hd2 : decide ((S.size : Int) < a) = false := by simp; omega
  go_enter Tryz.func214, Tryz.ntmps214
  go_wp2
  exact bodyPost_ret (v := begV S a r 0) (by simp [results, Tryz.results214, go_sem]) rfl ⟨rfl, ((Below.refl _ _).alloc (Nat.le_refl _) _).alloc (by simp) _⟩
set_option maxHeartbeats 400000 in
theorem beg_no (S : ByteArray) (a r : Int) (w : World) (hs : S.size ≤ maxLen) (ha : a < 0 ∨ (S.size : Int) < a) :
    Calls Tryz.prog 214 #[.string S, .int .i64 a, .int .i64 r] w fun e w' => e = .returned (begV S a r 2) ∧ Below w.heap.size w w' := by
  unfold maxLen at hs
  have HF : Hid (∀ o, Calls Tryz.prog 222 #[wp_ (w.heap.size + 1), .int .i64 2] ((w.alloc o).alloc (.cells #[.slice none 0 0, .int .i64 0, .int .i64 0, .int .i64 0, .string S, .int .i64 r, .int .i64 a, .string ⟨#[]⟩] 252)) (Failed ((w.alloc o).alloc (.cells #[.slice none 0 0, .int .i64 0, .int .i64 0, .int .i64 0, .string S, .int .i64 r, .int .i64 a, .string ⟨#[]⟩] 252)) (w.heap.size + 1) 2 (.string S) (.int .i64 r) (.int .i64 a) (.string ⟨#[]⟩))) := Lib.hid fun o => by
    have h1 := Lies.new (w.alloc o) 252 #[.slice none 0 0, .int .i64 0, .int .i64 0, .int .i64 0, .string S, .int .i64 r, .int .i64 a, .string ⟨#[]⟩]
    rw [show (w.alloc o).heap.size = w.heap.size + 1 by simp] at h1
    exact fail_cells h1 2
  rcases Int.lt_or_le a 0 with h0 | h0
  · have hd1 : decide (a < 0) = true := by simp; omega
    clear ha
    go_enter Tryz.func214, Tryz.ntmps214
    go_wp2_with (go_at_call 222; (with_reducible refine (HF.out _).mono ?_); rintro e1 w1 ⟨rfl, hl1, hg1⟩; have HL1 := Lib.hid hl1; have HG1 := Lib.hid hg1; obtain ⟨k0, k1, k2, k3, k4, k5, k6, k7⟩ := hl1.eight; have hl0 := Lies.grown ((Lies.new w 252 #[.slice none 0 0, .int .i64 0, .int .i64 0, .int .i64 0, .string ⟨#[]⟩, .int .i64 0, .int .i64 0, .string ⟨#[]⟩]).alloc _) hg1 (by simp); obtain ⟨m0, m1, m2, m3, m4, m5, m6, m7⟩ := hl0.eight; obtain ⟨z0, z1, z2, z3, z4, z5, z6, z7⟩ := hl0.eightF; have HL0 := Lib.hid hl0; clear hl1 hg1 hl0)
    have hB : Below w.heap.size w w1 := (((Below.refl w.heap.size w).alloc (Nat.le_refl _) _).alloc (by simp) _).grown HG1.out (by simp; omega) (fun k hk => by injection hk with hk; omega)
    exact bodyPost_ret (v := begV S a r 2) (by simp [results, Tryz.results214, go_sem, m0, m1, m2, m3, m4, m5, m6, m7]) rfl ⟨rfl, (((((((hB.setCell (Nat.le_refl _) _).setCell (Nat.le_refl _) _).setCell (Nat.le_refl _) _).setCell (Nat.le_refl _) _).setCell (Nat.le_refl _) _).setCell (Nat.le_refl _) _).setCell (Nat.le_refl _) _).setCell (Nat.le_refl _) _⟩
  · have hd1 : decide (a < 0) = false := by simp; omega
    have hd2 : decide ((S.size : Int) < a) = true := by simp; omega
    clear ha
    go_enter Tryz.func214, Tryz.ntmps214
    go_wp2_with (go_at_call 222; (with_reducible refine (HF.out _).mono ?_); rintro e1 w1 ⟨rfl, hl1, hg1⟩; have HL1 := Lib.hid hl1; have HG1 := Lib.hid hg1; obtain ⟨k0, k1, k2, k3, k4, k5, k6, k7⟩ := hl1.eight; have hl0 := Lies.grown ((Lies.new w 252 #[.slice none 0 0, .int .i64 0, .int .i64 0, .int .i64 0, .string ⟨#[]⟩, .int .i64 0, .int .i64 0, .string ⟨#[]⟩]).alloc _) hg1 (by simp); obtain ⟨m0, m1, m2, m3, m4, m5, m6, m7⟩ := hl0.eight; obtain ⟨z0, z1, z2, z3, z4, z5, z6, z7⟩ := hl0.eightF; have HL0 := Lib.hid hl0; clear hl1 hg1 hl0)
    have hB : Below w.heap.size w w1 := (((Below.refl w.heap.size w).alloc (Nat.le_refl _) _).alloc (by simp) _).grown HG1.out (by simp; omega) (fun k hk => by injection hk with hk; omega)
    exact bodyPost_ret (v := begV S a r 2) (by simp [results, Tryz.results214, go_sem, m0, m1, m2, m3, m4, m5, m6, m7]) rfl ⟨rfl, (((((((hB.setCell (Nat.le_refl _) _).setCell (Nat.le_refl _) _).setCell (Nat.le_refl _) _).setCell (Nat.le_refl _) _).setCell (Nat.le_refl _) _).setCell (Nat.le_refl _) _).setCell (Nat.le_refl _) _).setCell (Nat.le_refl _) _⟩

/-- What read hands back. -/
def Found (w : World) (u : US) (e : Ending) (w' : World) : Prop := ∃ v, e = .returned (.agg #[v, .int .i64 u.e, .int .i64 u.j, .int .i64 u.f]) ∧ Own 5 w' w.heap.size v u.l ∧ Below w.heap.size w w'
/-- The block of what read hands back, ahead of its end. -/
abbrev FL (wr : World) (b : Nat) : Prop := Lies wr b 242 #[.slice none 0 0, .int .i64 0, .int .i64 0, .int .i64 0]
/-- The relation of both loops. -/
def RdRel' (S : ByteArray) (w : World) (g : Nat) (u : US) (k : Nat) (s : US) (wr : World) : Prop :=
  WK wr w.heap.size g S s ∧ InvU S.size s ∧ muU (bs S) s ≤ k ∧ runU (bs S) k s = u ∧ Below w.heap.size w wr ∧ FL wr w.heap.size
def OutRel (S : ByteArray) (w : World) (g : Nat) (u : US) (k : Nat) (wr : World) : Prop := ∃ s, RdRel' S w g u k s wr
def InRel (S : ByteArray) (w : World) (g : Nat) (u : US) (m k : Nat) (wr : World) : Prop := ∃ s, RdRel' S w g u k s wr ∧ k ≤ m ∧ (s.f = 0 ∨ k < m)
theorem WK.other {w w' : World} {base g h : Nat} {S : ByteArray} {s : US} {t : TypeId} {cs : Array Value} (hW : WK w base g S s) (hk : Kp base g w w') (hL : Lies w h t cs) (hne : h ≠ g) (ht : t ≠ 5) : Lies w' h t cs := by
  obtain ⟨v, R, P, T, hL2, hown, _⟩ := hW
  refine (hk.rest h hL.lt hne ?_).trans hL
  rw [rowOf_lies hL2 rfl]
  exact hown.ne_lies hL ht
/-- The round's next state, the call's own block beside it. -/
theorem RdRel'.next {S : ByteArray} {w wr w' : World} {g k k' : Nat} {u s s' : US} (h : RdRel' S w g u k s wr) (hg : w.heap.size < g) (hW : WK w' w.heap.size g S s') (hk : Kp w.heap.size g wr w') (hi : InvU S.size s') (hm : muU (bs S) s' ≤ k') (hr : runU (bs S) k' s' = u) : RdRel' S w g u k' s' w' :=
  ⟨hW, hi, hm, hr, h.2.2.2.2.1.trans hk.below, h.1.other hk h.2.2.2.2.2 (by omega) (by decide)⟩
theorem found_end {S : ByteArray} {w wr : World} {g : Nat} {u : US} {v R P T : Value} {k : Nat} (hL : Lies wr g 252 #[v, .int .i64 u.e, .int .i64 u.j, .int .i64 u.f, .string S, R, P, T]) (hown : Own 5 wr w.heap.size v u.l) (hb : Below w.heap.size w wr) (hF : FL wr w.heap.size) :
    Found w u (.returned (.agg #[v, .int .i64 u.e, .int .i64 u.j, .int .i64 u.f])) ((((wr.setCell ⟨w.heap.size, 0, none⟩ v).setCell ⟨w.heap.size, 1, none⟩ (.int .i64 u.e)).setCell ⟨w.heap.size, 2, none⟩ (.int .i64 u.j)).setCell ⟨w.heap.size, 3, none⟩ (.int .i64 u.f)) :=
  ⟨v, rfl, Own.grown hown (grown_next (grown_next (grown_next (grown_set (base := 0) _ _ 0 _) (grown_set (base := 0) _ _ 1 _)) (grown_set (base := 0) _ _ 2 _)) (grown_set (base := 0) _ _ 3 _)) (.inr (Own.ne_lies hown hF (by decide)).symm), (((hb.setCell (Nat.le_refl _) _).setCell (Nat.le_refl _) _).setCell (Nat.le_refl _) _).setCell (Nat.le_refl _) _⟩
set_option maxHeartbeats 2000000 in
theorem read_yes (S : ByteArray) (a r : Nat) (w : World) (hs : S.size ≤ maxLen) (ha : a ≤ S.size) (hr : a + r ≤ a + S.size) :
    Calls Tryz.prog 204 #[.string S, .int .i64 a, .int .i64 r] w (Found w (runU (bs S) (muU (bs S) (begU a r)) (begU a r))) := by
  have HBeg := Lib.hid fun wx => beg_yes S a r wx hs (by omega) (by omega)
  obtain ⟨u, hu⟩ : ∃ u, runU (bs S) (muU (bs S) (begU a r)) (begU a r) = u := ⟨_, rfl⟩
  obtain ⟨n0, hn0⟩ : ∃ n, muU (bs S) (begU a r) = n := ⟨_, rfl⟩
  rw [hu]
  rw [hn0] at hu
  have HU := Lib.hid hu
  have HN := Lib.hid hn0
  have HI0 := Lib.hid (begU_inv ha (show r ≤ S.size by omega))
  have HS := Lib.hid hs
  clear hu hn0
  go_enter Tryz.func204, Tryz.ntmps204
  go_wp2
  go_step3
  go_wp2_with (go_at_call 214; (with_reducible refine (HBeg.out _).mono ?_); rintro e1 w1 ⟨rfl, hb1⟩; have HB1 := Lib.hid hb1; clear hb1)
  go_step3
  go_wp2
  have HR0 : Hid (OutRel S w w1.heap.size u n0 (w1.alloc (.cells #[.slice none 0 0, .int .i64 0, .int .i64 0, .int .i64 0, .string S, .int .i64 r, .int .i64 a, .string ⟨#[]⟩] 252))) := Lib.hid ⟨begU a r, ⟨.slice none 0 0, _, _, _, Lies.new _ _ _, Own.none_ _ _, fun _ => ⟨rfl, rfl, rfl⟩⟩, HI0.out, by rw [HN.out]; exact Nat.le_refl _, HU.out, ((((Below.refl w.heap.size w).alloc (Nat.le_refl _) _).trans (HB1.out.mono (by simp))).alloc (by have := HB1.out.size; simp at this; omega) _), ((Lies.new w _ _).next HB1.out).alloc _⟩
  have hg : w.heap.size < w1.heap.size := by have := HB1.out.size; simp at this; omega
  go_loopg [] n0 (fun k wr => OutRel S w w1.heap.size u k wr)
  case atStart => exact HR0.out
  case round =>
    clear HR0
    obtain ⟨s, hR⟩ := hrel
    have HR := Lib.hid hR
    obtain ⟨hW, hi, hmu, hrun, hb, hF⟩ := hR
    obtain ⟨c0, R, P, T, hL, hown, hz⟩ := hW
    have hc3 : wr.cell? ⟨w1.heap.size, 3, none⟩ = some (.int .i64 s.f) := hL.cell 3
    by_cases hf : s.f = 0
    · have hfb : ((s.f : Int) == 0) = true := by rw [beq_iff_eq]; omega
      have HFz := Lib.hid hf
      rcases gk with _ | m
      · rw [show muU (bs S) s = _ from if_neg (by omega)] at hmu
        omega
      clear hmu hrun hb hF hL hown hz hf hi
      go_wp2
      go_loopg [] (m + 1) (fun k wr => InRel S w w1.heap.size u (m + 1) k wr)
      case atStart => exact ⟨s, HR.out, Nat.le_refl _, .inl HFz.out⟩
      case round =>
        clear HR HFz hc3 hfb
        obtain ⟨s, hR, hkm, hfk⟩ := hrel
        have HR := Lib.hid hR
        obtain ⟨hW, hi, hmu, hrun, hb, hF⟩ := hR
        have HW := Lib.hid hW
        have HI := Lib.hid hi
        by_cases hf : s.f = 0
        · rcases gk with _ | k
          · rw [show muU (bs S) s = _ from if_neg (by omega)] at hmu
            omega
          by_cases he : (partU ((bs S).drop s.p)).2 = 0
          · obtain ⟨s2, hs2⟩ : ∃ s2, overU (bs S) s (partU ((bs S).drop s.p)).1 = s2 := ⟨_, rfl⟩
            have hf2 : s2.f = 0 := by rw [← hs2]; exact hf
            have hi2 : InvU S.size s2 := by rw [← hs2, ← bs_length]; exact overU_inv (by rw [bs_length]; exact hi) he
            have htl := overU_t he
            have hpo := partU_ok he
            rw [hs2] at htl
            have HStep := Lib.hid (step_yes hW (Nat.le_of_lt hg) hf hi HS.out he)
            rw [hs2] at HStep
            have HI2 := Lib.hid hi2
            have HF2 := Lib.hid hf2
            obtain ⟨T2, hT2⟩ : ∃ T2 : ByteArray, (⟨s2.t.toArray⟩ : ByteArray) = T2 := ⟨_, rfl⟩
            have hTb : bs T2 = s2.t := by rw [← hT2, bs_mk]
            have HT2 := Lib.hid hT2
            by_cases ht : s2.t = [0]
            · have hq1 : T2.toList = [0] := by rw [bs_toList, hTb, ht]
              have hq2 : (T2.toList == [0]) = true := by rw [hq1]; rfl
              have hu2 : s2 = u := by rw [← hrun, runU_end hf he (by rw [hs2]; exact ht), hs2]
              subst hu2
              clear hmu hrun hb hF hW hf hi he hfk hs2 hf2 hi2 htl hpo hT2 hTb ht
              go_wp2_with (go_at_call 215; (with_reducible refine HStep.out.mono ?_); rintro e2 w2 ⟨rfl, hw2, hk2⟩; have hF2 := HW.out.other hk2 HR.out.2.2.2.2.2 (by omega) (by decide); have hb2 := HR.out.2.2.2.2.1.trans hk2.below; obtain ⟨c0, R, P, T, hL, hown, hz⟩ := hw2; obtain ⟨rfl, rfl, rfl⟩ := hz HF2.out; rw [HT2.out] at hL; obtain ⟨A, cap, rfl⟩ := hown.shape; obtain ⟨k0, k1, k2, k3, k4, k5, k6, k7⟩ := hL.eight; have m0 := hF2.cell 0; have m1 := hF2.cell 1; have m2 := hF2.cell 2; have m3 := hF2.cell 3; obtain ⟨z0, z1, z2, z3, _, _, _, _⟩ := hF2.eightF; have HE := Lib.hid (found_end (k := 0) hL hown hb2 hF2); clear hF2 hb2 hL hown hz hk2)
              try rw [Exit.noGoto_ret]
              refine bodyPost_ret (v := .agg #[_, .int .i64 _, .int .i64 _, .int .i64 _]) (by simp [results, Tryz.results204, go_sem, m0, m1, m2, m3]) rfl HE.out
            · have hne : T2.toList ≠ [0] := by rw [bs_toList, hTb]; exact ht
              have hq1 : ¬ T2.toList = [0] := hne
              have hq2 : (T2.toList == [0]) = false := by rw [beq_eq_false_iff_ne]; exact hne
              have hne0 : s2.t ≠ [] := fun e => by rw [e] at htl; simp at htl; omega
              cases hp : isPtr s2.t
              · have HPtr : Hid (∀ wx, WK wx w.heap.size w1.heap.size S s2 → Calls Tryz.prog 216 #[wp_ w1.heap.size] wx fun e w' => e = .returned (.bool false) ∧ wx = w') := Lib.hid fun wx hx => by have := ptr_any hx hf2 hne0; rw [hp] at this; exact this
                have HKeep := Lib.hid fun wx (hx : WK wx w.heap.size w1.heap.size S s2) => keep_any hx (Nat.le_of_lt hg) hf2 hi2
                have HNx : Hid (∀ w', WK w' w.heap.size w1.heap.size S (keepU s2) → Kp w.heap.size w1.heap.size wr w' → InRel S w w1.heap.size u (m + 1) k w') := Lib.hid fun w' h1 h2 => ⟨_, HR.out.next hg h1 h2 (keepU_inv hi2) (by rw [← hs2]; exact mu_keep (by rw [bs_length]; exact hi) he hf hmu) (by rw [← hrun, runU_lab hf he (by rw [hs2]; exact ht) (by rw [hs2]; exact hp), hs2]), by omega, .inr (by omega)⟩
                clear hmu hrun hb hF hW hf hi he hfk hs2 hf2 hi2 htl hpo hT2 hTb ht hne hne0 hp
                go_wp2_with (first | (go_at_call 215; (with_reducible refine HStep.out.mono ?_); rintro e2 w2 ⟨rfl, hw2, hk2⟩; have HW2 := Lib.hid hw2; have HK2 := Lib.hid hk2; obtain ⟨c0, R, P, T, hL, hown, hz⟩ := hw2; obtain ⟨rfl, rfl, rfl⟩ := hz HF2.out; rw [HT2.out] at hL; have k7 : w2.cell? ⟨w1.heap.size, 7, none⟩ = some (.string T2) := hL.cell 7; clear hL hown hz hk2) | (go_at_call 216; (with_reducible refine (HPtr.out _ HW2.out).mono ?_); rintro e2 w' ⟨rfl, rfl⟩) | (go_at_call 218; (with_reducible refine (HKeep.out _ HW2.out).mono ?_); rintro e3 w3 ⟨rfl, hw3, hk3⟩; have HO3 := Lib.hid (HNx.out _ hw3 (HK2.out.trans hk3)); clear hw3 hk3))
                go_roundg k
                case measure => omega
                case rel => exact HO3.out
              · have HPtr : Hid (∀ wx, WK wx w.heap.size w1.heap.size S s2 → Calls Tryz.prog 216 #[wp_ w1.heap.size] wx fun e w' => e = .returned (.bool true) ∧ wx = w') := Lib.hid fun wx hx => by have := ptr_any hx hf2 hne0; rw [hp] at this; exact this
                have h2 : s2.t.length = 2 := by
                  obtain ⟨p1, p2, p3, c, t, hct, hor⟩ := hpo
                  have e : s2.t = (c :: t).take (partU ((bs S).drop s.p)).1 := by rw [← hs2]; show ((bs S).drop s.p).take _ = _; rw [hct]
                  obtain ⟨x, hx⟩ : ∃ x, (partU ((bs S).drop s.p)).1 = x + 1 := ⟨(partU ((bs S).drop s.p)).1 - 1, by omega⟩
                  rw [hx, List.take_succ_cons] at e
                  have hc : 192 ≤ c.toNat := by rw [e] at hp; simpa [isPtr] using hp
                  omega
                have HFol := Lib.hid fun wx (hx : WK wx w.heap.size w1.heap.size S s2) => follow_any hx (Nat.le_of_lt hg) hf2 hi2 HS.out hp h2
                have HNx : Hid (∀ w', WK w' w.heap.size w1.heap.size S (followU s2) → Kp w.heap.size w1.heap.size wr w' → OutRel S w w1.heap.size u k w') := Lib.hid fun w' h1 h2 => ⟨_, HR.out.next hg h1 h2 (followU_inv hi2) (by rw [← hs2]; exact mu_follow (by rw [bs_length]; exact hi) he hf hmu) (by rw [← hrun, runU_ptr hf he (by rw [hs2]; exact ht) (by rw [hs2]; exact hp), hs2])⟩
                clear hmu hrun hb hF hW hf hi he hfk hs2 hf2 hi2 htl hpo hT2 hTb ht hne hne0 hp h2
                go_wp2_with (first | (go_at_call 215; (with_reducible refine HStep.out.mono ?_); rintro e2 w2 ⟨rfl, hw2, hk2⟩; have HW2 := Lib.hid hw2; have HK2 := Lib.hid hk2; obtain ⟨c0, R, P, T, hL, hown, hz⟩ := hw2; obtain ⟨rfl, rfl, rfl⟩ := hz HF2.out; rw [HT2.out] at hL; have k7 : w2.cell? ⟨w1.heap.size, 7, none⟩ = some (.string T2) := hL.cell 7; clear hL hown hz hk2) | (go_at_call 216; (with_reducible refine (HPtr.out _ HW2.out).mono ?_); rintro e2 w' ⟨rfl, rfl⟩) | (go_at_call 217; (with_reducible refine (HFol.out _ HW2.out).mono ?_); rintro e3 w3 ⟨rfl, hw3, hk3⟩; have HO3 := Lib.hid (HNx.out _ hw3 (HK2.out.trans hk3)); clear hw3 hk3))
                go_roundg k
                case measure => omega
                case rel => exact HO3.out
          · have HStep := Lib.hid (step_bad hW (Nat.le_of_lt hg) hf hi HS.out he)
            have HNx : Hid (∀ w', WK w' w.heap.size w1.heap.size S (failU s (partU ((bs S).drop s.p)).2) → Kp w.heap.size w1.heap.size wr w' → OutRel S w w1.heap.size u k w') := Lib.hid fun w' h1 h2 => ⟨_, HR.out.next hg h1 h2 (failU_inv hi _) (by rw [show muU (bs S) (failU s _) = 0 from if_pos he]; omega) (by rw [runU_stop (show (failU s _).f ≠ 0 from he), ← hrun, runU_bad hf he])⟩
            clear hmu hrun hb hF hW hf hi he hfk
            go_wp2_with (go_at_call 215; (with_reducible refine HStep.out.mono ?_); rintro e2 w2 ⟨rfl, hw2, hk2⟩; have HO2 := Lib.hid (HNx.out _ hw2 hk2); clear hw2 hk2)
            go_roundg k
            case measure => omega
            case rel => exact HO2.out
        · have hgk : gk < m + 1 := hfk.resolve_left hf
          have HStep := Lib.hid (step_no hW hf)
          have HNx : Hid (∀ w', WK w' w.heap.size w1.heap.size S s → Kp w.heap.size w1.heap.size wr w' → OutRel S w w1.heap.size u gk w') := Lib.hid fun w' h1 h2 => ⟨_, HR.out.next hg h1 h2 hi hmu hrun⟩
          clear hmu hrun hb hF hW hf hi hfk
          go_wp2_with (go_at_call 215; (with_reducible refine HStep.out.mono ?_); rintro e2 w2 ⟨rfl, hw2, hk2⟩; have HO2 := Lib.hid (HNx.out _ hw2 hk2); clear hw2 hk2)
          go_roundg gk
          case measure => omega
          case rel => exact HO2.out
    · have hfb : ((s.f : Int) == 0) = false := by rw [beq_eq_false_iff_ne]; omega
      have hu : s = u := by rw [← hrun, runU_stop hf]
      subst hu
      obtain ⟨A, cap, rfl⟩ := hown.shape
      obtain ⟨k0, k1, k2, k3, k4, k5, k6, k7⟩ := hL.eight
      have m0 := hF.cell 0
      have m1 := hF.cell 1
      have m2 := hF.cell 2
      have m3 := hF.cell 3
      obtain ⟨z0, z1, z2, z3, _, _, _, _⟩ := hF.eightF
      have HE := Lib.hid (found_end (k := 0) hL hown hb hF)
      clear hmu hrun hb hF hL hown hz hf hi
      go_wp2
      try rw [Exit.noGoto_ret]
      refine bodyPost_ret (v := .agg #[_, .int .i64 _, .int .i64 _, .int .i64 _]) (by simp [results, Tryz.results204, go_sem, m0, m1, m2, m3]) rfl HE.out
end Go.Proofs.YtodedbokeodmkaaGreat
