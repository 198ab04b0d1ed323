/-
  HashSame: the walk. Condition: the strings are no longer than Go's own limit, the number fits its kind.
-/
import Derived.Test.YtmjhofgcfolelaaHsA
import Derived.Test.YtmjhofgcfolelaaPick
import Derived.Test.YtmjhofgcfolelaaCls
namespace Go.Proofs.Ytmjhofgcfolelaa
open Go.RowKit
set_option linter.unusedVariables false

theorem foldN_foldN {l : List UInt8} (h : chkN l = 0) : foldN (foldN l) = foldN l := by
  have e : foldN l = fold l := if_pos h
  rw [e]
  have e2 : foldN (fold l) = fold (fold l) := if_pos (foldN_facts h).2.1
  rw [e2, fold_fold]
theorem samN_same {a b : List UInt8} (h : samN a b = true) : foldN a = foldN b := by
  have h' := h
  unfold samN at h'
  simp only [Bool.and_eq_true, beq_iff_eq] at h'
  rw [samN_fold h'.1.1 h'.1.2] at h
  simpa using h
theorem slot_eq {a b : List UInt8} (h : foldN a = foldN b) (k : Int) : nameH b = nameH a ∧ slotH b k = slotH a k := by
  have e : nameH b = nameH a := by unfold nameH; rw [h]
  exact ⟨e, by unfold slotH; rw [e]⟩

set_option maxRecDepth 100000 in
set_option maxHeartbeats 4000000 in
theorem hsame_lo (a b s : ByteArray) (cut k : Int) (w : World) (ha : a.size ≤ 400) (hb : b.size ≤ 400) (hs : s.size ≤ 400) (hk : k ≤ 9223372036854775807) (h1 : k < 1) :
    Calls Try.prog 6 #[.string a, .string b, .string s, .int .i64 cut, .int .i64 k] w fun e w' => e = .returned (.bool true) ∧ Below w.heap.size w w' := by
  have ham : a.size ≤ maxLen := by unfold maxLen; omega
  have hbm : b.size ≤ maxLen := by unfold maxLen; omega
  have hL := Lib.hid lives13
  obtain ⟨hp0, hp1⟩ := pick_range (i := cut) (n := (s.size : Int) + 1) (by omega)
  have hP := Lib.hid fun wx => Pick_any cut ((s.size : Int) + 1) wx (by omega) (by omega)
  obtain ⟨c, hc⟩ : ∃ c : Nat, pick cut ((s.size : Int) + 1) = (c : Int) := ⟨_, (Int.toNat_of_nonneg hp0).symm⟩
  rw [hc] at hP hp1
  have hcs : c ≤ s.size := by omega
  have hci : (c : Int) ≤ s.size := by omega
  obtain ⟨S1, hS1⟩ : ∃ S, S = s.extract 0 c := ⟨_, rfl⟩
  obtain ⟨S2, hS2⟩ : ∃ S, S = s.extract c s.size := ⟨_, rfl⟩
  have z1 : S1.size ≤ maxLen := by rw [hS1]; simp [ByteArray.size_extract]; unfold maxLen; omega
  have z2 : S2.size ≤ maxLen := by rw [hS2]; simp [ByteArray.size_extract]; unfold maxLen; omega
  obtain ⟨V, hV⟩ : ∃ V, sumH (bs s) = V := ⟨_, rfl⟩
  obtain ⟨V1, hV1⟩ : ∃ V, sumH (bs S1) = V := ⟨_, rfl⟩
  have hcat : bs S1 ++ bs S2 = bs s := by
    rw [hS1, hS2, bs_extract, bs_extract, List.drop_zero, Nat.sub_zero, List.take_of_length_le (l := (bs s).drop c) (by rw [List.length_drop, bs_length]; omega), List.take_append_drop]
  obtain ⟨F, hF⟩ : ∃ F : ByteArray, foldN (bs a) = bs F := ⟨_, (bs_mk _).symm⟩
  have hFm : F.size ≤ maxLen := by
    have e : F.size = (foldN (bs a)).length := by rw [hF, bs_length]
    have := foldN_le (bs a)
    rw [bs_length] at this
    rw [e]
    exact Nat.le_trans this ham
  have g2 := Lib.hid (gSum z1 hV1)
  have g3 := Lib.hid (gMore V1 z2 (v := V) (by rw [← hV1, ← hV]; unfold sumH; rw [← moreH_app, hcat]))
  have g4 := Lib.hid (gSum (s := s) (by unfold maxLen; omega) hV)
  rw [hS1] at g2
  rw [hS2] at g3
  have g5 := Lib.hid (gFold ham hF)
  have HFF : Hid (chkN (bs a) = 0 → nameH (bs F) = nameH (bs a)) := Lib.hid fun h => by rw [← hF]; unfold nameH; rw [foldN_foldN h]
  have hv : (V != V) = false := by simp
  clear hS1 hS2 z1 z2 hV hV1 hcat hF hc hp0 hp1 hcs
  have hK0 : slotH (bs a) k = 0 := if_pos h1
  obtain ⟨K, hK⟩ : ∃ K : Int, K = 0 := ⟨_, rfl⟩
  have hK1 : slotH (bs a) k = K := hK0.trans hK.symm
  have HK := Lib.hid hK1
  have g1 := Lib.hid (gSlot ham hk hK1)
  have hKb : (K != 0) = false := by rw [hK]; rfl
  have h1b : ¬ 1 ≤ k := by omega
  have d1 : decide (1 ≤ k) = false := decide_eq_false h1b
  have d2 : decide (k < 1) = true := decide_eq_true h1
  clear hK0 hK hK1
  go_enter Try.func6, Try.ntmps6
  go_wp2_with fail
  refine (hL.out.go _).mono ?_
  rintro e w1 ⟨rfl, hb1⟩
  have HB1 := Lib.hid hb1
  clear hb1
  go_wp2_with fail
  refine (hP.out _).mono ?_
  rintro e w2 ⟨rfl, rfl⟩
  go_wp2_with fail
  refine (g1.out.go _).mono ?_
  rintro e w3 ⟨rfl, hb3⟩
  have HB3 := Lib.hid (next HB1.out hb3)
  clear hb3
  go_wp2
  obtain ⟨Ix, f, i0, hf0, hCn', hstep'⟩ := cls_of w3
  have HCn := Lib.hid hCn'
  have Hstep := Lib.hid hstep'
  clear hCn' hstep'
  haveI : Nonempty Ix := ⟨i0⟩
  have V2 := Lib.hid (fun n => cls_go g2.out Hstep.out n)
  have V3 := Lib.hid (fun n => cls_go g3.out Hstep.out n)
  have V4 := Lib.hid (fun n => cls_go g4.out Hstep.out n)
  refine wp_region_class f (by kernel_rfl) (lexB_of (by kernel_rfl) (by as_aux_lemma => kernel_rfl)) i0 hf0 ?_
  clear hf0
  repeat (go_big_quiet_step (first | (with_reducible exact V2.out _) | (with_reducible exact V3.out _) | (with_reducible exact V4.out _)))
  refine wpQuiet_nil ?_
  intro _ hw'
  obtain ⟨nE, hw''⟩ := hw'
  subst hw''
  have HB4 := Lib.hid (next HB3.out (HCn.out nE))
  obtain ⟨w4, hw4⟩ : ∃ w4, f nE = w4 := ⟨_, rfl⟩
  rw [hw4] at HB4 ⊢
  clear hw4 V2 V3 V4 HCn Hstep
  go_wp2_with fail
  refine (g5.out.go _).mono ?_
  rintro e w5 ⟨rfl, hb5⟩
  have HB5 := Lib.hid (next HB4.out hb5)
  clear hb5
  rcases Nat.eq_zero_or_pos (chkN (bs a)) with hch | hch
  · have g6 := Lib.hid (gCheck ham hch)
    have g7 := Lib.hid (gName hFm (HFF.out hch))
    have g8 := Lib.hid (gName ham (v := nameH (bs a)) rfl)
    obtain ⟨M, hM⟩ : ∃ M, nameH (bs a) = M := ⟨_, rfl⟩
    rw [hM] at g7 g8
    have hMM : (M == M) = true := by simp
    cases hsm : samN (bs a) (bs b) with
    | false =>
      have g9 := Lib.hid (gSame ham hbm hsm)
      clear hsm hM hch HFF
      go_wp2_with fail
      refine (g6.out.go _).mono ?_
      rintro e w6 ⟨rfl, hb6⟩
      have HB6 := Lib.hid (next HB5.out hb6)
      clear hb6
      go_wp2_with fail
      refine (g7.out.go _).mono ?_
      rintro e w7 ⟨rfl, hb7⟩
      have HB7 := Lib.hid (next HB6.out hb7)
      clear hb7
      go_wp2_with fail
      refine (g8.out.go _).mono ?_
      rintro e w8 ⟨rfl, hb8⟩
      have HB8 := Lib.hid (next HB7.out hb8)
      clear hb8
      go_wp2_with fail
      refine (g9.out.go _).mono ?_
      rintro e w9 ⟨rfl, hb9⟩
      have HB9 := Lib.hid (next HB8.out hb9)
      clear hb9
      go_wp2
      go_ret
      exact ⟨rfl, HB9.out⟩
    | true =>
      have g9 := Lib.hid (gSame ham hbm hsm)
      obtain ⟨e1, e2⟩ := slot_eq (samN_same hsm) k
      have g10 := Lib.hid (gName hbm (v := M) (by rw [e1, hM]))
      have g11 := Lib.hid (gSlot hbm hk (v := K) (by rw [e2]; exact HK.out))
      have hKK : (K == K) = true := by simp
      clear hsm hM hch HFF e1 e2
      go_wp2_with fail
      refine (g6.out.go _).mono ?_
      rintro e w6 ⟨rfl, hb6⟩
      have HB6 := Lib.hid (next HB5.out hb6)
      clear hb6
      go_wp2_with fail
      refine (g7.out.go _).mono ?_
      rintro e w7 ⟨rfl, hb7⟩
      have HB7 := Lib.hid (next HB6.out hb7)
      clear hb7
      go_wp2_with fail
      refine (g8.out.go _).mono ?_
      rintro e w8 ⟨rfl, hb8⟩
      have HB8 := Lib.hid (next HB7.out hb8)
      clear hb8
      go_wp2_with fail
      refine (g9.out.go _).mono ?_
      rintro e w9 ⟨rfl, hb9⟩
      have HB9 := Lib.hid (next HB8.out hb9)
      clear hb9
      go_wp2_with fail
      refine (g10.out.go _).mono ?_
      rintro e w10 ⟨rfl, hb10⟩
      have HB10 := Lib.hid (next HB9.out hb10)
      clear hb10
      go_wp2_with fail
      refine (g8.out.go _).mono ?_
      rintro e w11 ⟨rfl, hb11⟩
      have HB11 := Lib.hid (next HB10.out hb11)
      clear hb11
      go_wp2_with fail
      refine (g11.out.go _).mono ?_
      rintro e w12 ⟨rfl, hb12⟩
      have HB12 := Lib.hid (next HB11.out hb12)
      clear hb12
      go_wp2
      go_ret
      exact ⟨rfl, HB12.out⟩
  · have g6 := Lib.hid (gCheck ham (e := chkN (bs a)) rfl)
    obtain ⟨c6, hc6⟩ : ∃ c6, chkN (bs a) = c6 := ⟨_, rfl⟩
    rw [hc6] at g6 hch
    have hne : ((c6 : Int) != 0) = true := bne_iff_ne.2 (by omega)
    clear hc6 hch HFF
    go_wp2_with fail
    refine (g6.out.go _).mono ?_
    rintro e w6 ⟨rfl, hb6⟩
    have HB6 := Lib.hid (next HB5.out hb6)
    clear hb6
    go_wp2
    go_ret
    exact ⟨rfl, HB6.out⟩

set_option maxRecDepth 100000 in
set_option maxHeartbeats 4000000 in
theorem hsame_hi (a b s : ByteArray) (cut k : Int) (w : World) (ha : a.size ≤ 400) (hb : b.size ≤ 400) (hs : s.size ≤ 400) (hk : k ≤ 9223372036854775807) (h1 : 1 ≤ k) :
    Calls Try.prog 6 #[.string a, .string b, .string s, .int .i64 cut, .int .i64 k] w fun e w' => e = .returned (.bool true) ∧ Below w.heap.size w w' := by
  have ham : a.size ≤ maxLen := by unfold maxLen; omega
  have hbm : b.size ≤ maxLen := by unfold maxLen; omega
  have hL := Lib.hid lives13
  obtain ⟨hp0, hp1⟩ := pick_range (i := cut) (n := (s.size : Int) + 1) (by omega)
  have hP := Lib.hid fun wx => Pick_any cut ((s.size : Int) + 1) wx (by omega) (by omega)
  obtain ⟨c, hc⟩ : ∃ c : Nat, pick cut ((s.size : Int) + 1) = (c : Int) := ⟨_, (Int.toNat_of_nonneg hp0).symm⟩
  rw [hc] at hP hp1
  have hcs : c ≤ s.size := by omega
  have hci : (c : Int) ≤ s.size := by omega
  obtain ⟨S1, hS1⟩ : ∃ S, S = s.extract 0 c := ⟨_, rfl⟩
  obtain ⟨S2, hS2⟩ : ∃ S, S = s.extract c s.size := ⟨_, rfl⟩
  have z1 : S1.size ≤ maxLen := by rw [hS1]; simp [ByteArray.size_extract]; unfold maxLen; omega
  have z2 : S2.size ≤ maxLen := by rw [hS2]; simp [ByteArray.size_extract]; unfold maxLen; omega
  obtain ⟨V, hV⟩ : ∃ V, sumH (bs s) = V := ⟨_, rfl⟩
  obtain ⟨V1, hV1⟩ : ∃ V, sumH (bs S1) = V := ⟨_, rfl⟩
  have hcat : bs S1 ++ bs S2 = bs s := by
    rw [hS1, hS2, bs_extract, bs_extract, List.drop_zero, Nat.sub_zero, List.take_of_length_le (l := (bs s).drop c) (by rw [List.length_drop, bs_length]; omega), List.take_append_drop]
  obtain ⟨F, hF⟩ : ∃ F : ByteArray, foldN (bs a) = bs F := ⟨_, (bs_mk _).symm⟩
  have hFm : F.size ≤ maxLen := by
    have e : F.size = (foldN (bs a)).length := by rw [hF, bs_length]
    have := foldN_le (bs a)
    rw [bs_length] at this
    rw [e]
    exact Nat.le_trans this ham
  have g2 := Lib.hid (gSum z1 hV1)
  have g3 := Lib.hid (gMore V1 z2 (v := V) (by rw [← hV1, ← hV]; unfold sumH; rw [← moreH_app, hcat]))
  have g4 := Lib.hid (gSum (s := s) (by unfold maxLen; omega) hV)
  rw [hS1] at g2
  rw [hS2] at g3
  have g5 := Lib.hid (gFold ham hF)
  have HFF : Hid (chkN (bs a) = 0 → nameH (bs F) = nameH (bs a)) := Lib.hid fun h => by rw [← hF]; unfold nameH; rw [foldN_foldN h]
  have hv : (V != V) = false := by simp
  clear hS1 hS2 z1 z2 hV hV1 hcat hF hc hp0 hp1 hcs
  obtain ⟨k0, k1⟩ := slotH_range (bs a) h1
  obtain ⟨K, hK1⟩ : ∃ K : Int, slotH (bs a) k = K := ⟨_, rfl⟩
  rw [hK1] at k0 k1
  have HK := Lib.hid hK1
  have g1 := Lib.hid (gSlot ham hk hK1)
  have h1b : ¬ k < 1 := by omega
  have d1 : decide (1 ≤ k) = true := decide_eq_true h1
  have d2 : decide (k < 1) = false := decide_eq_false h1b
  have k0b : ¬ K < 0 := by omega
  have d3 : decide (K < 0) = false := decide_eq_false k0b
  have k1b : ¬ k ≤ K := by omega
  have d4 : decide (k ≤ K) = false := decide_eq_false k1b
  clear hK1
  go_enter Try.func6, Try.ntmps6
  go_wp2_with fail
  refine (hL.out.go _).mono ?_
  rintro e w1 ⟨rfl, hb1⟩
  have HB1 := Lib.hid hb1
  clear hb1
  go_wp2_with fail
  refine (hP.out _).mono ?_
  rintro e w2 ⟨rfl, rfl⟩
  go_wp2_with fail
  refine (g1.out.go _).mono ?_
  rintro e w3 ⟨rfl, hb3⟩
  have HB3 := Lib.hid (next HB1.out hb3)
  clear hb3
  go_wp2
  obtain ⟨Ix, f, i0, hf0, hCn', hstep'⟩ := cls_of w3
  have HCn := Lib.hid hCn'
  have Hstep := Lib.hid hstep'
  clear hCn' hstep'
  haveI : Nonempty Ix := ⟨i0⟩
  have V2 := Lib.hid (fun n => cls_go g2.out Hstep.out n)
  have V3 := Lib.hid (fun n => cls_go g3.out Hstep.out n)
  have V4 := Lib.hid (fun n => cls_go g4.out Hstep.out n)
  refine wp_region_class f (by kernel_rfl) (lexB_of (by kernel_rfl) (by as_aux_lemma => kernel_rfl)) i0 hf0 ?_
  clear hf0
  repeat (go_big_quiet_step (first | (with_reducible exact V2.out _) | (with_reducible exact V3.out _) | (with_reducible exact V4.out _)))
  refine wpQuiet_nil ?_
  intro _ hw'
  obtain ⟨nE, hw''⟩ := hw'
  subst hw''
  have HB4 := Lib.hid (next HB3.out (HCn.out nE))
  obtain ⟨w4, hw4⟩ : ∃ w4, f nE = w4 := ⟨_, rfl⟩
  rw [hw4] at HB4 ⊢
  clear hw4 V2 V3 V4 HCn Hstep
  go_wp2_with fail
  refine (g5.out.go _).mono ?_
  rintro e w5 ⟨rfl, hb5⟩
  have HB5 := Lib.hid (next HB4.out hb5)
  clear hb5
  rcases Nat.eq_zero_or_pos (chkN (bs a)) with hch | hch
  · have g6 := Lib.hid (gCheck ham hch)
    have g7 := Lib.hid (gName hFm (HFF.out hch))
    have g8 := Lib.hid (gName ham (v := nameH (bs a)) rfl)
    obtain ⟨M, hM⟩ : ∃ M, nameH (bs a) = M := ⟨_, rfl⟩
    rw [hM] at g7 g8
    have hMM : (M == M) = true := by simp
    cases hsm : samN (bs a) (bs b) with
    | false =>
      have g9 := Lib.hid (gSame ham hbm hsm)
      clear hsm hM hch HFF
      go_wp2_with fail
      refine (g6.out.go _).mono ?_
      rintro e w6 ⟨rfl, hb6⟩
      have HB6 := Lib.hid (next HB5.out hb6)
      clear hb6
      go_wp2_with fail
      refine (g7.out.go _).mono ?_
      rintro e w7 ⟨rfl, hb7⟩
      have HB7 := Lib.hid (next HB6.out hb7)
      clear hb7
      go_wp2_with fail
      refine (g8.out.go _).mono ?_
      rintro e w8 ⟨rfl, hb8⟩
      have HB8 := Lib.hid (next HB7.out hb8)
      clear hb8
      go_wp2_with fail
      refine (g9.out.go _).mono ?_
      rintro e w9 ⟨rfl, hb9⟩
      have HB9 := Lib.hid (next HB8.out hb9)
      clear hb9
      go_wp2
      go_ret
      exact ⟨rfl, HB9.out⟩
    | true =>
      have g9 := Lib.hid (gSame ham hbm hsm)
      obtain ⟨e1, e2⟩ := slot_eq (samN_same hsm) k
      have g10 := Lib.hid (gName hbm (v := M) (by rw [e1, hM]))
      have g11 := Lib.hid (gSlot hbm hk (v := K) (by rw [e2]; exact HK.out))
      have hKK : (K == K) = true := by simp
      clear hsm hM hch HFF e1 e2
      go_wp2_with fail
      refine (g6.out.go _).mono ?_
      rintro e w6 ⟨rfl, hb6⟩
      have HB6 := Lib.hid (next HB5.out hb6)
      clear hb6
      go_wp2_with fail
      refine (g7.out.go _).mono ?_
      rintro e w7 ⟨rfl, hb7⟩
      have HB7 := Lib.hid (next HB6.out hb7)
      clear hb7
      go_wp2_with fail
      refine (g8.out.go _).mono ?_
      rintro e w8 ⟨rfl, hb8⟩
      have HB8 := Lib.hid (next HB7.out hb8)
      clear hb8
      go_wp2_with fail
      refine (g9.out.go _).mono ?_
      rintro e w9 ⟨rfl, hb9⟩
      have HB9 := Lib.hid (next HB8.out hb9)
      clear hb9
      go_wp2_with fail
      refine (g10.out.go _).mono ?_
      rintro e w10 ⟨rfl, hb10⟩
      have HB10 := Lib.hid (next HB9.out hb10)
      clear hb10
      go_wp2_with fail
      refine (g8.out.go _).mono ?_
      rintro e w11 ⟨rfl, hb11⟩
      have HB11 := Lib.hid (next HB10.out hb11)
      clear hb11
      go_wp2_with fail
      refine (g11.out.go _).mono ?_
      rintro e w12 ⟨rfl, hb12⟩
      have HB12 := Lib.hid (next HB11.out hb12)
      clear hb12
      go_wp2
      go_ret
      exact ⟨rfl, HB12.out⟩
  · have g6 := Lib.hid (gCheck ham (e := chkN (bs a)) rfl)
    obtain ⟨c6, hc6⟩ : ∃ c6, chkN (bs a) = c6 := ⟨_, rfl⟩
    rw [hc6] at g6 hch
    have hne : ((c6 : Int) != 0) = true := bne_iff_ne.2 (by omega)
    clear hc6 hch HFF
    go_wp2_with fail
    refine (g6.out.go _).mono ?_
    rintro e w6 ⟨rfl, hb6⟩
    have HB6 := Lib.hid (next HB5.out hb6)
    clear hb6
    go_wp2
    go_ret
    exact ⟨rfl, HB6.out⟩

theorem HashSame_w0 (a b s : ByteArray) (cut k : Int) (ha : a.size ≤ maxLen) (hb : b.size ≤ maxLen) (hs : s.size ≤ maxLen) (hk : k ≤ 9223372036854775807) (w : World) :
    Calls Try.prog 6 #[.string a, .string b, .string s, .int .i64 cut, .int .i64 k] w fun e w' => e = .returned (.bool true) ∧ Below w.heap.size w w' := by
  by_cases h1 : a.size ≤ 400
  · by_cases h2 : b.size ≤ 400
    · by_cases h3 : s.size ≤ 400
      · rcases Int.lt_or_le k 1 with h | h
        · exact hsame_lo a b s cut k w h1 h2 h3 hk h
        · exact hsame_hi a b s cut k w h1 h2 h3 hk h
      · have hL := lives13
        unfold maxLen at ha hb hs
        go_enter Try.func6, Try.ntmps6
        go_wp2_with (first | (go_at_call 8; ((with_reducible refine (hL.go _).mono ?_); rintro e w' ⟨rfl, hb'⟩; have hbb := hb')))
        go_ret
        exact ⟨rfl, hbb⟩
    · have hL := lives13
      unfold maxLen at ha hb hs
      go_enter Try.func6, Try.ntmps6
      go_wp2_with (first | (go_at_call 8; ((with_reducible refine (hL.go _).mono ?_); rintro e w' ⟨rfl, hb'⟩; have hbb := hb')))
      go_ret
      exact ⟨rfl, hbb⟩
  · have hL := lives13
    unfold maxLen at ha hb hs
    go_enter Try.func6, Try.ntmps6
    go_wp2_with (first | (go_at_call 8; ((with_reducible refine (hL.go _).mono ?_); rintro e w' ⟨rfl, hb'⟩; have hbb := hb')))
    go_ret
    exact ⟨rfl, hbb⟩
theorem HashSame_walk (a b s : ByteArray) (cut k : Int) (ha : a.size ≤ maxLen) (hb : b.size ≤ maxLen) (hs : s.size ≤ maxLen) (_hc : (Lit.int .i64 cut).wf = true) (hk : (Lit.int .i64 k).wf = true) (w : World) :
    Calls Try.prog 6 #[.string a, .string b, .string s, .int .i64 cut, .int .i64 k] w fun e w' => e = .returned (.bool true) ∧ Below w.heap.size w w' :=
  HashSame_w0 a b s cut k ha hb hs (wf64 hk) w
end Go.Proofs.Ytmjhofgcfolelaa
