/-
  A reverse name read: the walk of addr.Back. Conditions: as each theorem names them.
-/
import Derived.Test.YtjadghmanpkgoaaGreatDoorAdRvs
import Derived.Test.YtjadghmanpkgoaaGreatDoorNmFold
namespace Go.Proofs.YtjadghmanpkgoaaGreatDoor
open Go.RowKit
set_option linter.unusedVariables false

theorem strs_strB (ys : List Lab) : strs ys = (strB (ys.map lb)).map Value.string := by
  unfold strs strB
  rw [List.map_map, List.map_map]
  refine List.map_congr_left fun y _ => ?_
  show Value.string y.1 = Value.string ⟨(bs y.1).toArray⟩
  congr 1
set_option maxHeartbeats 1000000 in
theorem Labels_own (n : ByteArray) (w : World) (hs : n.size ≤ maxLen) : Calls Tryz.prog 31 #[.string n] w fun e w' => ∃ v base, e = .returned v ∧ w.heap.size ≤ base ∧ TOwn 9 w' base v (strB (nlabs (bs n))) ∧ Below w.heap.size w w' := by
  have HC := Lib.hid (fun wx => nCheck_any n wx hs)
  by_cases hc : chkN (bs n) = 0
  · have hle := (chkN_iff.1 hc).1
    rw [bs_length] at hle
    have hb : ((chkN (bs n) : Int) != 0) = false := by rw [hc]; rfl
    have HE := Lib.hid (nlabs_yes hc)
    clear hc hs
    go_enter Tryz.func31, Tryz.ntmps31
    go_wp2_with (first | (go_at_call 88; refine (HC.out _).mono ?_; rintro e w1 ⟨rfl, hb1⟩) | (go_at_call 90; refine (each_any _ _).mono ?_; rintro e w2 ⟨rfl, rfl⟩) | (go_at_call 89; refine (Collect_each w1.heap.size n _ hle (by simp) (by simp)).mono ?_; rintro e w3 ⟨v, ys, rfl, hys, hown, hb3⟩; have HY := Lib.hid hys; clear hys))
    go_ret
    refine ⟨v, (w1.alloc (Obj.cells #[Value.string n] 25)).heap.size, rfl, ?b, ?t, ?r⟩
    case t =>
      rw [HE.out, ← HY.out]
      unfold TOwn
      rw [← strs_strB, strB_length, List.length_map]
      exact hown
    case b => exact Nat.le_trans hb1.size (by simp)
    case r => exact (hb1.trans (((Below.refl _ w1).alloc (Nat.le_refl _) _).mono hb1.size)).trans (hb3.mono (Nat.le_trans hb1.size (by simp)))
  · have hb : ((chkN (bs n) : Int) != 0) = true := bne_iff_ne.2 (by omega)
    have HE := Lib.hid (nlabs_no hc)
    clear hc hs
    go_enter Tryz.func31, Tryz.ntmps31
    go_wp2_with (go_at_call 88; refine (HC.out _).mono ?_; rintro e w1 ⟨rfl, hb1⟩)
    go_ret
    exact ⟨_, w.heap.size, rfl, Nat.le_refl _, by rw [HE.out]; exact TOwn.none_ _ _, hb1⟩
theorem foldN_len (l : List UInt8) : (foldN l).length ≤ 254 := by
  unfold foldN
  split
  · rename_i h
    rw [fold_length]
    exact (chkN_iff.1 h).1
  · simp
/-- The labels, folded, turned about. -/
def backL (n : List UInt8) : List (List UInt8) := (nlabs (foldN n)).reverse
theorem backL_facts (n : List UInt8) : (backL n).length ≤ 127 ∧ ∀ x ∈ backL n, x.length ≤ 63 := by
  unfold backL
  refine ⟨by rw [List.length_reverse]; exact nlabs_len _, fun x hx => (nlabs_ok _ x (List.mem_reverse.1 hx)).2⟩
def bkR : List (List UInt8) → Option Ad
  | x :: y :: r => if x ≠ arpa then none else if y = inaddr then ofNumO r else if y = ip6 then ofDigO r else none
  | _ => none
theorem bkR_cons (x y : List UInt8) (r : List (List UInt8)) : bkR (x :: y :: r) = if x ≠ arpa then none else if y = inaddr then ofNumO r else if y = ip6 then ofDigO r else none := rfl
theorem bkA_eq (n : List UInt8) : bkA n = match bkR (backL n) with
    | some a => (a, true)
    | none => (noA, false) := by
  unfold bkA backO bkR backL
  rfl
theorem eq_lit {x : ByteArray} {l : List UInt8} (h : bs x = l) : (x.toList == l) = true := beq_iff_eq.2 (by rw [bs_toList]; exact h)
theorem ne_lit {x : ByteArray} {l : List UInt8} (h : bs x ≠ l) : (x.toList == l) = false := beq_eq_false_iff_ne.2 (fun e => h (by rw [← bs_toList]; exact e))
/-- What stands behind the first two of a row. -/
theorem row_tail2 {w : World} {g cap N : Nat} {X Y : ByteArray} {M : List ByteArray} (h : At Value.string w g 0 cap (X :: Y :: M)) (hN : (X :: Y :: M).length = N) : RowE Value.string w (.slice (some ⟨g, 2, none⟩) (N - 2) (cap - 2)) M := by
  have := h.drop (n := 2) (by simp)
  subst hN
  simp only [Nat.zero_add, List.drop_succ_cons, List.drop_zero] at this
  exact this
theorem row_tail0 {w : World} {g N cap : Nat} {X Y : ByteArray} {M : List ByteArray} (h : At Value.string w g 0 cap (X :: Y :: M)) (hN : (X :: Y :: M).length = N) (hc : cap = 2) : RowE Value.string w (.slice (some ⟨g, 0, none⟩) (N - 2) 0) M := by
  have h1 := h.le
  simp only [List.length_cons] at h1 hN
  obtain rfl : M = [] := List.eq_nil_of_length_eq_zero (by omega)
  obtain rfl : N = 2 := by simpa using hN.symm
  exact .inr ⟨g, 0, 0, rfl, h.lt, Nat.zero_le _, by unfold maxLen; omega, fun j hj => absurd hj (Nat.not_lt_zero _)⟩
theorem Labels_long (n : ByteArray) (w : World) (hs : n.size ≤ maxLen) (N : Nat) (hN : (nlabs (bs n)).length = N) (h0 : 0 < N) : Calls Tryz.prog 31 #[.string n] w fun e w' => ∃ g cap base, e = .returned (.slice (some ⟨g, 0, none⟩) N cap) ∧ w.heap.size ≤ base ∧ TOwn 9 w' base (.slice (some ⟨g, 0, none⟩) N cap) (strB (nlabs (bs n))) ∧ Below w.heap.size w w' := by
  refine (Labels_own n w hs).mono ?_
  rintro e w' ⟨v, base, rfl, hb, ho, hbel⟩
  have h := ho.2
  rcases h with ⟨_, hn⟩ | ⟨g, cap, cur, rfl, _⟩
  · rw [strB_length, hN] at hn
    omega
  · rw [strB_length, hN] at ho ⊢
    exact ⟨g, cap, base, rfl, hb, ho, hbel⟩
theorem own_at {w : World} {base g N cap : Nat} {M : List ByteArray} (h : TOwn 9 w base (.slice (some ⟨g, 0, none⟩) N cap) M) (hN : M.length = N) : At Value.string w g 0 cap M := by
  subst hN
  exact At.of_own h
/-- What lies where the first two are read. -/
theorem two_cells {w : World} {g cap : Nat} {X Y : ByteArray} {M : List ByteArray} (h : At Value.string w g 0 cap (X :: Y :: M)) : w.cell? ⟨g, 0, none⟩ = some (.string X) ∧ w.cell? ⟨g, 1, none⟩ = some (.string Y) := by
  have h0 := h.cell 0 (by simp)
  have h1 := h.cell 1 (by simp)
  exact ⟨h0, h1⟩
set_option maxHeartbeats 4000000 in
theorem aBack_any (n : ByteArray) (w : World) (hs : n.size ≤ maxLen) (hG : Ground w) :
    Calls Tryz.prog 25 #[.string n] w fun e w' => e = .returned (.tuple #[av (bkA (bs n)).1, .bool (bkA (bs n)).2]) ∧ Below w.heap.size w w' := by
  obtain ⟨w0, hw0⟩ : ∃ w0, w0 = w.alloc (.cells #[.bool false, .int .u64 0, .int .u64 0] 24) := ⟨_, rfl⟩
  have hb0 : Below w.heap.size w w0 := by rw [hw0]; exact (Below.refl _ _).alloc (Nat.le_refl _) _
  have HB0 := Lib.hid hb0
  have HG0 := Lib.hid (hG.next hb0)
  have HS0 : Hid (w.heap.size < w0.heap.size) := Lib.hid (by rw [hw0, size1]; omega)
  have HL0 : Hid (∀ w1 : World, Below w0.heap.size w0 w1 → AdB w1 w.heap.size false 0 0) := Lib.hid (fun w1 hb => Lies.next (by rw [hw0]; exact Lies.new w _ _) hb)
  have HF := Lib.hid (nFold_any n w0 hs)
  obtain ⟨F, hF⟩ : ∃ F : ByteArray, F = ⟨(foldN (bs n)).toArray⟩ := ⟨_, rfl⟩
  have hFb : bs F = foldN (bs n) := by rw [hF, bs_mk]
  rw [← hF] at HF
  have hFs : F.size ≤ maxLen := by rw [← bs_length, hFb]; have := foldN_len (bs n); unfold maxLen; omega
  have hbl : (nlabs (bs F)).reverse = backL (bs n) := by rw [hFb]; rfl
  have hfacts := backL_facts (bs n)
  have hbk := bkA_eq (bs n)
  have hll : (nlabs (bs F)).length = (backL (bs n)).length := by rw [← hbl, List.length_reverse]
  have HR := Lib.hid (fun v base (wx : World) hx => revT_any (nlabs (bs F)) v base wx wx hx (Below.refl _ _) (by rw [hll]; omega))
  rw [hbl] at HR
  clear hG hb0 hF hFb hbl
  rcases hR : backL (bs n) with _ | ⟨x, _ | ⟨y, r⟩⟩
  case nil =>
    rw [hR] at hbk hll
    rw [hbk]
    have HLb := Lib.hid (fun wx => Labels_own F wx hFs)
    have hN : (strB (nlabs (bs F))).length = 0 := by rw [strB_length, hll]; rfl
    simp only [bkR, noA, av]
    go_enter Tryz.func25, Tryz.ntmps25
    go_wp2_with (first | (go_at_call 78; rw [← hw0]; (with_reducible refine HF.out.mono ?_); rintro e w1 ⟨rfl, hb1⟩; have HB1 := Lib.hid hb1; clear hb1) | (go_at_call 31; (with_reducible refine (HLb.out _).mono ?_); rintro e w2 ⟨v2, base, rfl, hbase, ho2, hb2⟩; have HBa := Lib.hid hbase; have HT2 := Lib.hid ho2; obtain ⟨A2, c2, rfl⟩ := ho2.shape; rw [hN] at HT2 ⊢; have HB2 := Lib.hid hb2; clear hb2 ho2 hbase) | (go_at_call 75; (with_reducible refine (HR.out _ _ _ HT2.out).mono ?_); rintro e w3 ⟨rfl, ho3, hb3⟩; have HT3 := Lib.hid ho3; have HW3 : Hid (Below w0.heap.size w0 w3) := Lib.hid ((next HB1.out HB2.out).trans (hb3.mono (Nat.le_trans HB1.out.size HBa.out))); have HB3 : Hid (Below w.heap.size w w3) := Lib.hid (next HB0.out HW3.out); have HL3 : Hid (AdB w3 w.heap.size false 0 0) := Lib.hid (HL0.out w3 HW3.out); obtain ⟨⟨hc0, hc1, hc2⟩, hf0, hf1, hf2⟩ := HL3.out.facts; clear hb3 ho3) | fail)
    refine bodyPost_ret (ret_ad2 rfl _ _ w.heap.size noA rfl (AdB.put HL3.out _ _ _)) rfl ?_
    exact ⟨rfl, put3 HB3.out (Nat.le_refl _) _ _ _⟩
  case cons.nil =>
    rw [hR] at hbk hll
    rw [hbk]
    have HLb := Lib.hid (fun wx => Labels_long F wx hFs 1 hll (by decide))
    simp only [bkR, noA, av]
    go_enter Tryz.func25, Tryz.ntmps25
    go_wp2_with (first | (go_at_call 78; rw [← hw0]; (with_reducible refine HF.out.mono ?_); rintro e w1 ⟨rfl, hb1⟩; have HB1 := Lib.hid hb1; clear hb1) | (go_at_call 31; (with_reducible refine (HLb.out _).mono ?_); rintro e w2 ⟨g2, c2, base, rfl, hbase, ho2, hb2⟩; have HBa := Lib.hid hbase; have HT2 := Lib.hid ho2; have HB2 := Lib.hid hb2; clear hb2 ho2 hbase) | (go_at_call 75; (with_reducible refine (HR.out _ _ _ HT2.out).mono ?_); rintro e w3 ⟨rfl, ho3, hb3⟩; have HT3 := Lib.hid ho3; have HW3 : Hid (Below w0.heap.size w0 w3) := Lib.hid ((next HB1.out HB2.out).trans (hb3.mono (Nat.le_trans HB1.out.size HBa.out))); have HB3 : Hid (Below w.heap.size w w3) := Lib.hid (next HB0.out HW3.out); have HL3 : Hid (AdB w3 w.heap.size false 0 0) := Lib.hid (HL0.out w3 HW3.out); obtain ⟨⟨hc0, hc1, hc2⟩, hf0, hf1, hf2⟩ := HL3.out.facts; clear hb3 ho3) | fail)
    refine bodyPost_ret (ret_ad2 rfl _ _ w.heap.size noA rfl (AdB.put HL3.out _ _ _)) rfl ?_
    exact ⟨rfl, put3 HB3.out (Nat.le_refl _) _ _ _⟩
  case cons.cons =>
    rw [hR] at hbk hll HR hfacts
    rw [hbk]
    obtain ⟨N, hN⟩ : ∃ N, N = r.length + 2 := ⟨_, rfl⟩
    have HLb := Lib.hid (fun wx => Labels_long F wx hFs N (by rw [hll, hN]; rfl) (by omega))
    have hrl : r.length ≤ 1000000 := by have := hfacts.1; simp only [List.length_cons] at this; omega
    have hrs : ∀ s ∈ strB r, s.size ≤ 1000000 := strB_size fun z hz => Nat.le_trans (hfacts.2 z (List.mem_cons_of_mem _ (List.mem_cons_of_mem _ hz))) (by decide)
    obtain ⟨X, hX⟩ : ∃ X : ByteArray, X = ⟨x.toArray⟩ := ⟨_, rfl⟩
    obtain ⟨Y, hY⟩ : ∃ Y : ByteArray, Y = ⟨y.toArray⟩ := ⟨_, rfl⟩
    have hXb : bs X = x := by rw [hX, bs_mk]
    have hYb : bs Y = y := by rw [hY, bs_mk]
    have hM : strB (x :: y :: r) = X :: Y :: strB r := by rw [hX, hY]; rfl
    rw [hM] at HR
    have hMl : (X :: Y :: strB r).length = N := by rw [hN, List.length_cons, List.length_cons, strB_length]
    have hN2 : N - 2 = (strB r).length := by rw [hN, strB_length]; omega
    have HAt := Lib.hid (fun (w3 : World) (base g cap : Nat) (h : TOwn 9 w3 base (.slice (some ⟨g, 0, none⟩) N cap) (X :: Y :: strB r)) => own_at h hMl)
    have HON := Lib.hid (fun v wx hx hg => ofNumbers_any (strB r) v wx hx (by rw [strB_length]; exact hrl) hrs hg)
    have HOD := Lib.hid (fun v wx hx hg => ofDigits_any (strB r) v wx hx (by rw [strB_length]; exact hrl) hrs hg)
    rw [strB_map] at HON HOD
    have HN2 := Lib.hid hN2
    have hi2 : ¬ (N : Int) < 2 := by omega
    have hi1 : (1 : Int) < N := by omega
    have hi0 : (0 : Int) < N := by omega
    clear hbk hll hfacts hFs hrl hrs hX hY hM hN hN2
    by_cases hx : x = arpa
    · have e1 : (X.toList == [97, 114, 112, 97]) = true := eq_lit (hXb.trans hx)
      by_cases hy : y = inaddr
      · have e2 : (Y.toList == [105, 110, 45, 97, 100, 100, 114]) = true := eq_lit (hYb.trans hy)
        have hbr : bkR (x :: y :: r) = ofNumO r := by rw [bkR_cons, if_neg (by rw [hx]; simp), if_pos hy]
        rw [hbr]
        clear hx hy hbr hXb hYb HOD hR
        cases ho : ofNumO r with
        | none =>
          rw [ho] at HON
          simp only [optA, noA, av] at HON ⊢
          go_enter Tryz.func25, Tryz.ntmps25
          go_wp2_with (first | (go_at_call 78; rw [← hw0]; (with_reducible refine HF.out.mono ?_); rintro e w1 ⟨rfl, hb1⟩; have HB1 := Lib.hid hb1; clear hb1) | (go_at_call 31; (with_reducible refine (HLb.out _).mono ?_); rintro e w2 ⟨g2, c2, base, rfl, hbase, ho2, hb2⟩; have HBa := Lib.hid hbase; have HT2 := Lib.hid ho2; have HB2 := Lib.hid hb2; clear hb2 ho2 hbase) | (go_at_call 75; (with_reducible refine (HR.out _ _ _ HT2.out).mono ?_); rintro e w3 ⟨rfl, ho3, hb3⟩; have HA3 := Lib.hid (HAt.out _ _ _ _ ho3); obtain ⟨hx0, hx1⟩ := two_cells HA3.out; have hle := HA3.out.le; rw [hMl] at hle; have HW3 : Hid (Below w0.heap.size w0 w3) := Lib.hid ((next HB1.out HB2.out).trans (hb3.mono (Nat.le_trans HB1.out.size HBa.out))); have HB3 : Hid (Below w.heap.size w w3) := Lib.hid (next HB0.out HW3.out); have HL3 : Hid (AdB w3 w.heap.size false 0 0) := Lib.hid (HL0.out w3 HW3.out); obtain ⟨⟨hc0, hc1, hc2⟩, hf0, hf1, hf2⟩ := HL3.out.facts; clear hb3 ho3) | (go_at_call 79; (with_reducible refine (HON.out _ _ (row_tail2 HA3.out hMl) (HG0.out.next HW3.out)).mono ?_); rintro e w4 ⟨rfl, hb4⟩; have HL4 : Hid (AdB w4 w.heap.size false 0 0) := Lib.hid (HL0.out w4 (next HW3.out hb4)); have HB4 := Lib.hid (next HB3.out hb4); obtain ⟨⟨hd0, hd1, hd2⟩, hg0, hg1, hg2⟩ := HL4.out.facts; clear hb4) | (go_at_call 79; (with_reducible refine (HON.out _ _ (row_tail0 HA3.out hMl (by omega)) (HG0.out.next HW3.out)).mono ?_); rintro e w4 ⟨rfl, hb4⟩; have HL4 : Hid (AdB w4 w.heap.size false 0 0) := Lib.hid (HL0.out w4 (next HW3.out hb4)); have HB4 := Lib.hid (next HB3.out hb4); obtain ⟨⟨hd0, hd1, hd2⟩, hg0, hg1, hg2⟩ := HL4.out.facts; clear hb4) | fail)
          all_goals try go_wp2_with (first | (go_at_call 79; (with_reducible refine (HON.out _ _ (row_tail2 HA3.out hMl) (HG0.out.next HW3.out)).mono ?_); rintro e w4 ⟨rfl, hb4⟩; have HL4 : Hid (AdB w4 w.heap.size false 0 0) := Lib.hid (HL0.out w4 (next HW3.out hb4)); have HB4 := Lib.hid (next HB3.out hb4); obtain ⟨⟨hd0, hd1, hd2⟩, hg0, hg1, hg2⟩ := HL4.out.facts; clear hb4) | (go_at_call 79; (with_reducible refine (HON.out _ _ (row_tail0 HA3.out hMl (by omega)) (HG0.out.next HW3.out)).mono ?_); rintro e w4 ⟨rfl, hb4⟩; have HL4 : Hid (AdB w4 w.heap.size false 0 0) := Lib.hid (HL0.out w4 (next HW3.out hb4)); have HB4 := Lib.hid (next HB3.out hb4); obtain ⟨⟨hd0, hd1, hd2⟩, hg0, hg1, hg2⟩ := HL4.out.facts; clear hb4) | fail)
          all_goals
            refine bodyPost_ret (ret_ad2 rfl _ _ w.heap.size noA rfl (AdB.put HL4.out _ _ _)) rfl ?_
            exact ⟨rfl, put3 HB4.out (Nat.le_refl _) _ _ _⟩
        | some a =>
          obtain ⟨six, hi, lo⟩ := a
          rw [ho] at HON
          simp only [optA, av] at HON ⊢
          go_enter Tryz.func25, Tryz.ntmps25
          go_wp2_with (first | (go_at_call 78; rw [← hw0]; (with_reducible refine HF.out.mono ?_); rintro e w1 ⟨rfl, hb1⟩; have HB1 := Lib.hid hb1; clear hb1) | (go_at_call 31; (with_reducible refine (HLb.out _).mono ?_); rintro e w2 ⟨g2, c2, base, rfl, hbase, ho2, hb2⟩; have HBa := Lib.hid hbase; have HT2 := Lib.hid ho2; have HB2 := Lib.hid hb2; clear hb2 ho2 hbase) | (go_at_call 75; (with_reducible refine (HR.out _ _ _ HT2.out).mono ?_); rintro e w3 ⟨rfl, ho3, hb3⟩; have HA3 := Lib.hid (HAt.out _ _ _ _ ho3); obtain ⟨hx0, hx1⟩ := two_cells HA3.out; have hle := HA3.out.le; rw [hMl] at hle; have HW3 : Hid (Below w0.heap.size w0 w3) := Lib.hid ((next HB1.out HB2.out).trans (hb3.mono (Nat.le_trans HB1.out.size HBa.out))); have HB3 : Hid (Below w.heap.size w w3) := Lib.hid (next HB0.out HW3.out); have HL3 : Hid (AdB w3 w.heap.size false 0 0) := Lib.hid (HL0.out w3 HW3.out); obtain ⟨⟨hc0, hc1, hc2⟩, hf0, hf1, hf2⟩ := HL3.out.facts; clear hb3 ho3) | (go_at_call 79; (with_reducible refine (HON.out _ _ (row_tail2 HA3.out hMl) (HG0.out.next HW3.out)).mono ?_); rintro e w4 ⟨rfl, hb4⟩; have HL4 : Hid (AdB w4 w.heap.size false 0 0) := Lib.hid (HL0.out w4 (next HW3.out hb4)); have HB4 := Lib.hid (next HB3.out hb4); obtain ⟨⟨hd0, hd1, hd2⟩, hg0, hg1, hg2⟩ := HL4.out.facts; clear hb4) | (go_at_call 79; (with_reducible refine (HON.out _ _ (row_tail0 HA3.out hMl (by omega)) (HG0.out.next HW3.out)).mono ?_); rintro e w4 ⟨rfl, hb4⟩; have HL4 : Hid (AdB w4 w.heap.size false 0 0) := Lib.hid (HL0.out w4 (next HW3.out hb4)); have HB4 := Lib.hid (next HB3.out hb4); obtain ⟨⟨hd0, hd1, hd2⟩, hg0, hg1, hg2⟩ := HL4.out.facts; clear hb4) | fail)
          all_goals try go_wp2_with (first | (go_at_call 79; (with_reducible refine (HON.out _ _ (row_tail2 HA3.out hMl) (HG0.out.next HW3.out)).mono ?_); rintro e w4 ⟨rfl, hb4⟩; have HL4 : Hid (AdB w4 w.heap.size false 0 0) := Lib.hid (HL0.out w4 (next HW3.out hb4)); have HB4 := Lib.hid (next HB3.out hb4); obtain ⟨⟨hd0, hd1, hd2⟩, hg0, hg1, hg2⟩ := HL4.out.facts; clear hb4) | (go_at_call 79; (with_reducible refine (HON.out _ _ (row_tail0 HA3.out hMl (by omega)) (HG0.out.next HW3.out)).mono ?_); rintro e w4 ⟨rfl, hb4⟩; have HL4 : Hid (AdB w4 w.heap.size false 0 0) := Lib.hid (HL0.out w4 (next HW3.out hb4)); have HB4 := Lib.hid (next HB3.out hb4); obtain ⟨⟨hd0, hd1, hd2⟩, hg0, hg1, hg2⟩ := HL4.out.facts; clear hb4) | fail)
          all_goals
            refine bodyPost_ret (ret_ad2 rfl _ _ w.heap.size (six, hi, lo) rfl (AdB.put HL4.out _ _ _)) rfl ?_
            exact ⟨rfl, put3 HB4.out (Nat.le_refl _) _ _ _⟩
      · have e2 : (Y.toList == [105, 110, 45, 97, 100, 100, 114]) = false := ne_lit (by rw [hYb]; exact hy)
        by_cases hy2 : y = ip6
        · have e3 : (Y.toList == [105, 112, 54]) = true := eq_lit (hYb.trans hy2)
          have hbr : bkR (x :: y :: r) = ofDigO r := by rw [bkR_cons, if_neg (by rw [hx]; simp), if_neg hy, if_pos hy2]
          rw [hbr]
          clear hx hy hy2 hbr hXb hYb HON hR
          cases ho : ofDigO r with
          | none =>
            rw [ho] at HOD
            simp only [optA, noA, av] at HOD ⊢
            go_enter Tryz.func25, Tryz.ntmps25
            go_wp2_with (first | (go_at_call 78; rw [← hw0]; (with_reducible refine HF.out.mono ?_); rintro e w1 ⟨rfl, hb1⟩; have HB1 := Lib.hid hb1; clear hb1) | (go_at_call 31; (with_reducible refine (HLb.out _).mono ?_); rintro e w2 ⟨g2, c2, base, rfl, hbase, ho2, hb2⟩; have HBa := Lib.hid hbase; have HT2 := Lib.hid ho2; have HB2 := Lib.hid hb2; clear hb2 ho2 hbase) | (go_at_call 75; (with_reducible refine (HR.out _ _ _ HT2.out).mono ?_); rintro e w3 ⟨rfl, ho3, hb3⟩; have HA3 := Lib.hid (HAt.out _ _ _ _ ho3); obtain ⟨hx0, hx1⟩ := two_cells HA3.out; have hle := HA3.out.le; rw [hMl] at hle; have HW3 : Hid (Below w0.heap.size w0 w3) := Lib.hid ((next HB1.out HB2.out).trans (hb3.mono (Nat.le_trans HB1.out.size HBa.out))); have HB3 : Hid (Below w.heap.size w w3) := Lib.hid (next HB0.out HW3.out); have HL3 : Hid (AdB w3 w.heap.size false 0 0) := Lib.hid (HL0.out w3 HW3.out); obtain ⟨⟨hc0, hc1, hc2⟩, hf0, hf1, hf2⟩ := HL3.out.facts; clear hb3 ho3) | (go_at_call 80; (with_reducible refine (HOD.out _ _ (row_tail2 HA3.out hMl) (HG0.out.next HW3.out)).mono ?_); rintro e w4 ⟨rfl, hb4⟩; have HL4 : Hid (AdB w4 w.heap.size false 0 0) := Lib.hid (HL0.out w4 (next HW3.out hb4)); have HB4 := Lib.hid (next HB3.out hb4); obtain ⟨⟨hd0, hd1, hd2⟩, hg0, hg1, hg2⟩ := HL4.out.facts; clear hb4) | (go_at_call 80; (with_reducible refine (HOD.out _ _ (row_tail0 HA3.out hMl (by omega)) (HG0.out.next HW3.out)).mono ?_); rintro e w4 ⟨rfl, hb4⟩; have HL4 : Hid (AdB w4 w.heap.size false 0 0) := Lib.hid (HL0.out w4 (next HW3.out hb4)); have HB4 := Lib.hid (next HB3.out hb4); obtain ⟨⟨hd0, hd1, hd2⟩, hg0, hg1, hg2⟩ := HL4.out.facts; clear hb4) | fail)
            all_goals try go_wp2_with (first | (go_at_call 80; (with_reducible refine (HOD.out _ _ (row_tail2 HA3.out hMl) (HG0.out.next HW3.out)).mono ?_); rintro e w4 ⟨rfl, hb4⟩; have HL4 : Hid (AdB w4 w.heap.size false 0 0) := Lib.hid (HL0.out w4 (next HW3.out hb4)); have HB4 := Lib.hid (next HB3.out hb4); obtain ⟨⟨hd0, hd1, hd2⟩, hg0, hg1, hg2⟩ := HL4.out.facts; clear hb4) | (go_at_call 80; (with_reducible refine (HOD.out _ _ (row_tail0 HA3.out hMl (by omega)) (HG0.out.next HW3.out)).mono ?_); rintro e w4 ⟨rfl, hb4⟩; have HL4 : Hid (AdB w4 w.heap.size false 0 0) := Lib.hid (HL0.out w4 (next HW3.out hb4)); have HB4 := Lib.hid (next HB3.out hb4); obtain ⟨⟨hd0, hd1, hd2⟩, hg0, hg1, hg2⟩ := HL4.out.facts; clear hb4) | fail)
            all_goals
              refine bodyPost_ret (ret_ad2 rfl _ _ w.heap.size noA rfl (AdB.put HL4.out _ _ _)) rfl ?_
              exact ⟨rfl, put3 HB4.out (Nat.le_refl _) _ _ _⟩
          | some a =>
            obtain ⟨six, hi, lo⟩ := a
            rw [ho] at HOD
            simp only [optA, av] at HOD ⊢
            go_enter Tryz.func25, Tryz.ntmps25
            go_wp2_with (first | (go_at_call 78; rw [← hw0]; (with_reducible refine HF.out.mono ?_); rintro e w1 ⟨rfl, hb1⟩; have HB1 := Lib.hid hb1; clear hb1) | (go_at_call 31; (with_reducible refine (HLb.out _).mono ?_); rintro e w2 ⟨g2, c2, base, rfl, hbase, ho2, hb2⟩; have HBa := Lib.hid hbase; have HT2 := Lib.hid ho2; have HB2 := Lib.hid hb2; clear hb2 ho2 hbase) | (go_at_call 75; (with_reducible refine (HR.out _ _ _ HT2.out).mono ?_); rintro e w3 ⟨rfl, ho3, hb3⟩; have HA3 := Lib.hid (HAt.out _ _ _ _ ho3); obtain ⟨hx0, hx1⟩ := two_cells HA3.out; have hle := HA3.out.le; rw [hMl] at hle; have HW3 : Hid (Below w0.heap.size w0 w3) := Lib.hid ((next HB1.out HB2.out).trans (hb3.mono (Nat.le_trans HB1.out.size HBa.out))); have HB3 : Hid (Below w.heap.size w w3) := Lib.hid (next HB0.out HW3.out); have HL3 : Hid (AdB w3 w.heap.size false 0 0) := Lib.hid (HL0.out w3 HW3.out); obtain ⟨⟨hc0, hc1, hc2⟩, hf0, hf1, hf2⟩ := HL3.out.facts; clear hb3 ho3) | (go_at_call 80; (with_reducible refine (HOD.out _ _ (row_tail2 HA3.out hMl) (HG0.out.next HW3.out)).mono ?_); rintro e w4 ⟨rfl, hb4⟩; have HL4 : Hid (AdB w4 w.heap.size false 0 0) := Lib.hid (HL0.out w4 (next HW3.out hb4)); have HB4 := Lib.hid (next HB3.out hb4); obtain ⟨⟨hd0, hd1, hd2⟩, hg0, hg1, hg2⟩ := HL4.out.facts; clear hb4) | (go_at_call 80; (with_reducible refine (HOD.out _ _ (row_tail0 HA3.out hMl (by omega)) (HG0.out.next HW3.out)).mono ?_); rintro e w4 ⟨rfl, hb4⟩; have HL4 : Hid (AdB w4 w.heap.size false 0 0) := Lib.hid (HL0.out w4 (next HW3.out hb4)); have HB4 := Lib.hid (next HB3.out hb4); obtain ⟨⟨hd0, hd1, hd2⟩, hg0, hg1, hg2⟩ := HL4.out.facts; clear hb4) | fail)
            all_goals try go_wp2_with (first | (go_at_call 80; (with_reducible refine (HOD.out _ _ (row_tail2 HA3.out hMl) (HG0.out.next HW3.out)).mono ?_); rintro e w4 ⟨rfl, hb4⟩; have HL4 : Hid (AdB w4 w.heap.size false 0 0) := Lib.hid (HL0.out w4 (next HW3.out hb4)); have HB4 := Lib.hid (next HB3.out hb4); obtain ⟨⟨hd0, hd1, hd2⟩, hg0, hg1, hg2⟩ := HL4.out.facts; clear hb4) | (go_at_call 80; (with_reducible refine (HOD.out _ _ (row_tail0 HA3.out hMl (by omega)) (HG0.out.next HW3.out)).mono ?_); rintro e w4 ⟨rfl, hb4⟩; have HL4 : Hid (AdB w4 w.heap.size false 0 0) := Lib.hid (HL0.out w4 (next HW3.out hb4)); have HB4 := Lib.hid (next HB3.out hb4); obtain ⟨⟨hd0, hd1, hd2⟩, hg0, hg1, hg2⟩ := HL4.out.facts; clear hb4) | fail)
            all_goals
              refine bodyPost_ret (ret_ad2 rfl _ _ w.heap.size (six, hi, lo) rfl (AdB.put HL4.out _ _ _)) rfl ?_
              exact ⟨rfl, put3 HB4.out (Nat.le_refl _) _ _ _⟩
        · have e3 : (Y.toList == [105, 112, 54]) = false := ne_lit (by rw [hYb]; exact hy2)
          have hbr : bkR (x :: y :: r) = none := by rw [bkR_cons, if_neg (by rw [hx]; simp), if_neg hy, if_neg hy2]
          rw [hbr]
          clear hx hy hy2 hbr hXb hYb HON HOD hR
          simp only [noA, av]
          go_enter Tryz.func25, Tryz.ntmps25
          go_wp2_with (first | (go_at_call 78; rw [← hw0]; (with_reducible refine HF.out.mono ?_); rintro e w1 ⟨rfl, hb1⟩; have HB1 := Lib.hid hb1; clear hb1) | (go_at_call 31; (with_reducible refine (HLb.out _).mono ?_); rintro e w2 ⟨g2, c2, base, rfl, hbase, ho2, hb2⟩; have HBa := Lib.hid hbase; have HT2 := Lib.hid ho2; have HB2 := Lib.hid hb2; clear hb2 ho2 hbase) | (go_at_call 75; (with_reducible refine (HR.out _ _ _ HT2.out).mono ?_); rintro e w3 ⟨rfl, ho3, hb3⟩; have HA3 := Lib.hid (HAt.out _ _ _ _ ho3); obtain ⟨hx0, hx1⟩ := two_cells HA3.out; have hle := HA3.out.le; rw [hMl] at hle; have HW3 : Hid (Below w0.heap.size w0 w3) := Lib.hid ((next HB1.out HB2.out).trans (hb3.mono (Nat.le_trans HB1.out.size HBa.out))); have HB3 : Hid (Below w.heap.size w w3) := Lib.hid (next HB0.out HW3.out); have HL3 : Hid (AdB w3 w.heap.size false 0 0) := Lib.hid (HL0.out w3 HW3.out); obtain ⟨⟨hc0, hc1, hc2⟩, hf0, hf1, hf2⟩ := HL3.out.facts; clear hb3 ho3) | fail)
          refine bodyPost_ret (ret_ad2 rfl _ _ w.heap.size noA rfl (AdB.put HL3.out _ _ _)) rfl ?_
          exact ⟨rfl, put3 HB3.out (Nat.le_refl _) _ _ _⟩
    · have e1 : (X.toList == [97, 114, 112, 97]) = false := ne_lit (by rw [hXb]; exact hx)
      have hbr : bkR (x :: y :: r) = none := by rw [bkR_cons, if_pos hx]
      rw [hbr]
      clear hx hbr hXb hYb HON HOD hR
      simp only [noA, av]
      go_enter Tryz.func25, Tryz.ntmps25
      go_wp2_with (first | (go_at_call 78; rw [← hw0]; (with_reducible refine HF.out.mono ?_); rintro e w1 ⟨rfl, hb1⟩; have HB1 := Lib.hid hb1; clear hb1) | (go_at_call 31; (with_reducible refine (HLb.out _).mono ?_); rintro e w2 ⟨g2, c2, base, rfl, hbase, ho2, hb2⟩; have HBa := Lib.hid hbase; have HT2 := Lib.hid ho2; have HB2 := Lib.hid hb2; clear hb2 ho2 hbase) | (go_at_call 75; (with_reducible refine (HR.out _ _ _ HT2.out).mono ?_); rintro e w3 ⟨rfl, ho3, hb3⟩; have HA3 := Lib.hid (HAt.out _ _ _ _ ho3); obtain ⟨hx0, hx1⟩ := two_cells HA3.out; have hle := HA3.out.le; rw [hMl] at hle; have HW3 : Hid (Below w0.heap.size w0 w3) := Lib.hid ((next HB1.out HB2.out).trans (hb3.mono (Nat.le_trans HB1.out.size HBa.out))); have HB3 : Hid (Below w.heap.size w w3) := Lib.hid (next HB0.out HW3.out); have HL3 : Hid (AdB w3 w.heap.size false 0 0) := Lib.hid (HL0.out w3 HW3.out); obtain ⟨⟨hc0, hc1, hc2⟩, hf0, hf1, hf2⟩ := HL3.out.facts; clear hb3 ho3) | fail)
      refine bodyPost_ret (ret_ad2 rfl _ _ w.heap.size noA rfl (AdB.put HL3.out _ _ _)) rfl ?_
      exact ⟨rfl, put3 HB3.out (Nat.le_refl _) _ _ _⟩
end Go.Proofs.YtjadghmanpkgoaaGreatDoor
