/-
  What the document's own Text, Read, Fold answer for layer 2: the walks. Conditions: as each theorem names them.
-/
import Derived.Test.YtjflmifolmpdgaaNmRefB
import Derived.Test.YtjflmifolmpdgaaNmText
import Derived.Laws.OwnMore
namespace Go.Proofs.Ytjflmifolmpdgaa
open Go.RowKit
set_option linter.unusedVariables false

theorem rnText_bad (n : ByteArray) (w : World) (hs : n.size ≤ maxLen) (hc : chkN (bs n) ≠ 0) : Calls Try.prog 25 #[.string n] w (NTx w (bs n)) := by
  have HC := Lib.hid (fun wx => rnCheck_any n wx hs)
  have hb : ((chkN (bs n) : Int) != 0) = true := bne_iff_ne.2 (by omega)
  have HE : Hid (txN (bs n) = []) := Lib.hid (if_neg hc)
  clear hc hs
  go_enter Try.func25, Try.ntmps25
  go_wp2_with (go_at_call 29; refine (HC.out _).mono ?_; rintro e w1 ⟨rfl, rfl⟩)
  go_ret2
  exact ⟨by rw [HE.out]; rfl, Below.refl _ _⟩

/-- The relation of Text's loop. -/
def RtRel (L : List ByteArray) (w : World) (s i : Value) (wr : World) : Prop :=
  ∃ (k : Nat) (S : ByteArray), i = .int .i64 k ∧ k ≤ L.length ∧ s = .string S ∧ Hid (bs S = tN ((L.map bs).take k)) ∧ Below w.heap.size w wr
theorem enc_take_le (L : List (List UInt8)) (k : Nat) : (enc (L.take k)).length ≤ (enc L).length := by
  have := congrArg (fun M => (enc M).length) (List.take_append_drop k L)
  simp only [enc_append, List.length_append] at this
  omega

set_option maxHeartbeats 2000000 in
theorem rnText_ok (n : ByteArray) (w : World) (hc : chkN (bs n) = 0) : Calls Try.prog 25 #[.string n] w (NTx w (bs n)) := by
  have hns : n.size ≤ 254 := by have := (chkN_iff.1 hc).1; rw [bs_length] at this; exact this
  have hm : n.size ≤ maxLen := by unfold maxLen; omega
  have HC : Hid (∀ wx, Calls Try.prog 29 #[.string n] wx fun e w' => e = .returned (.int .i64 0) ∧ wx = w') := Lib.hid (fun wx => by
    have := rnCheck_any n wx hm
    rw [hc] at this
    exact this)
  have HZ := Lib.hid hc
  rcases Nat.eq_zero_or_pos n.size with h0 | h0
  · have hn : bs n = [] := List.eq_nil_of_length_eq_zero (by rw [bs_length]; exact h0)
    have HE : Hid (txN (bs n) = [46]) := Lib.hid (by rw [hn]; rfl)
    have e1 := empty_yes h0
    clear hc hn h0 hns
    go_enter Try.func25, Try.ntmps25
    go_wp2_with (go_at_call 29; refine (HC.out _).mono ?_; rintro e w1 ⟨rfl, rfl⟩)
    go_ret2
    exact ⟨by rw [HE.out, HZ.out]; rfl, Below.refl _ _⟩
  · obtain ⟨e1, e2⟩ := empty_no h0
    have HE : Hid (txN (bs n) = tN (labs (bs n))) := Lib.hid (by unfold txN; rw [if_pos hc, if_neg (by rw [bs_length]; omega)])
    have HL := Lib.hid (fun wx => rLabels_any n wx hm)
    have hN := nlabs_len (bs n)
    clear hc h0
    go_enter Try.func25, Try.ntmps25
    go_wp2_with (go_at_call 29; refine (HC.out _).mono ?_; rintro e w1 ⟨rfl, rfl⟩)
    refine (HL.out _).mono ?_
    rintro e w1 ⟨v, L, rfl, hown, hLL, hb1⟩
    have hLn : L.length ≤ 127 := by rw [labs_len hLL]; exact hN
    have HROW := Lib.hid hown.row
    have HLL := Lib.hid hLL
    have HOK : Hid (okN (L.map bs)) := Lib.hid (by rw [hLL]; exact nlabs_ok _)
    have HLE : Hid ((enc (L.map bs)).length ≤ 254) := Lib.hid (by
      rw [hLL, nlabs_yes HZ.out, (chkN_iff.1 HZ.out).2, bs_length]
      exact hns)
    obtain ⟨A, ca, rfl⟩ := hown.shape
    clear hown hLL hN
    go_wp2
    go_loopw [5, 7] (fun s i wr => RtRel L w1 s i wr) (fun _ i _ => L.length - (intOf i).toNat)
    case atStart => exact ⟨0, ⟨#[]⟩, rfl, Nat.zero_le _, rfl, Lib.hid rfl, Below.refl _ _⟩
    case round =>
      obtain ⟨k, S, rfl, hk, rfl, hS, hb⟩ := hrel
      have hsz : S.size ≤ 1016 := by
        have h1 := tN_len ((L.map bs).take k)
        rw [← hS.out, bs_length] at h1
        have h2 := enc_take_le (L.map bs) k
        have h3 := HLE.out
        omega
      by_cases hlt : k < L.length
      · obtain ⟨g, off, hA, hcell⟩ := (HROW.out.below hb (Nat.le_refl _)).at hlt
        subst hA
        have hok := HOK.out (bs L[k]) (List.mem_map_of_mem (List.getElem_mem hlt))
        obtain ⟨T, hT⟩ : ∃ T : ByteArray, bs T = tx (bs L[k]) := ⟨_, bs_mk _⟩
        have hTs : T.size ≤ 252 := by
          have := tx_size hT
          have h2 := hok.2
          rw [bs_length] at h2
          omega
        have hck := ok1_chk.1 hok
        have HX : Hid (∀ wx, Calls Try.prog 55 #[.string L[k]] wx fun e w' => e = .returned (.tuple #[.string T, .int .i64 0]) ∧ Below wx.heap.size wx w') := Lib.hid (fun wx => by
          refine (rText_ok L[k] wx hck).mono ?_
          rintro e w' ⟨rfl, hb⟩
          have h : txR (bs L[k]) = bs T := by rw [hT]; exact if_pos hck
          rw [h, hck]
          exact ⟨rfl, hb⟩)
        have HE2 : Hid (bs (S ++ T ++ ⟨#[46]⟩) = tN ((L.map bs).take (k + 1))) := Lib.hid (by rw [bs_append, bs_append, hS.out, hT, take_one L k hlt, tN_snoc, List.append_assoc]; rfl)
        have i1 : (k : Int) < L.length := by omega
        have hbz := hb.size
        clear hok hT hck
        go_wp2_with (go_at_call 55; refine (HX.out _).mono ?_; rintro e w2 ⟨rfl, hb2⟩)
        go_roundw
        case rel => exact ⟨k + 1, _, by go_num, hlt, rfl, HE2, hb.trans (hb2.mono hbz)⟩
        case measure => simp [intOf]; omega
      · have hge : ¬ (k : Int) < L.length := by omega
        have HE3 : Hid (S = ⟨(txN (bs n)).toArray⟩) := Lib.hid (bs_inj (by rw [bs_mk (txN (bs n)), hS.out, List.take_of_length_le (by rw [List.length_map]; omega), HLL.out, nlabs_yes HZ.out, HE.out]))
        clear hlt
        go_wp2
        go_ret2
        refine ⟨?_, next hb1 hb⟩
        rw [← HE3.out, HZ.out]
        rfl

theorem rnText_any (n : ByteArray) (w : World) (hs : n.size ≤ maxLen) : Calls Try.prog 25 #[.string n] w (NTx w (bs n)) := by
  by_cases hc : chkN (bs n) = 0
  · exact rnText_ok n w hc
  · exact rnText_bad n w hs hc

/-- The relation of Read's loop. -/
def RrRel (s : ByteArray) (w : World) (y : List (List UInt8) × Nat) (v i : Value) (wr : World) : Prop :=
  ∃ (k f : Nat) (L : List ByteArray), i = .int .i64 k ∧ k ≤ s.size + 1 ∧ L.length ≤ k ∧ Hid (okN (L.map bs)) ∧ TOwn 9 wr w.heap.size v L ∧ Below w.heap.size w wr ∧ s.size ≤ f + k ∧ Hid (rdLs f (bs s) k (L.map bs) = y)

set_option maxHeartbeats 2000000 in
theorem rnRead_loop (s : ByteArray) (w : World) (hs : s.size ≤ 1048576) (h0 : 0 < s.size) (h46 : bs s ≠ [46]) :
    Calls Try.prog 26 #[.string s] w (Nm w (rdN (bs s))) := by
  obtain ⟨e1, e2⟩ := empty_no h0
  have e3 : (s.toList == [46]) = false := beq_eq_false_iff_ne.2 (fun e => h46 (by rw [← bs_toList]; exact e))
  obtain ⟨y, hy⟩ : ∃ y, y = rdLs (bs s).length (bs s) 0 [] := ⟨_, rfl⟩
  have HF : Hid (rdN (bs s) = if y.2 = 0 then named (enc y.1) else ([], y.2)) := Lib.hid (by
    unfold rdN
    rw [if_neg (by intro e; have := bs_length s; rw [e] at this; simp at this; omega), if_neg h46, hy])
  have HR0 : Hid (RrRel s w y (.slice none 0 0) (.int .i64 0) w) := Lib.hid ⟨0, s.size, [], rfl, Nat.zero_le _, Nat.le_refl _, Lib.hid okN_nil, TOwn.none_ _ _, Below.refl _ _, by omega, Lib.hid (by rw [hy, bs_length]; rfl)⟩
  clear hy h46 h0
  go_enter Try.func26, Try.ntmps26
  go_wp2
  go_loopw [4, 5] (fun v i wr => RrRel s w y v i wr) (fun _ i _ => s.size - (intOf i).toNat)
  case atStart => exact HR0.out
  case round =>
    clear HR0
    obtain ⟨k, f, L, rfl, hk, hLk, HL, hown, hb, hf, HY⟩ := hrel
    obtain ⟨A, cap, rfl⟩ := hown.shape
    rcases Nat.lt_or_ge k s.size with hlt | hge
    · obtain ⟨f, rfl⟩ : ∃ g, f = g + 1 := ⟨f - 1, by omega⟩
      obtain ⟨x, hx⟩ : ∃ x, x = rd (bs s) k := ⟨_, rfl⟩
      have HC := Lib.hid (fun wx => rRead_any s k wx x (by omega) (by omega) hx.symm)
      obtain ⟨l, n, er⟩ := x
      by_cases he : er = 0
      · subst he
        have hx' := rd_out (by rw [bs_length]; omega) hx.symm
        rw [bs_length] at hx'
        obtain ⟨hn1, hn2, hok⟩ := hx'
        have e4 : (L ++ [(⟨l.toArray⟩ : ByteArray)]).map bs = L.map bs ++ [l] := by rw [List.map_append, List.map_cons, List.map_nil, bs_mk]
        have HN : Hid (rdLs f (bs s) (n + 1) ((L ++ [(⟨l.toArray⟩ : ByteArray)]).map bs) = y) := Lib.hid (by rw [e4, ← HY.out, rdLs_step (by rw [bs_length]; exact hlt) hx.symm])
        have HO : Hid (okN ((L ++ [(⟨l.toArray⟩ : ByteArray)]).map bs)) := Lib.hid (by rw [e4]; exact okN_append.2 ⟨HL.out, okN_cons.2 ⟨hok, okN_nil⟩⟩)
        have hll : L.length ≤ 1099511627776 := by omega
        clear HY hx hok e4
        have hbz := hb.size
        go_wp2_with (first | (go_at_call 56; refine (HC.out _).mono ?_; rintro e w1 ⟨rfl, hb1⟩; replace hown := hown.below hb1 (Nat.le_refl _); have hz1 := Nat.le_trans hbz hb1.size) | (at_builtin; refine wpList_appendT stS _ rfl (.tmp 27) (.tmp 29) rfl w.heap.size _ L rfl (hown.alloc _) ⟨w1.heap.size, 0, none⟩ ⟨l.toArray⟩ rfl (cellT _ _ _) hll (le_alloc hz1 _) ?_; intro v2 w2 hown2 hg2; have HG2 := Lib.hid hg2; clear hg2))
        go_roundw
        case rel =>
          exact ⟨n + 1, f, L ++ [⟨l.toArray⟩], by go_num, by omega, by rw [List.length_append, List.length_singleton]; omega, HO, hown2, ((hb.trans (hb1.mono hb.size)).alloc hz1 _).trans (below_grownT HG2.out (hown.alloc _) (Nat.le_refl _) (le_alloc hz1 _)), by omega, HN⟩
        case measure => simp [intOf]; omega
      · have HN : Hid (y = ([], er)) := Lib.hid (by rw [← HY.out, rdLs_bad (by rw [bs_length]; exact hlt) hx.symm he])
        have hbe : ((er : Int) != 0) = true := by rw [bne_iff_ne]; omega
        have HP : Hid (rdN (bs s) = ([], er)) := Lib.hid (by rw [HF.out, HN.out]; exact if_neg he)
        clear HY hx HN HF he
        go_wp2_with (go_at_call 56; refine (HC.out _).mono ?_; rintro e w1 ⟨rfl, hb1⟩)
        go_ret2
        exact nm_ret _ [] _ er HP.out rfl rfl (hb.trans (hb1.mono hb.size))
    · have HN : Hid (rdN (bs s) = mkN (L.map bs)) := Lib.hid (by
        rw [HF.out, ← HY.out, rdLs_end (by rw [bs_length]; exact hge)]
        unfold mkN
        rw [if_pos (badL_ok.2 HL.out)]
        rfl)
      have HM := Lib.hid (rMake_any _ L wr hown.row (by omega) (fun x hx => by
        have := (HL.out (bs x) (List.mem_map_of_mem hx)).2
        rw [bs_length] at this
        unfold maxLen
        omega))
      clear HF HY
      go_wp2_with (go_at_call 24; refine HM.out.mono ?_; rintro e w1 ⟨rfl, hb1⟩)
      go_ret2
      refine ⟨?_, hb.trans (hb1.mono hb.size)⟩
      rw [HN.out]
      rfl

theorem rnRead_any (s : ByteArray) (w : World) (hs : s.size ≤ 1048576) : Calls Try.prog 26 #[.string s] w (Nm w (rdN (bs s))) := by
  rcases Nat.eq_zero_or_pos s.size with h0 | h0
  · have e1 := empty_yes h0
    have HP : Hid (rdN (bs s) = ([], 2)) := Lib.hid (if_pos (List.eq_nil_of_length_eq_zero (by rw [bs_length]; exact h0)))
    clear hs h0
    go_enter Try.func26, Try.ntmps26
    go_wp2
    go_ret2
    exact nm_ret _ [] _ 2 HP.out rfl rfl (Below.refl _ _)
  · by_cases h46 : bs s = [46]
    · obtain ⟨e1, e2⟩ := empty_no h0
      have e3 : (s.toList == [46]) = true := beq_iff_eq.2 (by rw [bs_toList]; exact h46)
      have HP : Hid (rdN (bs s) = ([], 0)) := Lib.hid (by rw [h46]; rfl)
      clear hs h0 h46
      go_enter Try.func26, Try.ntmps26
      go_wp2
      go_ret2
      exact nm_ret _ [] _ 0 HP.out rfl rfl (Below.refl _ _)
    · exact rnRead_loop s w hs h0 h46
end Go.Proofs.Ytjflmifolmpdgaa
