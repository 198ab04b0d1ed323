/-
  What the document's own Read, Text answer for layer 1: the walks. Condition: the string is no longer than 2^40 octets.
-/
import Derived.Test.YtjflmifolmpdgaaRefA
namespace Go.Proofs.Ytjflmifolmpdgaa
open Go.RowKit
set_option linter.unusedVariables false

theorem dig3_cons (d e f : UInt8) (r : List UInt8) : dig3 (d :: e :: f :: r) = if dg d = true ∧ dg e = true ∧ dg f = true ∧ num3 d e f ≤ 255 then some (UInt8.ofNat (num3 d e f)) else none := rfl
theorem roct_some (s : ByteArray) (k : Nat) (w : World) (hs : s.size ≤ 1099511627776) (hk : k < s.size) (c : UInt8) (n : Nat) (h : oct ((bs s).drop k) = some (c, n)) :
    Calls Try.prog 70 #[.string s, .int .i64 k] w (Ro w c.toNat n) := by
  rw [drop_at s k hk, oct_cons] at h
  by_cases h92 : s[k].toNat = 92
  · rw [if_pos h92] at h
    rcases Nat.lt_or_ge (k + 1) s.size with h1 | h1
    · rw [drop_at s (k + 1) h1, esct_cons] at h
      by_cases hd : dg s[k + 1] = true
      · rw [if_pos hd] at h
        rcases Nat.lt_or_ge (k + 3) s.size with h3 | h3
        · rw [drop_at s (k + 2) (by omega), drop_at s (k + 3) h3] at h
          rw [dig3_cons] at h
          by_cases hc : dg s[k + 1] = true ∧ dg s[k + 2] = true ∧ dg s[k + 3] = true ∧ num3 s[k + 1] s[k + 2] s[k + 3] ≤ 255
          · rw [if_pos hc] at h
            simp only [Option.map_some, Option.some.injEq, Prod.mk.injEq] at h
            obtain ⟨rfl, rfl⟩ := h
            have := roct_num s k w hs h3 h92 hc.1 hc.2.1 hc.2.2.1
            rw [if_pos hc.2.2.2] at this
            rw [UInt8.toNat_ofNat_of_lt' (by show _ < 256; omega)]
            exact this
          · rw [if_neg hc] at h
            cases h
        · have hn : dig3 (s[k + 1] :: (bs s).drop (k + 1 + 1)) = none := dig3_short (by rw [List.length_cons, List.length_drop, bs_length]; omega)
          rw [hn] at h
          cases h
      · rw [if_neg hd] at h
        simp only [Option.some.injEq, Prod.mk.injEq] at h
        obtain ⟨rfl, rfl⟩ := h
        exact roct_other s k w hs h1 h92 (by simpa using hd)
    · rw [drop_end s (k + 1) h1] at h
      cases h
  · rw [if_neg h92] at h
    have := roct_vis s k w hs hk h92
    by_cases hv : vis s[k] = true
    · rw [if_pos hv] at h this
      simp only [Option.some.injEq, Prod.mk.injEq] at h
      obtain ⟨rfl, rfl⟩ := h
      exact this
    · rw [if_neg hv] at h
      cases h
theorem roct_none (s : ByteArray) (k : Nat) (w : World) (hs : s.size ≤ 1099511627776) (hk : k < s.size) (h : oct ((bs s).drop k) = none) :
    Calls Try.prog 70 #[.string s, .int .i64 k] w (Ro w 0 0) := by
  rw [drop_at s k hk, oct_cons] at h
  by_cases h92 : s[k].toNat = 92
  · rw [if_pos h92] at h
    rcases Nat.lt_or_ge (k + 1) s.size with h1 | h1
    · rw [drop_at s (k + 1) h1, esct_cons] at h
      by_cases hd : dg s[k + 1] = true
      · rw [if_pos hd] at h
        rcases Nat.lt_or_ge (k + 3) s.size with h3 | h3
        · rw [drop_at s (k + 2) (by omega), drop_at s (k + 3) h3] at h
          rw [dig3_cons] at h
          cases h2 : dg s[k + 2]
          · exact roct_no s k w hs h3 h92 hd (.inl h2)
          · cases h3' : dg s[k + 3]
            · exact roct_no s k w hs h3 h92 hd (.inr ⟨h2, h3'⟩)
            · have := roct_num s k w hs h3 h92 hd h2 h3'
              by_cases hb : num3 s[k + 1] s[k + 2] s[k + 3] ≤ 255
              · rw [if_pos ⟨hd, h2, h3', hb⟩] at h
                cases h
              · rw [if_neg hb] at this
                exact this
        · exact roct_short s k w hs h1 h92 hd h3
      · rw [if_neg hd] at h
        cases h
    · exact roct_end s k w hs hk h92 h1
  · rw [if_neg h92] at h
    have := roct_vis s k w hs hk h92
    by_cases hv : vis s[k] = true
    · rw [if_pos hv] at h
      cases h
    · rw [if_neg hv] at this
      exact this

theorem rRead_bad (s : ByteArray) (k : Int) (w : World) (hs : s.size ≤ 1099511627776) (hk : k < 0 ∨ (s.size : Int) < k) :
    Calls Try.prog 56 #[.string s, .int .i64 k] w (Rd w ([], 0, 2)) := by
  rcases hk with hk | hk
  · go_enter Try.func56, Try.ntmps56
    go_wp2
    go_ret3
    exact rd_ret _ [] _ _ 0 2 rfl rfl rfl rfl (Below.refl _ _)
  · have h0 : ¬ k < 0 := by omega
    go_enter Try.func56, Try.ntmps56
    go_wp2
    go_ret3
    exact rd_ret _ [] _ _ 0 2 rfl rfl rfl rfl (Below.refl _ _)

set_option maxHeartbeats 1000000 in
theorem rRead_any (s : ByteArray) (k0 : Nat) (w : World) (x : List UInt8 × Nat × Nat) (hs : s.size ≤ 1099511627776) (hk0 : k0 ≤ s.size) (hx : rd (bs s) k0 = x) :
    Calls Try.prog 56 #[.string s, .int .i64 k0] w (Rd w x) := by
  have hr0 : ReadRel s w x (.int .i64 k0) (.slice none 0 0) w := ⟨k0, [], rfl, hk0, by simp, Own.none_ _ _, Below.refl _ _, hx⟩
  have HR := Lib.hid hr0
  clear hr0 hx
  have hk1 : decide (s.size < k0) = false := decide_eq_false (by omega)
  have hk2 : decide ((k0 : Int) < 0) = false := decide_eq_false (by omega)
  go_enter Try.func56, Try.ntmps56
  go_wp2
  go_loopw [1, 7] (fun i v wr => ReadRel s w x i v wr) (fun i _ _ => s.size - (intOf i).toNat)
  case atStart => exact HR.out
  case round =>
    obtain ⟨k, out, rfl, hk, hout, hown, hb, hx⟩ := hrel
    have HX := Lib.hid hx
    clear hx HR
    obtain ⟨A, cap, rfl⟩ := hown.shape
    have hcv := bt.conv_own hown
    rcases Nat.lt_or_ge k s.size with hlt | hge
    · have hd := drop_at s k hlt
      by_cases h46 : s[k].toNat = 46
      · have hb46 : ((s[k].toNat : Int) != 46) = false := by simp; omega
        have HF : Hid (fin out k = x) := by
          have hx := HX.out
          rw [hd, rdF_dot _ _ _ _ _ h46] at hx
          exact hx
        clear HX h46 hd
        by_cases h0 : out.length = 0
        · have hb0 : ((out.length : Int) == 0) = true := beq_iff_eq.2 (by omega)
          have HE : Hid (x = ([], 0, 2)) := by rw [← HF.out]; exact if_pos h0
          clear h0 HF
          go_wp2
          go_ret3
          exact rd_ret _ [] _ _ 0 2 HE.out rfl rfl rfl hb
        · have hb0 : ((out.length : Int) == 0) = false := beq_eq_false_iff_ne.2 (by omega)
          have HE : Hid (x = (out, k, 0)) := by rw [← HF.out]; exact if_neg h0
          clear h0 HF
          go_wp2
          go_ret3
          exact rd_ret _ out _ _ k 0 HE.out rfl rfl rfl hb
      · have hb46 : ((s[k].toNat : Int) != 46) = true := by simp; omega
        rcases ho : oct ((bs s).drop k) with _ | ⟨c, n⟩
        · have HC := Lib.hid (fun wx => roct_none s k wx hs hlt ho)
          have HE : Hid (x = ([], 0, 7)) := by
            rw [hd] at ho
            rw [← HX.out, hd]
            exact rdF_bad _ _ _ _ _ h46 ho
          clear HX ho h46 hd
          go_wp2_with (go_at_call 70; refine (HC.out _).mono ?_; rintro e w1 ⟨rfl, hb1⟩)
          go_ret3
          exact rd_ret _ [] _ _ 0 7 HE.out rfl rfl rfl (hb.trans (hb1.mono hb.size))
        · have HC := Lib.hid (fun wx => roct_some s k wx hs hlt c n ho)
          have hn := oct_len ho
          rw [List.length_drop, bs_length] at hn
          have hn0 : ((n : Int) == 0) = false := beq_eq_false_iff_ne.2 (by omega)
          by_cases h63 : out.length = 63
          · have hb63 : ((out.length : Int) == 63) = true := beq_iff_eq.2 (by omega)
            have HE : Hid (x = ([], 0, 3)) := by
              rw [hd] at ho
              rw [← HX.out, hd, h63]
              exact rdF_long _ _ _ _ _ h46 ho
            clear HX ho h46 hd h63
            go_wp2_with (go_at_call 70; refine (HC.out _).mono ?_; rintro e w1 ⟨rfl, hb1⟩)
            go_ret3
            exact rd_ret _ [] _ _ 0 3 HE.out rfl rfl rfl (hb.trans (hb1.mono hb.size))
          · have hb63 : ((out.length : Int) == 63) = false := beq_eq_false_iff_ne.2 (by omega)
            have HN : Hid (rdF (63 - (out ++ [c]).length) ((bs s).drop (k + n)) (out ++ [c]) (k + n) = x) := by
              have hx := HX.out
              rw [hd] at ho hx
              rw [show 63 - out.length = (63 - (out ++ [c]).length) + 1 by simp; omega, rdF_step _ _ _ _ _ c n h46 ho, ← hd, List.drop_drop] at hx
              exact hx
            clear HX ho h46 hd hcv
            have hlo : out.length + [c].length ≤ 70368744177664 := by simp; omega
            go_wp2_with (first | (go_at_call 70; refine (HC.out _).mono ?_; rintro e w1 ⟨rfl, hb1⟩; replace hown := hown.below hb1 (Nat.le_refl _); have hz1 := Nat.le_trans hb.size hb1.size) | (at_builtin; refine wpList_appendB bt _ rfl (.tmp 39) (.tmp 41) rfl w.heap.size _ out rfl (hown.alloc _) ⟨w1.heap.size, 0, none⟩ 1 1 [c] rfl rfl (cellsN _ _ _ [c] rfl _ rfl) hlo (le_alloc hz1 _) ?_; intro v2 w2 hown2 hg2 _))
            go_roundw
            case rel =>
              have hrel : ReadRel s w x (.int .i64 (↑k + ↑n)) v2 w2 := ⟨k + n, out ++ [c], by go_num, by omega, by simp; omega, hown2, ((hb.trans (hb1.mono hb.size)).alloc hz1 _).trans (below_grown hg2 (hown.alloc _) (Nat.le_refl _) (le_alloc hz1 _)), HN.out⟩
              exact hrel
            case measure => simp [intOf]; omega
    · have HF : Hid (fin out k = x) := by
        have hx := HX.out
        rw [drop_end s k hge, rdF_nil] at hx
        exact hx
      clear HX
      by_cases h0 : out.length = 0
      · have hb0 : ((out.length : Int) == 0) = true := beq_iff_eq.2 (by omega)
        have HE : Hid (x = ([], 0, 2)) := by rw [← HF.out]; exact if_pos h0
        clear h0 HF
        go_wp2
        go_ret3
        exact rd_ret _ [] _ _ 0 2 HE.out rfl rfl rfl hb
      · have hb0 : ((out.length : Int) == 0) = false := beq_eq_false_iff_ne.2 (by omega)
        have HE : Hid (x = (out, k, 0)) := by rw [← HF.out]; exact if_neg h0
        clear h0 HF
        go_wp2
        go_ret3
        exact rd_ret _ out _ _ k 0 HE.out rfl rfl rfl hb

/-! ### Text -/
def RTextRel (s : ByteArray) (w : World) (i v : Value) (wr : World) : Prop :=
  ∃ k : Nat, i = .int .i64 k ∧ k ≤ s.size ∧ Own 5 wr w.heap.size v (tx ((bs s).take k)) ∧ Below w.heap.size w wr

theorem rText_bad (s : ByteArray) (w : World) (hs : s.size ≤ maxLen) (hc : chk (bs s) ≠ 0) :
    Calls Try.prog 55 #[.string s] w (Tx w (bs s)) := by
  have hb : ((chk (bs s) : Int) != 0) = true := by rw [bne_iff_ne]; omega
  have HF := Lib.hid (show txR (bs s) = [] from if_neg hc)
  have HC := Lib.hid (fun wx => rCheck_any s wx hs)
  clear hc hs
  go_enter Try.func55, Try.ntmps55
  go_wp2_with (go_at_call 54; refine (HC.out _).mono ?_; rintro e w' ⟨rfl, rfl⟩)
  go_ret2
  exact ⟨by rw [HF.out]; rfl, Below.refl _ _⟩

theorem digits4 (c : UInt8) : [Value.int .u8 92, Value.int .u8 (48 + (c.toNat : Int) / 100), Value.int .u8 (48 + (c.toNat : Int) / 10 % 10), Value.int .u8 (48 + (c.toNat : Int) % 10)] = [92, 48 + c / 100, 48 + c / 10 % 10, 48 + c % 10].map B := by
  have := digits3 c
  rw [List.map_cons, ← this]
  rfl

set_option maxHeartbeats 1000000 in
theorem rText_ok (s : ByteArray) (w : World) (hc : chk (bs s) = 0) :
    Calls Try.prog 55 #[.string s] w (Tx w (bs s)) := by
  obtain ⟨hpos, hsz⟩ := chk_ok hc
  have hb : ((chk (bs s) : Int) != 0) = false := by rw [hc]; rfl
  have hm : s.size ≤ maxLen := by unfold maxLen; omega
  have HF := Lib.hid (show txR (bs s) = tx (bs s) from if_pos hc)
  have HC := Lib.hid (fun wx => rCheck_any s wx hm)
  have HZ := Lib.hid hc
  clear hc hm
  go_enter Try.func55, Try.ntmps55
  go_wp2_with (go_at_call 54; refine (HC.out _).mono ?_; rintro e w' ⟨rfl, rfl⟩)
  go_loopw [5, 6] (fun v i wr => RTextRel s w i v wr) (fun _ i _ => s.size - (intOf i).toNat)
  case atStart => exact ⟨0, rfl, Nat.zero_le _, Own.none_ _ _, Below.refl _ _⟩
  case round =>
    obtain ⟨k, rfl, hk, hown, hb⟩ := hrel
    obtain ⟨A, vcap, rfl⟩ := hown.shape
    rcases Nat.lt_or_ge k s.size with hlt | hge
    · have HT := Lib.hid (take_more s k hlt)
      have htl := tx_len ((bs s).take k)
      rw [List.length_take, bs_length] at htl
      have hbz := hb.size
      have hc256 := s[k].toNat_lt
      have hklt : min k s.size ≤ k := Nat.min_le_left _ _
      by_cases h2 : s[k].toNat = 46 ∨ s[k].toNat = 92
      · have hv : vis s[k] = true := by unfold vis; simp; omega
        have HE := Lib.hid (esc1_two hv h2)
        have hl2 : (tx ((bs s).take k)).length + [92, s[k]].length ≤ 70368744177664 := by simp; omega
        clear hv
        rcases h2 with h2 | h2
        · have hb46 : ((s[k].toNat : Int) == 46) = true := beq_iff_eq.2 (by omega)
          clear h2
          go_wp2_with (at_builtin; refine wpList_appendB bt _ rfl (.tmp 42) (.tmp 44) rfl w.heap.size (.slice A (tx ((bs s).take k)).length vcap) (tx ((bs s).take k)) rfl (hown.alloc _) ⟨wr.heap.size, 0, none⟩ 2 2 [92, s[k]] rfl rfl (cellsN _ _ _ _ rfl _ rfl) hl2 (le_alloc hbz _) ?_; intro v2 w2' hown2 hg2 _; have HG2 := Lib.hid hg2; clear hg2)
          go_roundw
          case rel =>
            exact ⟨k + 1, by go_num, by omega, by rw [HT.out, tx_snoc, HE.out]; exact hown2, (hb.alloc hbz _).trans (below_grown HG2.out (hown.alloc _) (Nat.le_refl _) (le_alloc hbz _))⟩
          case measure => simp [intOf]; omega
        · have hb46 : ((s[k].toNat : Int) == 46) = false := beq_eq_false_iff_ne.2 (by omega)
          have hb92 : ((s[k].toNat : Int) == 92) = true := beq_iff_eq.2 (by omega)
          clear h2
          go_wp2_with (at_builtin; refine wpList_appendB bt _ rfl (.tmp 42) (.tmp 44) rfl w.heap.size (.slice A (tx ((bs s).take k)).length vcap) (tx ((bs s).take k)) rfl (hown.alloc _) ⟨wr.heap.size, 0, none⟩ 2 2 [92, s[k]] rfl rfl (cellsN _ _ _ _ rfl _ rfl) hl2 (le_alloc hbz _) ?_; intro v2 w2' hown2 hg2 _; have HG2 := Lib.hid hg2; clear hg2)
          go_roundw
          case rel =>
            exact ⟨k + 1, by go_num, by omega, by rw [HT.out, tx_snoc, HE.out]; exact hown2, (hb.alloc hbz _).trans (below_grown HG2.out (hown.alloc _) (Nat.le_refl _) (le_alloc hbz _))⟩
          case measure => simp [intOf]; omega
      · have hb46 : ((s[k].toNat : Int) == 46) = false := beq_eq_false_iff_ne.2 (by omega)
        have hb92 : ((s[k].toNat : Int) == 92) = false := beq_eq_false_iff_ne.2 (by omega)
        cases hv : vis s[k]
        · have HE := Lib.hid (show esc1 s[k] = [92, 48 + s[k] / 100, 48 + s[k] / 10 % 10, 48 + s[k] % 10] from esc1_not hv)
          have hl4 : (tx ((bs s).take k)).length + [92, 48 + s[k] / 100, 48 + s[k] / 10 % 10, 48 + s[k] % 10].length ≤ 70368744177664 := by simp; omega
          clear h2
          go_wp2_with (first | (go_at_call 69; refine (rplain_no _ _ hv).mono ?_; rintro e w' ⟨rfl, rfl⟩) | (at_builtin; refine wpList_appendB bt _ rfl (.tmp 22) (.tmp 33) rfl w.heap.size (.slice A (tx ((bs s).take k)).length vcap) (tx ((bs s).take k)) rfl (hown.alloc _) ⟨wr.heap.size, 0, none⟩ 4 4 [92, 48 + s[k] / 100, 48 + s[k] / 10 % 10, 48 + s[k] % 10] rfl rfl (cellsN _ _ _ _ (digits4 s[k]) _ rfl) hl4 (le_alloc hbz _) ?_; intro v2 w2' hown2 hg2 _; have HG2 := Lib.hid hg2; clear hg2))
          go_roundw
          case rel =>
            exact ⟨k + 1, by go_num, by omega, by rw [HT.out, tx_snoc, HE.out]; exact hown2, (hb.alloc hbz _).trans (below_grown HG2.out (hown.alloc _) (Nat.le_refl _) (le_alloc hbz _))⟩
          case measure => simp [intOf]; omega
        · have HE := Lib.hid (esc1_one hv h2)
          have hl1 : (tx ((bs s).take k)).length + [s[k]].length ≤ 70368744177664 := by simp; omega
          clear h2
          go_wp2_with (first | (go_at_call 69; refine (rplain_yes _ _ hv).mono ?_; rintro e w' ⟨rfl, rfl⟩) | (at_builtin; refine wpList_appendB bt _ rfl (.tmp 49) (.tmp 51) rfl w.heap.size (.slice A (tx ((bs s).take k)).length vcap) (tx ((bs s).take k)) rfl (hown.alloc _) ⟨wr.heap.size, 0, none⟩ 1 1 [s[k]] rfl rfl (cellsN _ _ _ _ rfl _ rfl) hl1 (le_alloc hbz _) ?_; intro v2 w2' hown2 hg2 _; have HG2 := Lib.hid hg2; clear hg2))
          go_roundw
          case rel =>
            exact ⟨k + 1, by go_num, by omega, by rw [HT.out, tx_snoc, HE.out]; exact hown2, (hb.alloc hbz _).trans (below_grown HG2.out (hown.alloc _) (Nat.le_refl _) (le_alloc hbz _))⟩
          case measure => simp [intOf]; omega
    · have hcv := bt.conv_own hown
      have ht : (bs s).take k = bs s := List.take_of_length_le (by rw [bs_length]; omega)
      have HE : Hid (tx ((bs s).take k) = txR (bs s)) := by rw [ht, HF.out]; exact rfl
      clear ht
      go_wp2
      go_ret2
      refine ⟨?_, hb⟩
      rw [← HE.out, HZ.out]
      rfl
theorem rText_any (s : ByteArray) (w : World) (hs : s.size ≤ maxLen) : Calls Try.prog 55 #[.string s] w (Tx w (bs s)) := by
  by_cases h : chk (bs s) = 0
  · exact rText_ok s w h
  · exact rText_bad s w hs h
end Go.Proofs.Ytjflmifolmpdgaa
