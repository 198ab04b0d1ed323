/-
  What name.put, Make, Read answer: the walks. Conditions: as each theorem names them.
-/
import Derived.Test.YtjflmifolmpdgaaNmCut
import Derived.Test.YtjflmifolmpdgaaNmKit
namespace Go.Proofs.Ytjflmifolmpdgaa
open Go.RowKit
set_option linter.unusedVariables false

/-- What put answers: the bytes with a label behind; nothing else that lay has turned. -/
def Put (tb : TypeId) (base : Nat) (v : Value) (l : List UInt8) (w : World) (e : Ending) (w' : World) : Prop := ∃ v', e = .returned v' ∧ Own tb w' base v' l ∧ w.grownBy w' v.ownBlock
set_option maxHeartbeats 1000000 in
theorem put_any (base : Nat) (v : Value) (l : List UInt8) (x : ByteArray) (w : World) (hown : Own 5 w base v l) (hbase : base ≤ w.heap.size) (hx : x.size ≤ 63) (hl : l.length ≤ 1099511627776) :
    Calls Try.prog 41 #[v, .string x] w (Put 5 base v (l ++ enc1 (bs x)) w) := by
  have hb1 : [UInt8.ofNat x.size].map B = [Value.int .u8 x.size] := by
    have : (UInt8.ofNat x.size).toNat = x.size := UInt8.toNat_ofNat_of_lt' (by show _ < 256; omega)
    simp only [List.map_cons, List.map_nil, B, this]
  have hl1 : l.length + [UInt8.ofNat x.size].length ≤ 70368744177664 := by simp; omega
  have hl2 : (l ++ [UInt8.ofNat x.size]).length + x.size ≤ 70368744177664 := by simp; omega
  have he : l ++ [UInt8.ofNat x.size] ++ bs x = l ++ enc1 (bs x) := by unfold enc1; rw [bs_length]; simp
  have HB := Lib.hid hb1
  have HE := Lib.hid he
  clear hb1 he
  obtain ⟨A, cap, rfl⟩ := hown.shape
  go_enter Try.func41, Try.ntmps41
  go_wp2_with (first | (at_builtin; refine wpList_appendB bt _ rfl (.tmp 5) (.tmp 9) rfl base (.slice A l.length cap) l rfl (hown.alloc _) ⟨w.heap.size, 0, none⟩ 1 1 [UInt8.ofNat x.size] rfl rfl (cellsN _ _ _ [UInt8.ofNat x.size] HB.out.symm _ rfl) hl1 (le_alloc hbase _) ?_; intro v2 w2 hown2 hg2 hob2; have HG2 := Lib.hid hg2; have HO2 := Lib.hid hob2; clear hg2 hob2) | (at_builtin; refine wpList_appendS bt _ rfl (.tmp 10) (.tmp 11) rfl base v2 (l ++ [UInt8.ofNat x.size]) rfl hown2 x rfl hl2 (Nat.le_trans (le_alloc hbase _) HG2.out.size) ?_; intro v3 w3 hown3 hg3; have HG3 := Lib.hid hg3; clear hg3))
  go_ret
  refine ⟨v3, rfl, HE.out ▸ hown3, grown_trans (grown_alloc HG2.out) HG3.out ?_⟩
  rcases HO2.out with h | h
  · exact .inl h
  · refine .inr fun k hk => ?_
    rw [h] at hk
    injection hk with hk
    simp at hk
    omega

/-- A name and an error. -/
def Nm (w : World) (x : List UInt8 × Nat) (e : Ending) (w' : World) : Prop := e = .returned (.tuple #[.string ⟨x.1.toArray⟩, .int .i64 x.2]) ∧ Below w.heap.size w w'
theorem nm_ret {w w' : World} {x : List UInt8 × Nat} (s : ByteArray) (l : List UInt8) (er : Int) (m : Nat) (hx : x = (l, m)) (hs : s = ⟨l.toArray⟩) (he : er = m) (hb : Below w.heap.size w w') :
    Nm w x (.returned (.tuple #[.string s, .int .i64 er])) w' := by
  subst hx; subst hs; subst he; exact ⟨rfl, hb⟩

theorem enc_le : ∀ {L : List (List UInt8)}, okN L → (enc L).length ≤ 64 * L.length
  | [], _ => by simp [enc]
  | x :: L, h => by
    have h' := okN_cons.1 h
    have h1 := enc_le h'.2
    have h2 := h'.1.2
    rw [enc_cons, List.length_append, enc1_length, List.length_cons]
    omega

/-- The relation of Read's loop. -/
def NRdRel (s : ByteArray) (w : World) (y : List (List UInt8) × Nat) (v i : Value) (wr : World) : Prop :=
  ∃ (k f : Nat) (L : List (List UInt8)), i = .int .i64 k ∧ k ≤ s.size + 1 ∧ L.length ≤ k ∧ okN L ∧ Own 5 wr w.heap.size v (enc L) ∧ Below w.heap.size w wr ∧ s.size ≤ f + k ∧ rdLs f (bs s) k L = y

set_option maxHeartbeats 1000000 in
theorem nRead_loop (s : ByteArray) (w : World) (hs : s.size ≤ 1073741824) (h0 : 0 < s.size) (h46 : bs s ≠ [46]) :
    Calls Try.prog 12 #[.string s] w (Nm w (rdN (bs s))) := by
  obtain ⟨e1, e2⟩ := empty_no h0
  have e3 : (s.toList == [46]) = false := beq_eq_false_iff_ne.2 (fun e => h46 (by rw [← bs_toList]; exact e))
  obtain ⟨y, hy⟩ : ∃ y, y = rdLs (bs s).length (bs s) 0 [] := ⟨_, rfl⟩
  have HF : Hid (rdN (bs s) = if y.2 = 0 then named (enc y.1) else ([], y.2)) := Lib.hid (by
    unfold rdN
    rw [if_neg (by intro e; have := bs_length s; rw [e] at this; simp at this; omega), if_neg h46, hy])
  have HR0 : Hid (NRdRel s w y (.slice none 0 0) (.int .i64 0) w) := Lib.hid ⟨0, s.size, [], rfl, Nat.zero_le _, Nat.le_refl _, okN_nil, Own.none_ _ _, Below.refl _ _, by omega, by rw [hy, bs_length]⟩
  clear hy h46 h0
  go_enter Try.func12, Try.ntmps12
  go_wp2
  go_loopw [4, 5] (fun v i wr => NRdRel s w y v i wr) (fun _ i _ => s.size - (intOf i).toNat)
  case atStart => exact HR0.out
  case round =>
    clear HR0
    obtain ⟨k, f, L, rfl, hk, hLk, hL, hown, hb, hf, hy⟩ := hrel
    have hle := enc_le hL
    have HY := Lib.hid hy
    have HL := Lib.hid hL
    clear hy hL
    obtain ⟨A, cap, rfl⟩ := hown.shape
    rcases Nat.lt_or_ge k s.size with hlt | hge
    · obtain ⟨f, rfl⟩ : ∃ g, f = g + 1 := ⟨f - 1, by omega⟩
      obtain ⟨x, hx⟩ : ∃ x, x = rd (bs s) k := ⟨_, rfl⟩
      have HC := Lib.hid (fun wx => Read_any s k wx x (by unfold maxLen; omega) (by omega) hx.symm)
      obtain ⟨l, n, er⟩ := x
      by_cases he : er = 0
      · subst he
        have hx' := rd_out (by rw [bs_length]; omega) hx.symm
        rw [bs_length] at hx'
        obtain ⟨hn1, hn2, hok⟩ := hx'
        have HN : Hid (rdLs f (bs s) (n + 1) (L ++ [l]) = y) := Lib.hid (by rw [← HY.out, rdLs_step (by rw [bs_length]; exact hlt) hx.symm])
        have HO : Hid (okN (L ++ [l])) := Lib.hid (okN_append.2 ⟨HL.out, okN_cons.2 ⟨hok, okN_nil⟩⟩)
        have hl63 : (⟨l.toArray⟩ : ByteArray).size ≤ 63 := by rw [← bs_length, bs_mk]; exact hok.2
        have HE : Hid (enc L ++ enc1 (bs ⟨l.toArray⟩) = enc (L ++ [l])) := Lib.hid (by rw [bs_mk, enc_snoc])
        have hll : (L ++ [l]).length = L.length + 1 := by simp
        have HLL := Lib.hid hll
        clear HY hx hok hll
        have hbz := hb.size
        go_wp2_with (first | (go_at_call 40; refine (HC.out _).mono ?_; rintro e w1 ⟨rfl, hb1⟩; replace hown := hown.below hb1 (Nat.le_refl _); have hz1 := Nat.le_trans hbz hb1.size) | (go_at_call 41; refine (put_any w.heap.size _ (enc L) ⟨l.toArray⟩ w1 hown hz1 hl63 (by omega)).mono ?_; rintro e w2 ⟨v2, rfl, hown2, hg2⟩; have HG2 := Lib.hid hg2; clear hg2))
        go_roundw
        case rel =>
          exact ⟨n + 1, f, L ++ [l], by go_num, by omega, by rw [HLL.out]; omega, HO.out, HE.out ▸ hown2, (hb.trans (hb1.mono hb.size)).trans (below_grown HG2.out hown (Nat.le_refl _) hz1), by omega, HN.out⟩
        case measure => simp [intOf]; omega
      · have HN : Hid (y = ([], er)) := Lib.hid (by rw [← HY.out, rdLs_bad (by rw [bs_length]; exact hlt) hx.symm he])
        have hbe : ((er : Int) != 0) = true := by rw [bne_iff_ne]; omega
        have HP : Hid (rdN (bs s) = ([], er)) := Lib.hid (by rw [HF.out, HN.out]; exact if_neg he)
        clear HY hx HN HF he
        go_wp2_with (go_at_call 40; refine (HC.out _).mono ?_; rintro e w1 ⟨rfl, hb1⟩)
        go_ret2
        exact nm_ret _ [] _ er HP.out rfl rfl (hb.trans (hb1.mono hb.size))
    · have HN : Hid (rdN (bs s) = named (enc L)) := Lib.hid (by rw [HF.out, ← HY.out, rdLs_end (by rw [bs_length]; exact hge)]; rfl)
      clear HF HY
      go_wp2_with (go_at_call 42; refine (named_any _ (enc L) w.heap.size _ hown (by omega)).mono ?_; rintro e w1 ⟨rfl, rfl⟩)
      go_ret2
      refine ⟨?_, hb⟩
      rw [HN.out]
      rfl

theorem nRead_any (s : ByteArray) (w : World) (hs : s.size ≤ 1073741824) : Calls Try.prog 12 #[.string s] w (Nm w (rdN (bs s))) := by
  rcases Nat.eq_zero_or_pos s.size with h0 | h0
  · have e1 := empty_yes h0
    have HP : Hid (rdN (bs s) = ([], 2)) := Lib.hid (if_pos (List.eq_nil_of_length_eq_zero (by rw [bs_length]; exact h0)))
    clear hs h0
    go_enter Try.func12, Try.ntmps12
    go_wp2
    go_ret2
    exact nm_ret _ [] _ 2 HP.out rfl rfl (Below.refl _ _)
  · by_cases h46 : bs s = [46]
    · obtain ⟨e1, e2⟩ := empty_no h0
      have e3 : (s.toList == [46]) = true := beq_iff_eq.2 (by rw [bs_toList]; exact h46)
      have HP : Hid (rdN (bs s) = ([], 0)) := Lib.hid (by rw [h46]; rfl)
      clear hs h0 h46
      go_enter Try.func12, Try.ntmps12
      go_wp2
      go_ret2
      exact nm_ret _ [] _ 0 HP.out rfl rfl (Below.refl _ _)
    · exact nRead_loop s w hs h0 h46

theorem badL_cons (x : List UInt8) (L : List (List UInt8)) : badL (x :: L) = if chk x = 0 then badL L else chk x := rfl
theorem badL_append : ∀ (X Y : List (List UInt8)), badL (X ++ Y) = if badL X = 0 then badL Y else badL X
  | [], Y => by simp [badL]
  | x :: X, Y => by
    rw [List.cons_append, badL_cons, badL_cons]
    by_cases h : chk x = 0
    · rw [if_pos h, if_pos h, badL_append X Y]
    · rw [if_neg h, if_neg h, if_neg h]
theorem map_take (L : List ByteArray) (k : Nat) : (L.take k).map bs = (L.map bs).take k := List.map_take
theorem take_one (L : List ByteArray) (k : Nat) (h : k < L.length) : (L.map bs).take (k + 1) = (L.map bs).take k ++ [bs L[k]] := by
  rw [List.take_succ_eq_append_getElem (by simpa using h)]
  simp
theorem drop_one (L : List ByteArray) (k : Nat) (h : k < L.length) : L.map bs = (L.map bs).take k ++ (bs L[k] :: (L.map bs).drop (k + 1)) := by
  have h' : k < (L.map bs).length := by simpa using h
  have := List.drop_eq_getElem_cons h'
  rw [List.getElem_map] at this
  rw [← this, List.take_append_drop]

/-- The relation of Make's loop. -/
def MkRel (L : List ByteArray) (w : World) (v i : Value) (wr : World) : Prop :=
  ∃ k : Nat, i = .int .i64 k ∧ k ≤ L.length ∧ okN ((L.map bs).take k) ∧ Own 5 wr w.heap.size v (enc ((L.map bs).take k)) ∧ Below w.heap.size w wr

set_option maxHeartbeats 1000000 in
theorem Make_any (sv : Value) (L : List ByteArray) (w : World) (hrow : SRow w sv L) (hn : L.length ≤ 1073741824) (hsz : ∀ x ∈ L, x.size ≤ maxLen) :
    Calls Try.prog 23 #[sv] w (Nm w (mkN (L.map bs))) := by
  obtain ⟨A, cap, rfl, hcap, hcap2⟩ := hrow.shape
  have HS := Lib.hid hsz
  have HW := Lib.hid hrow
  have HR0 : Hid (MkRel L w (.slice none 0 0) (.int .i64 0) w) := Lib.hid ⟨0, rfl, Nat.zero_le _, okN_nil, Own.none_ _ _, Below.refl _ _⟩
  clear hsz hrow
  unfold maxLen at hcap2
  go_enter Try.func23, Try.ntmps23
  go_wp2
  go_loopw [4, 10] (fun v i wr => MkRel L w v i wr) (fun _ i _ => L.length - (intOf i).toNat)
  case atStart => exact HR0.out
  case round =>
    clear HR0
    obtain ⟨k, rfl, hk, hL, hown, hb⟩ := hrel
    have hle := enc_le hL
    rw [List.length_take, List.length_map] at hle
    have hkm : min k L.length ≤ k := Nat.min_le_left _ _
    have HL := Lib.hid hL
    clear hL
    by_cases hlt : k < L.length
    · rcases HW.out.below hb (Nat.le_refl _) with ⟨h1, h2⟩ | ⟨g, off, cap', h1, h2, _, _, h3⟩
      · rw [h2] at hlt
        simp at hlt
      · injection h1 with h1 _ h1'
        subst h1
        have hcell := h3 k hlt
        have hx := HS.out L[k] (List.getElem_mem hlt)
        have HC := Lib.hid (fun wx => Check_any L[k] wx hx)
        have HT := Lib.hid (take_one L k hlt)
        have HD := Lib.hid (drop_one L k hlt)
        clear h3 h1'
        by_cases hc : chk (bs L[k]) = 0
        · have hok := ok1_chk.2 hc
          have hl63 : L[k].size ≤ 63 := by rw [← bs_length]; exact hok.2
          have hbc : ((chk (bs L[k]) : Int) != 0) = false := by rw [hc]; rfl
          have HO : Hid (okN ((L.map bs).take (k + 1))) := Lib.hid (by rw [HT.out]; exact okN_append.2 ⟨HL.out, okN_cons.2 ⟨hok, okN_nil⟩⟩)
          have HE : Hid (enc ((L.map bs).take k) ++ enc1 (bs L[k]) = enc ((L.map bs).take (k + 1))) := Lib.hid (by rw [HT.out, enc_snoc])
          clear hok hc
          have hbz := hb.size
          go_wp2_with (first | (go_at_call 53; refine (HC.out _).mono ?_; rintro e w' ⟨rfl, rfl⟩) | (go_at_call 41; refine (put_any w.heap.size _ _ L[k] wr hown hbz hl63 (by omega)).mono ?_; rintro e w2 ⟨v2, rfl, hown2, hg2⟩; have HG2 := Lib.hid hg2; clear hg2))
          go_roundw
          case rel => exact ⟨k + 1, by go_num, by omega, HO.out, HE.out ▸ hown2, hb.trans (below_grown HG2.out hown (Nat.le_refl _) hbz)⟩
          case measure => simp [intOf]; omega
        · have hbc : ((chk (bs L[k]) : Int) != 0) = true := by rw [bne_iff_ne]; omega
          have HP : Hid (mkN (L.map bs) = ([], chk (bs L[k]))) := Lib.hid (by
            have : badL (L.map bs) = chk (bs L[k]) := by
              rw [HD.out, badL_append, if_pos (badL_ok.2 HL.out), badL_cons, if_neg hc]
            unfold mkN
            rw [this, if_neg hc])
          clear hc
          go_wp2_with (go_at_call 53; refine (HC.out _).mono ?_; rintro e w' ⟨rfl, rfl⟩)
          go_ret2
          exact nm_ret _ [] _ _ HP.out rfl rfl hb
    · have ht : (L.map bs).take k = L.map bs := List.take_of_length_le (by rw [List.length_map]; omega)
      have HN : Hid (mkN (L.map bs) = named (enc (L.map bs))) := Lib.hid (by
        have h := HL.out
        rw [ht] at h
        unfold mkN
        rw [if_pos (badL_ok.2 h)])
      have HLE : Hid ((enc (L.map bs)).length ≤ 70368744177664) := Lib.hid (by rw [← ht]; omega)
      rw [ht] at hown
      clear ht hle
      obtain ⟨A', c', rfl⟩ := hown.shape
      go_wp2_with (go_at_call 42; refine (named_any _ (enc (L.map bs)) w.heap.size _ hown HLE.out).mono ?_; rintro e w1 ⟨rfl, rfl⟩)
      go_ret2
      refine ⟨?_, hb⟩
      rw [HN.out]
      rfl
end Go.Proofs.Ytjflmifolmpdgaa
