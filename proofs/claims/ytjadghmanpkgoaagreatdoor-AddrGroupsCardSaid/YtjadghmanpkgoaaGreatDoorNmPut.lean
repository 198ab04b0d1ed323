/-
  What name.put, Make, Read answer: the walks. Conditions: as each theorem names them.
-/
import Derived.Test.YtjadghmanpkgoaaGreatDoorNmCut
import Derived.Test.YtjadghmanpkgoaaGreatDoorNmKit
namespace Go.Proofs.YtjadghmanpkgoaaGreatDoor
open Go.RowKit
set_option linter.unusedVariables false

/-- What put answers: the bytes with a label behind; nothing else that lay has turned. -/
def Put (tb : TypeId) (base : Nat) (v : Value) (l : List UInt8) (w : World) (e : Ending) (w' : World) : Prop := ∃ v', e = .returned v' ∧ Own tb w' base v' l ∧ w.grownBy w' v.ownBlock
set_option maxHeartbeats 1000000 in
theorem put_any (base : Nat) (v : Value) (l : List UInt8) (x : ByteArray) (w : World) (hown : Own 5 w base v l) (hbase : base ≤ w.heap.size) (hx : x.size ≤ 63) (hl : l.length ≤ 1099511627776) :
    Calls Tryz.prog 120 #[v, .string x] w (Put 5 base v (l ++ enc1 (bs x)) w) := by
  have hb1 : [UInt8.ofNat x.size].map B = [Value.int .u8 x.size] := by
    have : (UInt8.ofNat x.size).toNat = x.size := UInt8.toNat_ofNat_of_lt' (by show _ < 256; omega)
    simp only [List.map_cons, List.map_nil, B, this]
  have hl1 : l.length + [UInt8.ofNat x.size].length ≤ 70368744177664 := by simp; omega
  have hl2 : (l ++ [UInt8.ofNat x.size]).length + x.size ≤ 70368744177664 := by simp; omega
  have he : l ++ [UInt8.ofNat x.size] ++ bs x = l ++ enc1 (bs x) := by unfold enc1; rw [bs_length]; simp
  have HB := Lib.hid hb1
  have HE := Lib.hid he
  clear hb1 he
  obtain ⟨A, cap, rfl⟩ := hown.shape
  go_enter Tryz.func120, Tryz.ntmps120
  go_wp2_with (first | (at_builtin; refine wpList_appendB bt _ rfl (.tmp 5) (.tmp 9) rfl base (.slice A l.length cap) l rfl (hown.alloc _) ⟨w.heap.size, 0, none⟩ 1 1 [UInt8.ofNat x.size] rfl rfl (cellsN _ _ _ [UInt8.ofNat x.size] HB.out.symm _ rfl) hl1 (le_alloc hbase _) ?_; intro v2 w2 hown2 hg2 hob2; have HG2 := Lib.hid hg2; have HO2 := Lib.hid hob2; clear hg2 hob2) | (at_builtin; refine wpList_appendS bt _ rfl (.tmp 10) (.tmp 11) rfl base v2 (l ++ [UInt8.ofNat x.size]) rfl hown2 x rfl hl2 (Nat.le_trans (le_alloc hbase _) HG2.out.size) ?_; intro v3 w3 hown3 hg3; have HG3 := Lib.hid hg3; clear hg3))
  go_ret
  refine ⟨v3, rfl, HE.out ▸ hown3, grown_trans (grown_alloc HG2.out) HG3.out ?_⟩
  rcases HO2.out with h | h
  · exact .inl h
  · refine .inr fun k hk => ?_
    rw [h] at hk
    injection hk with hk
    simp at hk
    omega

/-- A name and an error. -/
def Nm (w : World) (x : List UInt8 × Nat) (e : Ending) (w' : World) : Prop := e = .returned (.tuple #[.string ⟨x.1.toArray⟩, .int .i64 x.2]) ∧ Below w.heap.size w w'
theorem nm_ret {w w' : World} {x : List UInt8 × Nat} (s : ByteArray) (l : List UInt8) (er : Int) (m : Nat) (hx : x = (l, m)) (hs : s = ⟨l.toArray⟩) (he : er = m) (hb : Below w.heap.size w w') :
    Nm w x (.returned (.tuple #[.string s, .int .i64 er])) w' := by
  subst hx; subst hs; subst he; exact ⟨rfl, hb⟩

theorem enc_le : ∀ {L : List (List UInt8)}, okN L → (enc L).length ≤ 64 * L.length
  | [], _ => by simp [enc]
  | x :: L, h => by
    have h' := okN_cons.1 h
    have h1 := enc_le h'.2
    have h2 := h'.1.2
    rw [enc_cons, List.length_append, enc1_length, List.length_cons]
    omega

theorem badL_cons (x : List UInt8) (L : List (List UInt8)) : badL (x :: L) = if chk x = 0 then badL L else chk x := rfl
theorem badL_append : ∀ (X Y : List (List UInt8)), badL (X ++ Y) = if badL X = 0 then badL Y else badL X
  | [], Y => by simp [badL]
  | x :: X, Y => by
    rw [List.cons_append, badL_cons, badL_cons]
    by_cases h : chk x = 0
    · rw [if_pos h, if_pos h, badL_append X Y]
    · rw [if_neg h, if_neg h, if_neg h]
theorem map_take (L : List ByteArray) (k : Nat) : (L.take k).map bs = (L.map bs).take k := List.map_take
theorem take_one (L : List ByteArray) (k : Nat) (h : k < L.length) : (L.map bs).take (k + 1) = (L.map bs).take k ++ [bs L[k]] := by
  rw [List.take_succ_eq_append_getElem (by simpa using h)]
  simp
theorem drop_one (L : List ByteArray) (k : Nat) (h : k < L.length) : L.map bs = (L.map bs).take k ++ (bs L[k] :: (L.map bs).drop (k + 1)) := by
  have h' : k < (L.map bs).length := by simpa using h
  have := List.drop_eq_getElem_cons h'
  rw [List.getElem_map] at this
  rw [← this, List.take_append_drop]

/-- The relation of Make's loop. -/
def MkRel (L : List ByteArray) (w : World) (v i : Value) (wr : World) : Prop :=
  ∃ k : Nat, i = .int .i64 k ∧ k ≤ L.length ∧ okN ((L.map bs).take k) ∧ Own 5 wr w.heap.size v (enc ((L.map bs).take k)) ∧ Below w.heap.size w wr

set_option maxHeartbeats 1000000 in
theorem Make_any (sv : Value) (L : List ByteArray) (w : World) (hrow : SRow w sv L) (hn : L.length ≤ 1073741824) (hsz : ∀ x ∈ L, x.size ≤ maxLen) :
    Calls Tryz.prog 76 #[sv] w (Nm w (mkN (L.map bs))) := by
  obtain ⟨A, cap, rfl, hcap, hcap2⟩ := hrow.shape
  have HS := Lib.hid hsz
  have HW := Lib.hid hrow
  have HR0 : Hid (MkRel L w (.slice none 0 0) (.int .i64 0) w) := Lib.hid ⟨0, rfl, Nat.zero_le _, okN_nil, Own.none_ _ _, Below.refl _ _⟩
  clear hsz hrow
  unfold maxLen at hcap2
  go_enter Tryz.func76, Tryz.ntmps76
  go_wp2
  go_loopw [4, 10] (fun v i wr => MkRel L w v i wr) (fun _ i _ => L.length - (intOf i).toNat)
  case atStart => exact HR0.out
  case round =>
    clear HR0
    obtain ⟨k, rfl, hk, hL, hown, hb⟩ := hrel
    have hle := enc_le hL
    rw [List.length_take, List.length_map] at hle
    have hkm : min k L.length ≤ k := Nat.min_le_left _ _
    have HL := Lib.hid hL
    clear hL
    by_cases hlt : k < L.length
    · rcases HW.out.below hb (Nat.le_refl _) with ⟨h1, h2⟩ | ⟨g, off, cap', h1, h2, _, _, h3⟩
      · rw [h2] at hlt
        simp at hlt
      · injection h1 with h1 _ h1'
        subst h1
        have hcell := h3 k hlt
        have hx := HS.out L[k] (List.getElem_mem hlt)
        have HC := Lib.hid (fun wx => Check_any L[k] wx hx)
        have HT := Lib.hid (take_one L k hlt)
        have HD := Lib.hid (drop_one L k hlt)
        clear h3 h1'
        by_cases hc : chk (bs L[k]) = 0
        · have hok := ok1_chk.2 hc
          have hl63 : L[k].size ≤ 63 := by rw [← bs_length]; exact hok.2
          have hbc : ((chk (bs L[k]) : Int) != 0) = false := by rw [hc]; rfl
          have HO : Hid (okN ((L.map bs).take (k + 1))) := Lib.hid (by rw [HT.out]; exact okN_append.2 ⟨HL.out, okN_cons.2 ⟨hok, okN_nil⟩⟩)
          have HE : Hid (enc ((L.map bs).take k) ++ enc1 (bs L[k]) = enc ((L.map bs).take (k + 1))) := Lib.hid (by rw [HT.out, enc_snoc])
          clear hok hc
          have hbz := hb.size
          go_wp2_with (first | (go_at_call 119; refine (HC.out _).mono ?_; rintro e w' ⟨rfl, rfl⟩) | (go_at_call 120; refine (put_any w.heap.size _ _ L[k] wr hown hbz hl63 (by omega)).mono ?_; rintro e w2 ⟨v2, rfl, hown2, hg2⟩; have HG2 := Lib.hid hg2; clear hg2))
          go_roundw
          case rel => exact ⟨k + 1, by go_num, by omega, HO.out, HE.out ▸ hown2, hb.trans (below_grown HG2.out hown (Nat.le_refl _) hbz)⟩
          case measure => simp [intOf]; omega
        · have hbc : ((chk (bs L[k]) : Int) != 0) = true := by rw [bne_iff_ne]; omega
          have HP : Hid (mkN (L.map bs) = ([], chk (bs L[k]))) := Lib.hid (by
            have : badL (L.map bs) = chk (bs L[k]) := by
              rw [HD.out, badL_append, if_pos (badL_ok.2 HL.out), badL_cons, if_neg hc]
            unfold mkN
            rw [this, if_neg hc])
          clear hc
          go_wp2_with (go_at_call 119; refine (HC.out _).mono ?_; rintro e w' ⟨rfl, rfl⟩)
          go_ret2
          exact nm_ret _ [] _ _ HP.out rfl rfl hb
    · have ht : (L.map bs).take k = L.map bs := List.take_of_length_le (by rw [List.length_map]; omega)
      have HN : Hid (mkN (L.map bs) = named (enc (L.map bs))) := Lib.hid (by
        have h := HL.out
        rw [ht] at h
        unfold mkN
        rw [if_pos (badL_ok.2 h)])
      have HLE : Hid ((enc (L.map bs)).length ≤ 70368744177664) := Lib.hid (by rw [← ht]; omega)
      rw [ht] at hown
      clear ht hle
      obtain ⟨A', c', rfl⟩ := hown.shape
      go_wp2_with (go_at_call 121; refine (named_any _ (enc (L.map bs)) w.heap.size _ hown HLE.out).mono ?_; rintro e w1 ⟨rfl, rfl⟩)
      go_ret2
      refine ⟨?_, hb⟩
      rw [HN.out]
      rfl
end Go.Proofs.YtjadghmanpkgoaaGreatDoor
