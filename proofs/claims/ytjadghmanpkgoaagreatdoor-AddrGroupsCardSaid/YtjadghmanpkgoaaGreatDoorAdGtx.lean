/-
  Rows of texts joined; groups as a text: the walks of strings.Join, addr.grouped, digits. Conditions: as each theorem names them.
-/
import Derived.Test.YtjadghmanpkgoaaGreatDoorAdTxt
namespace Go.Proofs.YtjadghmanpkgoaaGreatDoor
open Go.RowKit
set_option linter.unusedVariables false

theorem strB_bs (L : List (List UInt8)) : (strB L).map (·.data.toList) = L := by
  unfold strB
  rw [List.map_map]
  conv => rhs; rw [← List.map_id L]
  exact List.map_congr_left fun x _ => rfl
theorem joinTail_len (sep : List UInt8) (m : Nat) : ∀ (L : List (List UInt8)), (∀ x ∈ L, x.length ≤ m) → (Lib.joinTail sep L).length ≤ L.length * (m + sep.length)
  | [], _ => by simp [Lib.joinTail]
  | x :: L, h => by
    have h1 := joinTail_len sep m L fun y hy => h y (List.mem_cons_of_mem _ hy)
    have h2 := h x (List.mem_cons_self ..)
    unfold Lib.joinTail at h1 ⊢
    rw [List.map_cons, List.flatten_cons, List.length_append, List.length_append, List.length_cons, Nat.succ_mul]
    omega
theorem join_len {sep : List UInt8} {m : Nat} {L : List (List UInt8)} (h : ∀ x ∈ L, x.length ≤ m) : (Lib.join L sep).length ≤ L.length * (m + sep.length) := by
  rcases L with _ | ⟨x, L⟩
  · simp [Lib.join_nil]
  · have h1 := joinTail_len sep m L fun y hy => h y (List.mem_cons_of_mem _ hy)
    have h2 := h x (List.mem_cons_self ..)
    rw [Lib.join_cons, List.length_append, List.length_cons, Nat.succ_mul]
    omega
theorem hexF_len : ∀ (f v : Nat), (hexF f v).length ≤ f
  | 0, v => Nat.le_refl _
  | f + 1, v => by
    unfold hexF
    split
    · simp
    · have := hexF_len f (v / 16)
      rw [List.length_append, List.length_singleton]
      omega
theorem hexT_len (v : Nat) : (hexT v).length ≤ 16 := hexF_len 16 v
theorem grp_len (l : List Nat) (hl : l.length ≤ 1000000) : (Lib.join (l.map hexT) [58]).length ≤ 140737488355328 := by
  have := join_len (sep := [58]) (m := 16) (L := l.map hexT) fun x hx => by
    obtain ⟨c, _, rfl⟩ := List.mem_map.1 hx
    exact hexT_len c
  rw [List.length_map, List.length_singleton] at this
  omega
/-- strings.Join of a row that the call made. -/
theorem Join_any (L : List (List UInt8)) (sep : ByteArray) (v : Value) (base : Nat) (w : World) (h : TOwn 9 w base v (strB L)) (hN : L.length ≤ 1000000) (hlen : (Lib.join L (bs sep)).length ≤ 140737488355328) :
    Calls Tryz.prog 64 #[v, .string sep] w fun e w' => e = .returned (.string ⟨(Lib.join L (bs sep)).toArray⟩) ∧ Below w.heap.size w w' := by
  have hl : (strB L).length = L.length := by simp [strB]
  rcases RowE.of_own (enc := Value.string) h with ⟨rfl, hn⟩ | ⟨g, off, cap, rfl, hg, hcap, hfit, hcell⟩
  · obtain rfl : L = [] := by
      rcases L with _ | ⟨x, L⟩
      · rfl
      · cases hn
    refine (Tryz.strings_Join_none none 0 sep w).mono ?_
    rintro e w' ⟨rfl, rfl⟩
    exact ⟨rfl, Below.refl _ _⟩
  · have h1 := Tryz.strings_Join g off cap (strB L) sep w (fun j x hx => by
      obtain ⟨hj, rfl⟩ := List.getElem?_eq_some_iff.1 hx
      exact hcell j hj) hg (by rw [hl]; omega) hcap (by rw [strB_bs]; exact hlen)
    rw [strB_bs] at h1
    exact h1
set_option maxHeartbeats 1000000 in
theorem grouped_any (l : List Nat) (v : Value) (w : World) (h : RowE U16 w v l) (hl : l.length ≤ 1000000) (hlt16 : ∀ c ∈ l, c < 65536) (hG : Ground w) :
    Calls Tryz.prog 112 #[v] w fun e w' => e = .returned (.string ⟨(grpT l).toArray⟩) ∧ Below w.heap.size w w' := by
  have HRow := Lib.hid h
  have HGr := Lib.hid hG
  have HR0 : Hid (TxRel hexT l w (.slice none 0 0) (.int .i64 0) w) := Lib.hid ⟨0, rfl, Nat.zero_le _, TOwn.none_ _ _, Below.refl _ _⟩
  obtain ⟨A, cap, rfl, hcap, hfit⟩ := h.shape
  clear hG h
  go_enter Tryz.func112, Tryz.ntmps112
  go_wp2
  go_loopw [3, 8] (fun v i wr => TxRel hexT l w v i wr) (fun _ i _ => l.length - (intOf i).toNat)
  case atStart => exact HR0.out
  case round =>
    clear HR0
    obtain ⟨k, rfl, hk, hown, hb⟩ := hrel
    rcases Nat.lt_or_ge k l.length with hlt | hge
    · have HD := Lib.hid (sixU_any l[k] wr (hlt16 _ (List.getElem_mem hlt)) (HGr.out.next hb))
      obtain ⟨g, off, c2, hsl, hat⟩ := (HRow.out.next hb).at' (fun e => by rw [e] at hlt; simp at hlt)
      simp only [Value.slice.injEq, true_and] at hsl
      obtain ⟨rfl, rfl⟩ := hsl
      have hcell : wr.cell? ⟨g, off + k, none⟩ = some (.int .u16 (l[k] : Int)) := hat.cell k hlt
      have ht := congrArg strB (take_map hexT l k hlt)
      rw [strB_snoc] at ht
      have hll : (strB ((l.take k).map hexT)).length ≤ 1099511627776 := by simp [strB]; omega
      obtain ⟨L, hL⟩ : ∃ L, L = strB ((l.take k).map hexT) := ⟨_, rfl⟩
      rw [← hL] at ht hll hown
      have HT := Lib.hid ht
      clear ht hL
      have HO := Lib.hid hown
      have HB := Lib.hid hb
      obtain ⟨A2, c3, rfl⟩ := hown.shape
      clear hat hown hb
      go_wp2_with (first | (go_at_call 147; (with_reducible refine HD.out.mono ?_); rintro e w1 ⟨rfl, hb1⟩; have HB1 := Lib.hid hb1; clear hb1) | (at_builtin; refine wpList_appendT adS _ rfl (.tmp 12) (.tmp 15) rfl w.heap.size _ L rfl ((HO.out.below HB1.out (Nat.le_refl _)).alloc _) ⟨w1.heap.size, 0, none⟩ ⟨(hexT l[k]).toArray⟩ rfl (cellT _ _ _) hll (le_alloc (Nat.le_trans HB.out.size HB1.out.size) _) ?_; intro v2 w2 hown2 hg2; have HG2 := Lib.hid hg2; have HO2 := Lib.hid hown2; clear hg2 hown2) | fail)
      go_roundw
      case rel =>
        have hb1 := HB.out.trans (HB1.out.mono HB.out.size)
        exact ⟨k + 1, by go_num, by omega, by rw [HT.out]; exact HO2.out, (hb1.alloc hb1.size _).trans (below_grownT HG2.out ((HO.out.below HB1.out (Nat.le_refl _)).alloc _) (Nat.le_refl _) (le_alloc hb1.size _))⟩
      case measure => simp [intOf]; omega
    · obtain rfl : k = l.length := by omega
      rw [List.take_of_length_le (Nat.le_refl _)] at hown
      have HO := Lib.hid hown
      have HB := Lib.hid hb
      obtain ⟨A2, c3, rfl⟩ := hown.shape
      clear hown hb
      have HJ := Lib.hid (Join_any (l.map hexT) ⟨#[58]⟩ _ w.heap.size wr HO.out (by rw [List.length_map]; exact hl) (grp_len l hl))
      go_wp2_with (first | (go_at_call 64; (with_reducible refine HJ.out.mono ?_); rintro e w1 ⟨rfl, hb1⟩; have HB1 := Lib.hid hb1; clear hb1) | fail)
      go_ret
      exact ⟨rfl, HB.out.trans (HB1.out.mono HB.out.size)⟩

/-- append of two strings onto the strings that the call owns. -/
theorem wpList_appendT2 {P : Program} {te ts : TypeId} (T : ST P te ts) (w : World) {ops : Array Oper} {rest : List Oper} {o : Oper} {a : Act} {Q : Exit → Act → World → Prop} (hgd : o.guard = none) (s x : Operand)
    (ho : o.op = .call { callee := .builtin .append, args := #[s, x], argTypes := #[ts, ts] })
    (base : Nat) (v : Value) (L : List ByteArray) (hs : a.eval s = v) (hown : TOwn te w base v L)
    (ad : Addr) (t u : ByteArray) (hx : a.eval x = .slice (some ad) 2 2) (hds : ∀ j y, [Value.string t, Value.string u][j]? = some y → w.cell? (ad.add j) = some y) (hlen : L.length ≤ 1099511627776) (hbase : base ≤ w.heap.size)
    (h : ∀ v' w', TOwn te w' base v' (L ++ [t, u]) → w.grownBy w' v.ownBlock → wpList P ops Q rest (a.put o.dst v') w') :
    wpList P ops Q (o :: rest) a w := by
  obtain ⟨i, hi, hz, hsz, hby⟩ := info_parts T.info
  refine wpList_append_own_at w hgd s x ts ho base te i (.string ⟨#[]⟩) 1 16 T.us hi hz hsz hby rfl (by decide) v L.length (L.map Value.string) hs hown ad 2 2 [Value.string t, Value.string u] hx (by simp) hds (fun y hy => ?_) (by unfold maxLen; omega) (by omega) hbase ?_
  · rcases List.mem_cons.1 hy with rfl | hy
    · rfl
    · rw [List.mem_singleton.1 hy]
      rfl
  · intro v' w' h1 h2 _ h4
    refine h v' w' ?_ h2
    unfold TOwn
    rw [List.length_append, List.map_append]
    exact h1
theorem cellT2 (w : World) (te : TypeId) (t u : ByteArray) : ∀ j y, [Value.string t, Value.string u][j]? = some y → (w.alloc (.cells #[.string t, .string u] te)).cell? ((⟨w.heap.size, 0, none⟩ : Addr).add j) = some y := by
  intro j y hy
  rw [add_off, Nat.zero_add]
  have := Lies.cell (Lies.new w te #[.string t, .string u]) j
  rw [this, ← Array.getElem?_toList]
  exact hy
def TyRel (f : UInt8 → List (List UInt8)) (l : List UInt8) (w : World) (v i : Value) (wr : World) : Prop :=
  ∃ k : Nat, i = .int .i64 k ∧ k ≤ l.length ∧ TOwn 9 wr w.heap.size v (strB ((l.take k).flatMap f)) ∧ Below w.heap.size w wr
def dig2 (c : UInt8) : List (List UInt8) := [hexT (c.toNat / 16), hexT (c.toNat % 16)]
theorem take_dig2 (l : List UInt8) (k : Nat) (h : k < l.length) : strB ((l.take (k + 1)).flatMap dig2) = strB ((l.take k).flatMap dig2) ++ [⟨(hexT (l[k].toNat / 16)).toArray⟩, ⟨(hexT (l[k].toNat % 16)).toArray⟩] := by
  rw [List.take_succ_eq_append_getElem h, List.flatMap_append]
  simp [strB, dig2]
theorem dig2_len : ∀ (l : List UInt8), (l.flatMap dig2).length = 2 * l.length
  | [] => rfl
  | c :: l => by rw [List.flatMap_cons, List.length_append, dig2_len l, List.length_cons]; simp [dig2]; omega
theorem and15b (v : Nat) (h : v < 256) : bits BinOp.and IntKind.u8 (v : Int) 15 = (v : Int) % 16 := by
  have := u8_and_nat v 15 h (by decide)
  rw [Nat.and_two_pow_sub_one_eq_mod v 4] at this
  exact this
set_option maxHeartbeats 1000000 in
theorem digits_any (l : List UInt8) (v : Value) (w : World) (h : RowE B w v l) (hl : l.length ≤ 1000000) (hG : Ground w) :
    Calls Tryz.prog 74 #[v] w (Texts w (digsT l)) := by
  have HRow := Lib.hid h
  have HGr := Lib.hid hG
  have HR0 : Hid (TyRel dig2 l w (.slice none 0 0) (.int .i64 0) w) := Lib.hid ⟨0, rfl, Nat.zero_le _, TOwn.none_ _ _, Below.refl _ _⟩
  obtain ⟨A, cap, rfl, hcap, hfit⟩ := h.shape
  clear hG h
  go_enter Tryz.func74, Tryz.ntmps74
  go_wp2
  go_loopw [3, 8] (fun v i wr => TyRel dig2 l w v i wr) (fun _ i _ => l.length - (intOf i).toNat)
  case atStart => exact HR0.out
  case round =>
    clear HR0
    obtain ⟨k, rfl, hk, hown, hb⟩ := hrel
    rcases Nat.lt_or_ge k l.length with hlt | hge
    · have hc256 := l[k].toNat_lt
      have HD1 : Hid (Calls Tryz.prog 118 #[.int .u8 ((l[k].toNat : Int) / 16)] wr fun e w' => e = .returned (.string ⟨(hexT (l[k].toNat / 16)).toArray⟩) ∧ Below wr.heap.size wr w') := Lib.hid (sixB_any (l[k].toNat / 16) wr (by omega) (HGr.out.next hb))
      have HD2 : Hid (∀ wx, Ground wx → Calls Tryz.prog 118 #[.int .u8 ((l[k].toNat : Int) % 16)] wx fun e w' => e = .returned (.string ⟨(hexT (l[k].toNat % 16)).toArray⟩) ∧ Below wx.heap.size wx w') := Lib.hid (fun wx hx => sixB_any (l[k].toNat % 16) wx (by omega) hx)
      have HGw := Lib.hid (HGr.out.next hb)
      have ha15 : bits BinOp.and IntKind.u8 (l[k].toNat : Int) 15 = (l[k].toNat : Int) % 16 := and15b l[k].toNat hc256
      obtain ⟨g, off, c2, hsl, hat⟩ := (HRow.out.next hb).at' (fun e => by rw [e] at hlt; simp at hlt)
      simp only [Value.slice.injEq, true_and] at hsl
      obtain ⟨rfl, rfl⟩ := hsl
      have hcell : wr.cell? ⟨g, off + k, none⟩ = some (.int .u8 (l[k].toNat : Int)) := hat.cell k hlt
      have ht := take_dig2 l k hlt
      have hll : (strB ((l.take k).flatMap dig2)).length ≤ 1099511627776 := by simp only [strB, List.length_map, dig2_len, List.length_take]; omega
      obtain ⟨L, hL⟩ : ∃ L, L = strB ((l.take k).flatMap dig2) := ⟨_, rfl⟩
      rw [← hL] at ht hll hown
      have HT := Lib.hid ht
      clear ht hL
      have HO := Lib.hid hown
      have HB := Lib.hid hb
      obtain ⟨A2, c3, rfl⟩ := hown.shape
      clear hat hown hb
      go_wp2_with (first | (go_at_call 118; (with_reducible refine HD1.out.mono ?_); rintro e w1 ⟨rfl, hb1⟩; have HB1 := Lib.hid hb1; clear hb1) | (go_at_call 118; (with_reducible refine (HD2.out _ (HGw.out.next HB1.out)).mono ?_); rintro e w1b ⟨rfl, hb1b⟩; have HB1b := Lib.hid hb1b; clear hb1b) | (at_builtin; refine wpList_appendT2 adS _ rfl (.tmp 12) (.tmp 19) rfl w.heap.size _ L rfl (((HO.out.below HB1.out (Nat.le_refl _)).below HB1b.out (Nat.le_refl _)).alloc _) ⟨w1b.heap.size, 0, none⟩ ⟨(hexT (l[k].toNat / 16)).toArray⟩ ⟨(hexT (l[k].toNat % 16)).toArray⟩ rfl (cellT2 _ _ _ _) hll (le_alloc (Nat.le_trans HB.out.size (Nat.le_trans HB1.out.size HB1b.out.size)) _) ?_; intro v2 w2 hown2 hg2; have HG2 := Lib.hid hg2; have HO2 := Lib.hid hown2; clear hg2 hown2) | fail)
      go_roundw
      case rel =>
        have hb0 := HB.out.trans (HB1.out.mono HB.out.size)
        have hb1 := hb0.trans (HB1b.out.mono hb0.size)
        exact ⟨k + 1, by go_num, by omega, by rw [HT.out]; exact HO2.out, (hb1.alloc hb1.size _).trans (below_grownT HG2.out (((HO.out.below HB1.out (Nat.le_refl _)).below HB1b.out (Nat.le_refl _)).alloc _) (Nat.le_refl _) (le_alloc hb1.size _))⟩
      case measure => simp [intOf]; omega
    · obtain rfl : k = l.length := by omega
      rw [List.take_of_length_le (Nat.le_refl _)] at hown
      have HO := Lib.hid hown
      have HB := Lib.hid hb
      obtain ⟨A2, c3, rfl⟩ := hown.shape
      clear hown hb
      go_wp2
      go_ret
      exact ⟨_, rfl, HO.out, HB.out⟩
end Go.Proofs.YtjadghmanpkgoaaGreatDoor
