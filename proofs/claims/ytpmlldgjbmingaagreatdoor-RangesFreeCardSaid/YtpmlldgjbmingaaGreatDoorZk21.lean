/-
  Octets and groups as texts: the walks of addr.decimal, sixteens, numbers, digits, grouped. Conditions: as each theorem names them. Rows of texts joined; groups as a text: the walks of strings.Join, addr.grouped, digits. Conditions: as each theorem names them. An address' text: the walks of addr's groups.text, and of addr.Text. Conditions: as each theorem names them. Addresses' texts read back: the mathematics of Text and Read. Conditions: as each theorem names them. Nothing of any program is named here. Ranges' texts: what is read of a text, what is told: mathematics. Conditions: as each theorem names them. Nothing of any program is named here.
-/
import Derived.Test.YtpmlldgjbmingaaGreatDoorZk7
import Derived.Test.YtpmlldgjbmingaaGreatDoorZk9
import Derived.Test.YtpmlldgjbmingaaGreatDoorZk20
import Derived.Test.YtpmlldgjbmingaaGreatDoorZk17
import Derived.Lib.AppendIntMem
import Derived.Test.YtpmlldgjbmingaaGreatDoorZk24
import Derived.Test.YtpmlldgjbmingaaGreatDoorZk2
namespace Go.Proofs.YtpmlldgjbmingaaGreatDoor
open Go.RowKit
set_option linter.unusedVariables false

theorem gP10 : Tryz.prog.globalNamed "internal/strconv.uint64pow10" = some 5 := by kernel_rfl
theorem gSyn : Tryz.prog.globalNamed "strconv.ErrSyntax" = some 3 := by kernel_rfl
theorem gRng : Tryz.prog.globalNamed "strconv.ErrRange" = some 4 := by kernel_rfl
theorem Ground.below {w w' : World} {k : Nat} (h : Ground w) (hb : Below k w w') (hk : w.heap.size ≤ k) : Ground w' := by
  obtain ⟨⟨m, hm⟩, h2, h3, h3b, ⟨tp, p, h4⟩, ⟨tq, q, h5⟩⟩ := h
  exact ⟨⟨m, (hb.cell (p := ⟨2, 0, none⟩) (Nat.lt_of_lt_of_le (block_lt_of_cell hm) hk)).trans hm⟩, Joins.tab_stays gP10 h2 hb hk, (hb.cell (p := ⟨1, 15, none⟩) (Nat.lt_of_lt_of_le (block_lt_of_cell h3) hk)).trans h3, (hb.cell (p := ⟨1, 39, none⟩) (Nat.lt_of_lt_of_le (block_lt_of_cell h3b) hk)).trans h3b, ⟨tp, p, Joins.var_stays gSyn h4 hb hk⟩, ⟨tq, q, Joins.var_stays gRng h5 hb hk⟩⟩
theorem Ground.next {w w' : World} (h : Ground w) (hb : Below w.heap.size w w') : Ground w' := h.below hb (Nat.le_refl _)

theorem FormatUint16 (u0 : Nat) (w : World) (hu : u0 < 65536) (hG : Ground w) :
    Calls Tryz.prog 126 #[.int .u64 u0, .int .i64 16] w fun e w' => e = .returned (.string ⟨(hexT u0).toArray⟩) ∧ Below w.heap.size w w' := by
  have HF := Lib.hid (formatBits16 u0 w hu hG)
  clear hG
  go_enter Tryz.func126, Tryz.ntmps126
  go_wp2_with (first | (go_at_call 168; (with_reducible refine HF.out.mono ?_); rintro e w1 ⟨rfl, hb1⟩; have HB1 := Lib.hid hb1; clear hb1) | go_in)
  go_ret
  exact ⟨rfl, HB1.out⟩
theorem sixU_any (c : Nat) (w : World) (hc : c < 65536) (hG : Ground w) :
    Calls Tryz.prog 138 #[.int .u16 c] w fun e w' => e = .returned (.string ⟨(hexT c).toArray⟩) ∧ Below w.heap.size w w' := by
  have HF := Lib.hid (FormatUint16 c w (by omega) hG)
  clear hG
  go_enter Tryz.func138, Tryz.ntmps138
  go_wp2_with (first | (go_at_call 126; (with_reducible refine HF.out.mono ?_); rintro e w1 ⟨rfl, hb1⟩; have HB1 := Lib.hid hb1; clear hb1) | fail)
  go_ret
  exact ⟨rfl, HB1.out⟩
theorem itoa_any (c : Nat) (w : World) (hc : c < 256) (hG : Ground w) :
    Calls Tryz.prog 84 #[.int .i64 c] w fun e w' => e = .returned (.string ⟨(decT c).toArray⟩) ∧ Below w.heap.size w w' := by
  refine (Tryz.strconv_Itoa c (by omega) (by omega) w hG.pow10).mono ?_
  rintro e w' ⟨rfl, k, os, rfl⟩
  exact ⟨rfl, Lib.below_grow _ _ (Nat.le_refl _) _ _⟩
theorem decimal_any (c : Nat) (w : World) (hc : c < 256) (hG : Ground w) :
    Calls Tryz.prog 107 #[.int .u8 c] w fun e w' => e = .returned (.string ⟨(decT c).toArray⟩) ∧ Below w.heap.size w w' := by
  have HF := Lib.hid (itoa_any c w hc hG)
  clear hG
  go_enter Tryz.func107, Tryz.ntmps107
  go_wp2_with (first | (go_at_call 84; (with_reducible refine HF.out.mono ?_); rintro e w1 ⟨rfl, hb1⟩; have HB1 := Lib.hid hb1; clear hb1) | fail)
  go_ret
  exact ⟨rfl, HB1.out⟩

/-- Texts as the program holds them. -/
def strB (L : List (List UInt8)) : List ByteArray := L.map fun l => ⟨l.toArray⟩
theorem strB_snoc (L : List (List UInt8)) (x : List UInt8) : strB (L ++ [x]) = strB L ++ [⟨x.toArray⟩] := by simp [strB]
theorem infoT : (Tryz.prog.info? 9).map (fun i => (i.zero, i.size, i.bytes)) = some (some (.string ⟨#[]⟩), 1, 16) := by kernel_rfl
theorem adS : ST Tryz.prog 9 72 := ⟨Tryz.underlying72, infoT⟩
/-- A new row of texts. -/
def Texts (w : World) (L : List (List UInt8)) (e : Ending) (w' : World) : Prop := ∃ v, e = .returned v ∧ TOwn 9 w' w.heap.size v (strB L) ∧ Below w.heap.size w w'
def TxRel {α : Type} (f : α → List UInt8) (l : List α) (w : World) (v i : Value) (wr : World) : Prop :=
  ∃ k : Nat, i = .int .i64 k ∧ k ≤ l.length ∧ TOwn 9 wr w.heap.size v (strB ((l.take k).map f)) ∧ Below w.heap.size w wr
theorem take_map {α : Type} (f : α → List UInt8) (l : List α) (k : Nat) (h : k < l.length) : (l.take (k + 1)).map f = (l.take k).map f ++ [f l[k]] := by
  rw [List.take_succ_eq_append_getElem h, List.map_append]
  rfl
end Go.Proofs.YtpmlldgjbmingaaGreatDoor
namespace Go.Proofs.YtpmlldgjbmingaaGreatDoor
open Go.RowKit
set_option linter.unusedVariables false

theorem strB_bs (L : List (List UInt8)) : (strB L).map (·.data.toList) = L := by
  unfold strB
  rw [List.map_map]
  conv => rhs; rw [← List.map_id L]
  exact List.map_congr_left fun x _ => rfl
theorem joinTail_len (sep : List UInt8) (m : Nat) : ∀ (L : List (List UInt8)), (∀ x ∈ L, x.length ≤ m) → (Lib.joinTail sep L).length ≤ L.length * (m + sep.length)
  | [], _ => by simp [Lib.joinTail]
  | x :: L, h => by
    have h1 := joinTail_len sep m L fun y hy => h y (List.mem_cons_of_mem _ hy)
    have h2 := h x (List.mem_cons_self ..)
    unfold Lib.joinTail at h1 ⊢
    rw [List.map_cons, List.flatten_cons, List.length_append, List.length_append, List.length_cons, Nat.succ_mul]
    omega
theorem join_len {sep : List UInt8} {m : Nat} {L : List (List UInt8)} (h : ∀ x ∈ L, x.length ≤ m) : (Lib.join L sep).length ≤ L.length * (m + sep.length) := by
  rcases L with _ | ⟨x, L⟩
  · simp [Lib.join_nil]
  · have h1 := joinTail_len sep m L fun y hy => h y (List.mem_cons_of_mem _ hy)
    have h2 := h x (List.mem_cons_self ..)
    rw [Lib.join_cons, List.length_append, List.length_cons, Nat.succ_mul]
    omega
theorem hexF_len : ∀ (f v : Nat), (hexF f v).length ≤ f
  | 0, v => Nat.le_refl _
  | f + 1, v => by
    unfold hexF
    split
    · simp
    · have := hexF_len f (v / 16)
      rw [List.length_append, List.length_singleton]
      omega
theorem hexT_len (v : Nat) : (hexT v).length ≤ 16 := hexF_len 16 v
theorem grp_len (l : List Nat) (hl : l.length ≤ 1000000) : (Lib.join (l.map hexT) [58]).length ≤ 140737488355328 := by
  have := join_len (sep := [58]) (m := 16) (L := l.map hexT) fun x hx => by
    obtain ⟨c, _, rfl⟩ := List.mem_map.1 hx
    exact hexT_len c
  rw [List.length_map, List.length_singleton] at this
  omega
/-- strings.Join of a row that the call made. -/
theorem Join_any (L : List (List UInt8)) (sep : ByteArray) (v : Value) (base : Nat) (w : World) (h : TOwn 9 w base v (strB L)) (hN : L.length ≤ 1000000) (hlen : (Lib.join L (bs sep)).length ≤ 140737488355328) :
    Calls Tryz.prog 57 #[v, .string sep] w fun e w' => e = .returned (.string ⟨(Lib.join L (bs sep)).toArray⟩) ∧ Below w.heap.size w w' := by
  have hl : (strB L).length = L.length := by simp [strB]
  rcases RowE.of_own (enc := Value.string) h with ⟨rfl, hn⟩ | ⟨g, off, cap, rfl, hg, hcap, hfit, hcell⟩
  · obtain rfl : L = [] := by
      rcases L with _ | ⟨x, L⟩
      · rfl
      · cases hn
    refine (Tryz.strings_Join_none none 0 sep w).mono ?_
    rintro e w' ⟨rfl, rfl⟩
    exact ⟨rfl, Below.refl _ _⟩
  · have h1 := Tryz.strings_Join g off cap (strB L) sep w (fun j x hx => by
      obtain ⟨hj, rfl⟩ := List.getElem?_eq_some_iff.1 hx
      exact hcell j hj) hg (by rw [hl]; omega) hcap (by rw [strB_bs]; exact hlen)
    rw [strB_bs] at h1
    exact h1
set_option maxHeartbeats 1000000 in
theorem grouped_any (l : List Nat) (v : Value) (w : World) (h : RowE U16 w v l) (hl : l.length ≤ 1000000) (hlt16 : ∀ c ∈ l, c < 65536) (hG : Ground w) :
    Calls Tryz.prog 103 #[v] w fun e w' => e = .returned (.string ⟨(grpT l).toArray⟩) ∧ Below w.heap.size w w' := by
  have HRow := Lib.hid h
  have HGr := Lib.hid hG
  have HR0 : Hid (TxRel hexT l w (.slice none 0 0) (.int .i64 0) w) := Lib.hid ⟨0, rfl, Nat.zero_le _, TOwn.none_ _ _, Below.refl _ _⟩
  obtain ⟨A, cap, rfl, hcap, hfit⟩ := h.shape
  clear hG h
  go_enter Tryz.func103, Tryz.ntmps103
  go_wp2
  go_loopw [3, 8] (fun v i wr => TxRel hexT l w v i wr) (fun _ i _ => l.length - (intOf i).toNat)
  case atStart => exact HR0.out
  case round =>
    clear HR0
    obtain ⟨k, rfl, hk, hown, hb⟩ := hrel
    rcases Nat.lt_or_ge k l.length with hlt | hge
    · have HD := Lib.hid (sixU_any l[k] wr (hlt16 _ (List.getElem_mem hlt)) (HGr.out.next hb))
      obtain ⟨g, off, c2, hsl, hat⟩ := (HRow.out.next hb).at' (fun e => by rw [e] at hlt; simp at hlt)
      simp only [Value.slice.injEq, true_and] at hsl
      obtain ⟨rfl, rfl⟩ := hsl
      have hcell : wr.cell? ⟨g, off + k, none⟩ = some (.int .u16 (l[k] : Int)) := hat.cell k hlt
      have ht := congrArg strB (take_map hexT l k hlt)
      rw [strB_snoc] at ht
      have hll : (strB ((l.take k).map hexT)).length ≤ 1099511627776 := by simp [strB]; omega
      obtain ⟨L, hL⟩ : ∃ L, L = strB ((l.take k).map hexT) := ⟨_, rfl⟩
      rw [← hL] at ht hll hown
      have HT := Lib.hid ht
      clear ht hL
      have HO := Lib.hid hown
      have HB := Lib.hid hb
      obtain ⟨A2, c3, rfl⟩ := hown.shape
      clear hat hown hb
      go_wp2_with (first | (go_at_call 138; (with_reducible refine HD.out.mono ?_); rintro e w1 ⟨rfl, hb1⟩; have HB1 := Lib.hid hb1; clear hb1) | (at_builtin; refine wpList_appendT adS _ rfl (.tmp 12) (.tmp 15) rfl w.heap.size _ L rfl ((HO.out.below HB1.out (Nat.le_refl _)).alloc _) ⟨w1.heap.size, 0, none⟩ ⟨(hexT l[k]).toArray⟩ rfl (cellT _ _ _) hll (le_alloc (Nat.le_trans HB.out.size HB1.out.size) _) ?_; intro v2 w2 hown2 hg2; have HG2 := Lib.hid hg2; have HO2 := Lib.hid hown2; clear hg2 hown2) | fail)
      go_roundw
      case rel =>
        have hb1 := HB.out.trans (HB1.out.mono HB.out.size)
        exact ⟨k + 1, by go_num, by omega, by rw [HT.out]; exact HO2.out, (hb1.alloc hb1.size _).trans (below_grownT HG2.out ((HO.out.below HB1.out (Nat.le_refl _)).alloc _) (Nat.le_refl _) (le_alloc hb1.size _))⟩
      case measure => simp [intOf]; omega
    · obtain rfl : k = l.length := by omega
      rw [List.take_of_length_le (Nat.le_refl _)] at hown
      have HO := Lib.hid hown
      have HB := Lib.hid hb
      obtain ⟨A2, c3, rfl⟩ := hown.shape
      clear hown hb
      have HJ := Lib.hid (Join_any (l.map hexT) ⟨#[58]⟩ _ w.heap.size wr HO.out (by rw [List.length_map]; exact hl) (grp_len l hl))
      go_wp2_with (first | (go_at_call 57; (with_reducible refine HJ.out.mono ?_); rintro e w1 ⟨rfl, hb1⟩; have HB1 := Lib.hid hb1; clear hb1) | fail)
      go_ret
      exact ⟨rfl, HB.out.trans (HB1.out.mono HB.out.size)⟩

end Go.Proofs.YtpmlldgjbmingaaGreatDoor
namespace Go.Proofs.YtpmlldgjbmingaaGreatDoor
open Go.RowKit
set_option linter.unusedVariables false

end Go.Proofs.YtpmlldgjbmingaaGreatDoor
namespace Go.Proofs.YtpmlldgjbmingaaGreatDoor
open Go.RowKit
set_option linter.unusedVariables false

/-! ### Places of separators -/
/-! ### Digits -/
/-! ### Elder addresses -/
/-! ### Newer addresses: their groups -/
/-! ### No two colons -/
/-! ### The longest run of noughts -/
/-! ### Groups as a text, read -/
/-! ### How long a text is -/
end Go.Proofs.YtpmlldgjbmingaaGreatDoor
namespace Go.Proofs.YtpmlldgjbmingaaGreatDoor
open Go.RowKit
set_option linter.unusedVariables false

/-- The number whose digits these are, three at most, written in one way. -/
def numG (s : List UInt8) : Option Nat := match Lib.parseUintB 16 s with
  | .ok v => if s.length ≤ 3 ∧ decT v = s then some v else none
  | _ => none
/-- What Read answers: an address, bits, an error. -/
def rdR (s : List UInt8) : Ad × Nat × Nat :=
  if (rdA (Lib.cut s [47]).1).2 ≠ 0 then (noA, 0, (rdA (Lib.cut s [47]).1).2) else match numG (Lib.cut s [47]).2.1 with
    | none => (noA, 0, 7)
    | some n => if chkR (rdA (Lib.cut s [47]).1).1 n ≠ 0 then (noA, 0, chkR (rdA (Lib.cut s [47]).1).1 n) else ((rdA (Lib.cut s [47]).1).1, n, 0)
theorem parseM_le' (M : Nat) : ∀ (l : List UInt8) (acc u : Nat), acc ≤ M → Lib.parseUintM M acc l = .ok u → u ≤ M
  | [], acc, u, h, e => by
    unfold Lib.parseUintM at e
    injection e with e
    omega
  | c :: r, acc, u, h, e => by
    unfold Lib.parseUintM at e
    split at e
    · split at e
      · cases e
      · split at e
        · cases e
        · exact parseM_le' M r _ u (by omega) e
    · cases e
theorem parse16_le {l : List UInt8} {u : Nat} (h : Lib.parseUintB 16 l = .ok u) : u ≤ 65535 := by
  unfold Lib.parseUintB at h
  split at h
  · cases h
  · exact parseM_le' (2 ^ 16 - 1) l 0 u (by decide) h
theorem parseM_small (M : Nat) : ∀ (l : List UInt8) (acc u : Nat), Lib.parseUintM M acc l = .ok u → u < (acc + 1) * 10 ^ l.length
  | [], acc, u, e => by
    unfold Lib.parseUintM at e
    injection e with e
    simp only [List.length_nil, Nat.pow_zero, Nat.mul_one]
    omega
  | c :: r, acc, u, e => by
    unfold Lib.parseUintM at e
    split at e
    · split at e
      · cases e
      · split at e
        · cases e
        · have h := parseM_small M r _ u e
          have h2 : acc * 10 + (c.toNat - 48) + 1 ≤ (acc + 1) * 10 := by omega
          rw [List.length_cons, Nat.pow_succ, Nat.mul_comm (10 ^ r.length) 10, ← Nat.mul_assoc]
          exact Nat.lt_of_lt_of_le h (Nat.mul_le_mul_right _ h2)
    · cases e
theorem parse_small {l : List UInt8} {u : Nat} (h : Lib.parseUintB 16 l = .ok u) (hl : l.length ≤ 3) : u < 1000 := by
  unfold Lib.parseUintB at h
  split at h
  · cases h
  · have h1 := parseM_small _ l 0 u h
    have h2 : 10 ^ l.length ≤ 10 ^ 3 := Nat.pow_le_pow_right (by decide) hl
    omega
example : rdR [49, 48, 46, 48, 46, 48, 46, 48, 47, 51, 48] = ((false, 0, 167772160), 30, 0) := by decide +kernel
example : rdR [49, 48, 46, 48, 46, 48, 46, 49, 47, 51, 48] = (noA, 0, 2) := by decide +kernel
end Go.Proofs.YtpmlldgjbmingaaGreatDoor
