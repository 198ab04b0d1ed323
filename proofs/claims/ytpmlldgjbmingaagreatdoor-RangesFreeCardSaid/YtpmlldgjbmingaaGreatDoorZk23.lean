/-
  Numbers read: the walks of strconv.ParseUint at base 16, addr.hexadecimal, group, digit, number. Conditions: as each theorem names them.
-/
import Derived.Test.YtpmlldgjbmingaaGreatDoorZk22
namespace Go.Proofs.YtpmlldgjbmingaaGreatDoor
open Go.RowKit
set_option linter.unusedVariables false

theorem Parse16_some (s : ByteArray) (n : Nat) (w : World) (hs : s.size ≤ 4) (h0 : bs s ≠ []) (h : hxF 0 (bs s) = some n) :
    Calls Tryz.prog 125 #[.string s, .int .i64 16, .int .i64 16] w fun e w' => e = .returned (.tuple #[.int .u64 n, .nilIface]) ∧ Below w.heap.size w w' := by
  have HI := Lib.hid (iParse16 s w hs h0)
  rw [pu16_some h] at HI
  go_enter Tryz.func125, Tryz.ntmps125
  go_wp2_with (first | (go_at_call 146; (with_reducible refine HI.out.mono ?_); rintro e w1 ⟨rfl, hb1⟩; have HB1 := Lib.hid hb1; clear hb1) | fail)
  go_ret2
  exact ⟨rfl, HB1.out⟩
theorem Parse16_none (s : ByteArray) (w : World) (hs : s.size ≤ 4) (h0 : bs s ≠ []) (h : hxF 0 (bs s) = none) (hG : Ground w) :
    Calls Tryz.prog 125 #[.string s, .int .i64 16, .int .i64 16] w fun e w' => ∃ t p, e = .returned (.tuple #[.int .u64 0, .iface t p]) ∧ Below w.heap.size w w' := by
  have HI := Lib.hid (iParse16 s w hs h0)
  rw [pu16_none h] at HI
  have HT : Hid (∀ wx, Ground wx → Calls Tryz.prog 147 #[.string ⟨#[80, 97, 114, 115, 101, 85, 105, 110, 116]⟩, .string s, .int .i64 16, .int .i64 16, .iface 174 (.int .i64 2)] wx fun e w' => ∃ N, e = .returned (.iface 175 (.pointer (some ⟨N, 0, none⟩))) ∧ Below wx.heap.size wx w') := Lib.hid (fun wx hx => by
    obtain ⟨tp, p, hv⟩ := hx.syn
    refine (Tryz.strconv_toError_syntax ⟨#[80, 97, 114, 115, 101, 85, 105, 110, 116]⟩ s 16 16 (.iface tp p) wx (by omega) (by have h0 := World.var?_cell gSyn hv 0; simpa using h0) (Or.inr ⟨tp, p, rfl⟩)).mono ?_
    rintro e w' ⟨N, rfl, _, _, hb⟩
    exact ⟨N, rfl, hb⟩)
  have HG := Lib.hid hG
  clear hG
  go_enter Tryz.func125, Tryz.ntmps125
  go_wp2_with (first | (go_at_call 146; (with_reducible refine HI.out.mono ?_); rintro e w1 ⟨rfl, hb1⟩; have HB1 := Lib.hid hb1; clear hb1) | (go_at_call 147; (with_reducible refine (HT.out _ (HG.out.next HB1.out)).mono ?_); rintro e w2 ⟨N, rfl, hb2⟩; have HB2 := Lib.hid hb2; clear hb2) | fail)
  go_ret2
  exact ⟨_, _, rfl, next HB1.out HB2.out⟩
set_option maxRecDepth 6000 in
theorem iParse16_empty (wx : World) : Calls Tryz.prog 146 #[.string ⟨#[]⟩, .int .i64 16, .int .i64 16] wx fun e w' => e = .returned (.tuple #[.int .u64 0, .iface 174 (.int .i64 2)]) ∧ wx = w' := by
  go_enter Tryz.func146, Tryz.ntmps146
  go_wp2
  go_ret2
  exact ⟨rfl, rfl⟩
theorem Parse16_empty (w : World) (hG : Ground w) :
    Calls Tryz.prog 125 #[.string ⟨#[]⟩, .int .i64 16, .int .i64 16] w fun e w' => ∃ t p, e = .returned (.tuple #[.int .u64 0, .iface t p]) ∧ Below w.heap.size w w' := by
  have HT : Hid (∀ wx, Ground wx → Calls Tryz.prog 147 #[.string ⟨#[80, 97, 114, 115, 101, 85, 105, 110, 116]⟩, .string ⟨#[]⟩, .int .i64 16, .int .i64 16, .iface 174 (.int .i64 2)] wx fun e w' => ∃ N, e = .returned (.iface 175 (.pointer (some ⟨N, 0, none⟩))) ∧ Below wx.heap.size wx w') := Lib.hid (fun wx hx => by
    obtain ⟨tp, p, hv⟩ := hx.syn
    refine (Tryz.strconv_toError_syntax ⟨#[80, 97, 114, 115, 101, 85, 105, 110, 116]⟩ ⟨#[]⟩ 16 16 (.iface tp p) wx (by decide) (by have h0 := World.var?_cell gSyn hv 0; simpa using h0) (Or.inr ⟨tp, p, rfl⟩)).mono ?_
    rintro e w' ⟨N, rfl, _, _, hb⟩
    exact ⟨N, rfl, hb⟩)
  have HI := Lib.hid iParse16_empty
  have HG := Lib.hid hG
  clear hG
  go_enter Tryz.func125, Tryz.ntmps125
  go_wp2_with (first | (go_at_call 146; (with_reducible refine (HI.out _).mono ?_); rintro e w1 ⟨rfl, rfl⟩) | (go_at_call 147; (with_reducible refine (HT.out _ HG.out).mono ?_); rintro e w2 ⟨N, rfl, hb2⟩; have HB2 := Lib.hid hb2; clear hb2) | fail)
  go_ret2
  exact ⟨_, _, rfl, HB2.out⟩

/-- What a reading hands back: a number, or that there is none. -/
def optV (k : IntKind) (o : Option Nat) : Value := match o with
  | some n => .tuple #[.int k n, .bool true]
  | none => .tuple #[.int k 0, .bool false]
theorem hxF_lt : ∀ (l : List UInt8) (a n j : Nat), a < 16 ^ j → hxF a l = some n → n < 16 ^ (j + l.length)
  | [], a, n, j, ha, h => by injection h with h; subst h; exact ha
  | c :: r, a, n, j, ha, h => by
    rw [hxF_cons] at h
    cases hc : hxv c with
    | none => rw [hc] at h; cases h
    | some d =>
      rw [hc] at h
      have hd := hxv_lt hc
      have := hxF_lt r (a * 16 + d) n (j + 1) (by rw [Nat.pow_succ]; omega) h
      rw [List.length_cons, show j + (r.length + 1) = j + 1 + r.length by omega]
      exact this
theorem hexO_lt {m : Nat} {s : List UInt8} {n : Nat} (h : hexO m s = some n) : n < 16 ^ m := by
  unfold hexO at h
  split at h
  · cases h
  · rename_i h1
    have := hxF_lt s 0 n 0 (by decide) h
    exact Nat.lt_of_lt_of_le this (Nat.pow_le_pow_right (by decide) (by omega))
set_option maxHeartbeats 1000000 in
theorem hexadecimal_any (s : ByteArray) (m : Nat) (w : World) (hm : m = 1 ∨ m = 4) (hs : s.size ≤ maxLen) (hG : Ground w) :
    Calls Tryz.prog 136 #[.string s, .int .i64 m] w fun e w' => e = .returned (optV .u16 (hexO m (bs s))) ∧ Below w.heap.size w w' := by
  unfold maxLen at hs
  by_cases hl : m < s.size
  · have e : hexO m (bs s) = none := by unfold hexO; rw [if_pos (.inl (by rw [bs_length]; exact hl))]
    rw [e]
    have hl' : (m : Int) < (s.size : Int) := by omega
    go_enter Tryz.func136, Tryz.ntmps136
    go_wp2
    go_ret2
    exact ⟨rfl, Below.refl _ _⟩
  · have hl' : ¬ (m : Int) < (s.size : Int) := by omega
    by_cases h0 : bs s = []
    · have e : hexO m (bs s) = none := by unfold hexO; rw [if_pos (.inr h0)]
      rw [e]
      obtain rfl : s = ⟨#[]⟩ := bs_inj (by rw [h0]; rfl)
      have HP := Lib.hid (Parse16_empty w hG)
      clear hG
      go_enter Tryz.func136, Tryz.ntmps136
      go_wp2_with (first | (go_at_call 125; (with_reducible refine HP.out.mono ?_); rintro e w1 ⟨t, p, rfl, hb1⟩; have HB1 := Lib.hid hb1; clear hb1) | fail)
      go_quiet (fail)
      go_wp2
      go_ret2
      exact ⟨rfl, below_dN HB1.out _⟩
    · have e : hexO m (bs s) = hxF 0 (bs s) := by unfold hexO; rw [if_neg (by rw [bs_length]; simp [h0]; omega)]
      rw [e]
      cases hx : hxF 0 (bs s) with
      | none =>
        have HP := Lib.hid (Parse16_none s w (by omega) h0 hx hG)
        clear hG
        go_enter Tryz.func136, Tryz.ntmps136
        go_wp2_with (first | (go_at_call 125; (with_reducible refine HP.out.mono ?_); rintro e w1 ⟨t, p, rfl, hb1⟩; have HB1 := Lib.hid hb1; clear hb1) | fail)
        go_quiet (fail)
        go_wp2
        go_ret2
        exact ⟨rfl, below_dN HB1.out _⟩
      | some n =>
        have hn : n < 65536 := by
          have h1 := hexO_lt (e.trans hx)
          exact Nat.lt_of_lt_of_le h1 (by rcases hm with rfl | rfl <;> decide)
        have hw : IntKind.u16.wrap (n : Int) = (n : Int) := IntWalk.u16_in _ (by omega)
        have HP := Lib.hid (Parse16_some s n w (by omega) h0 hx)
        clear hG
        go_enter Tryz.func136, Tryz.ntmps136
        go_wp2_with (first | (go_at_call 125; (with_reducible refine HP.out.mono ?_); rintro e w1 ⟨rfl, hb1⟩; have HB1 := Lib.hid hb1; clear hb1) | fail)
        go_quiet (fail)
        go_wp2
        go_ret2
        exact ⟨rfl, below_dN HB1.out _⟩
theorem group_any (s : ByteArray) (w : World) (hs : s.size ≤ maxLen) (hG : Ground w) :
    Calls Tryz.prog 97 #[.string s] w fun e w' => e = .returned (optV .u16 (hexO 4 (bs s))) ∧ Below w.heap.size w w' := by
  have HH : Hid (Calls Tryz.prog 136 #[.string s, .int .i64 4] w fun e w' => e = .returned (optV .u16 (hexO 4 (bs s))) ∧ Below w.heap.size w w') := Lib.hid (hexadecimal_any s 4 w (.inr rfl) hs hG)
  clear hG
  cases h : hexO 4 (bs s)
  all_goals
    rw [h] at HH
    simp only [optV] at HH ⊢
    go_enter Tryz.func97, Tryz.ntmps97
    go_wp2_with (first | (go_at_call 136; (with_reducible refine HH.out.mono ?_); rintro e w1 ⟨rfl, hb1⟩; have HB1 := Lib.hid hb1; clear hb1) | fail)
    go_ret2
    exact ⟨rfl, HB1.out⟩
theorem parseM_le (M : Nat) : ∀ (l : List UInt8) (acc u : Nat), acc ≤ M → Lib.parseUintM M acc l = .ok u → u ≤ M
  | [], acc, u, h, e => by
    unfold Lib.parseUintM at e
    injection e with e
    omega
  | c :: r, acc, u, h, e => by
    unfold Lib.parseUintM at e
    split at e
    · split at e
      · cases e
      · split at e
        · cases e
        · exact parseM_le M r _ u (by omega) e
    · cases e
theorem parse8_le {l : List UInt8} {u : Nat} (h : Lib.parseUintB 8 l = .ok u) : u ≤ 255 := by
  unfold Lib.parseUintB at h
  split at h
  · cases h
  · exact parseM_le (2 ^ 8 - 1) l 0 u (by decide) h
theorem number_any (s : ByteArray) (w : World) (hs : s.size ≤ 281474976710656) (hG : Ground w) :
    Calls Tryz.prog 119 #[.string s] w fun e w' => e = .returned (optV .u8 (numO (bs s))) ∧ Below w.heap.size w w' := by
  have HG := Lib.hid hG
  cases h : Lib.parseUintB 8 s.data.toList with
  | «syntax» =>
    have e : numO (bs s) = none := by unfold numO; rw [show bs s = s.data.toList from rfl, h]
    rw [e]
    obtain ⟨tp, p, hv⟩ := hG.syn
    have HP := Lib.hid (Tryz.strconv_ParseUint_10_at8_syntax_var s hs h tp p w hv)
    clear hG
    go_enter Tryz.func119, Tryz.ntmps119
    go_wp2_with (first | (go_at_call 125; (with_reducible refine HP.out.mono ?_); rintro e w1 ⟨N, rfl, _, _, hb1⟩; have HB1 := Lib.hid hb1; clear hb1) | fail)
    go_ret2
    exact ⟨rfl, HB1.out⟩
  | range =>
    have e : numO (bs s) = none := by unfold numO; rw [show bs s = s.data.toList from rfl, h]
    rw [e]
    obtain ⟨tp, p, hv⟩ := hG.rng
    have HP := Lib.hid (Tryz.strconv_ParseUint_10_at8_range_var s hs h tp p w hv)
    clear hG
    go_enter Tryz.func119, Tryz.ntmps119
    go_wp2_with (first | (go_at_call 125; (with_reducible refine HP.out.mono ?_); rintro e w1 ⟨N, rfl, _, _, hb1⟩; have HB1 := Lib.hid hb1; clear hb1) | fail)
    go_ret2
    exact ⟨rfl, HB1.out⟩
  | ok u =>
    have e : numO (bs s) = if decT u = bs s then some u else none := by unfold numO; rw [show bs s = s.data.toList from rfl, h]
    have hu := parse8_le h
    have hw : IntKind.u8.wrap (u : Int) = (u : Int) := IntWalk.u8_in _ (by omega)
    have HP : Hid (Calls Tryz.prog 125 #[.string s, .int .i64 10, .int .i64 8] w fun e w' => e = .returned (.tuple #[.int .u64 u, .nilIface]) ∧ Below w.heap.size w w') := Lib.hid ((Tryz.strconv_ParseUint_10_at8_ok s (by omega) u h w).mono (by
      rintro e w' ⟨rfl, rfl | rfl⟩
      · exact ⟨rfl, Below.refl _ _⟩
      · exact ⟨rfl, Joins.below_bytesWorld _ _ _ _ (Nat.le_refl _)⟩))
    have HD := Lib.hid (fun wx hg => decimal_any u wx (by omega) hg)
    rw [e]
    clear hG e
    by_cases hd : decT u = bs s
    · rw [if_pos hd]
      have hq : (⟨(decT u).toArray⟩ : ByteArray) = s := bs_inj (by rw [bs_mk]; exact hd)
      rw [hq] at HD
      go_enter Tryz.func119, Tryz.ntmps119
      go_wp2_with (first | (go_at_call 125; (with_reducible refine HP.out.mono ?_); rintro e w1 ⟨rfl, hb1⟩; have HB1 := Lib.hid hb1; clear hb1) | (go_at_call 107; (with_reducible refine (HD.out _ (HG.out.next HB1.out)).mono ?_); rintro e w2 ⟨rfl, hb2⟩; have HB2 := Lib.hid hb2; clear hb2) | fail)
      go_ret2
      exact ⟨rfl, next HB1.out HB2.out⟩
    · rw [if_neg hd]
      obtain ⟨D, hD⟩ : ∃ D : ByteArray, D = ⟨(decT u).toArray⟩ := ⟨_, rfl⟩
      have hq : (D.toList == s.toList) = false := beq_eq_false_iff_ne.2 (fun e => hd (by rw [bs_toList, bs_toList, hD, bs_mk] at e; exact e))
      rw [← hD] at HD
      clear hD
      go_enter Tryz.func119, Tryz.ntmps119
      go_wp2_with (first | (go_at_call 125; (with_reducible refine HP.out.mono ?_); rintro e w1 ⟨rfl, hb1⟩; have HB1 := Lib.hid hb1; clear hb1) | (go_at_call 107; (with_reducible refine (HD.out _ (HG.out.next HB1.out)).mono ?_); rintro e w2 ⟨rfl, hb2⟩; have HB2 := Lib.hid hb2; clear hb2) | fail)
      go_ret2
      exact ⟨rfl, next HB1.out HB2.out⟩
end Go.Proofs.YtpmlldgjbmingaaGreatDoor
