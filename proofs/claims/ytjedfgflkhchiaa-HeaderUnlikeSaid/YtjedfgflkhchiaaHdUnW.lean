/-
  HeaderUnlike: the mathematics and the walk. The headers' numbers are such as their types bear.
-/
import Derived.Test.YtjedfgflkhchiaaHdBm
import Derived.Test.YtjedfgflkhchiaaPick
namespace Go.Proofs.Ytjedfgflkhchiaa
open Go.RowKit
set_option linter.unusedVariables false

/-! ### A bit that is turned -/
def tog (c : UInt8) (j : Nat) : UInt8 := UInt8.ofNat (c.toNat ^^^ 2 ^ j)
theorem tog_val (c : UInt8) {j : Nat} (hj : j < 8) : (tog c j).toNat = c.toNat ^^^ 2 ^ j := by
  unfold tog
  rw [ofNat_val]
  refine Nat.mod_eq_of_lt ?_
  exact Nat.xor_lt_two_pow (n := 8) c.toNat_lt (Nat.pow_lt_pow_right (by omega) hj)
theorem tog_ne (c : UInt8) {j : Nat} (hj : j < 8) : tog c j ≠ c := by
  intro e
  have h := congrArg UInt8.toNat e
  rw [tog_val c hj] at h
  have h2 := congrArg (fun n => Nat.testBit n j) h
  simp [Nat.testBit_xor] at h2
theorem bit64_test (n : Nat) : (n / 64 % 2 = 1) ↔ n.testBit 6 = true := by
  rw [Nat.testBit_eq_decide_div_mod_eq]
  simp
theorem tog_64 (c : UInt8) (h : c.toNat / 64 % 2 = 0) : (tog c 6).toNat / 64 % 2 = 1 := by
  rw [tog_val c (by omega), bit64_test, Nat.testBit_xor, Nat.testBit_two_pow]
  have : c.toNat.testBit 6 = false := by
    cases hb : c.toNat.testBit 6
    · rfl
    · rw [← bit64_test] at hb; omega
  rw [this]
  simp
theorem tog_other (c : UInt8) {j : Nat} (hj : j < 8) (hn : j ≠ 6) (h : c.toNat / 64 % 2 = 0) : (tog c j).toNat / 64 % 2 = 0 := by
  rw [tog_val c hj]
  rcases Nat.mod_two_eq_zero_or_one ((c.toNat ^^^ 2 ^ j) / 64) with e | e
  · exact e
  · rw [bit64_test, Nat.testBit_xor, Nat.testBit_two_pow] at e
    have hc : c.toNat.testBit 6 = false := by
      cases hb : c.toNat.testBit 6
      · rfl
      · rw [← bit64_test] at hb; omega
    rw [hc] at e
    simp [hn] at e
/-- The nought bit of twelve octets and more. -/
theorem rdE_12 {l : List UInt8} (h : 12 ≤ l.length) : rdE l = if (l[3]'(by omega)).toNat / 64 % 2 = 1 then 4 else 0 := by
  obtain ⟨a0, a1, b0, b1, c0, c1, d0, d1, e0, e1, f0, f1, t, rfl⟩ := twelve h
  have hw : wdAt (a0 :: a1 :: b0 :: b1 :: c0 :: c1 :: d0 :: d1 :: e0 :: e1 :: f0 :: f1 :: t) 1 = num [b0, b1] := rfl
  unfold rdE
  rw [if_neg (by omega), hw, num_pair]
  show (if (b0.toNat * 256 + b1.toNat) / 64 % 2 = 1 then 4 else 0) = if b1.toNat / 64 % 2 = 1 then 4 else 0
  have : (b0.toNat * 256 + b1.toNat) / 64 % 2 = b1.toNat / 64 % 2 := by omega
  rw [this]
/-- The octets with a bit turned. -/
def turn (l : List UInt8) (n : Nat) : List UInt8 := l.set (n / 8) (tog (l.getD (n / 8) 0) (n % 8))
theorem turn_length (l : List UInt8) (n : Nat) : (turn l n).length = l.length := by simp [turn]
theorem turn_ne {l : List UInt8} {n : Nat} (h : n / 8 < l.length) : turn l n ≠ l := by
  intro e
  have h1 := congrArg (fun x => x[n / 8]?) e
  simp only [turn, List.getElem?_set_self h, List.getElem?_eq_getElem h, Option.some.injEq] at h1
  rw [List.getD_eq_getElem?_getD, List.getElem?_eq_getElem h, Option.getD_some] at h1
  exact tog_ne _ (by omega) h1
theorem put_64 {h : Hd} (m : h.may) (hid : h.id < 65536) : ((ocH h)[3]'(by rw [ocH_length]; omega)).toNat / 64 % 2 = 0 := by
  obtain ⟨h1, _⟩ := put_read m hid []
  rw [List.append_nil, rdE_12 (by rw [ocH_length]; omega)] at h1
  split at h1
  · cases h1
  · omega
theorem turn_read {h : Hd} (m : h.may) (hid : h.id < 65536) {n : Nat} (hn : n < 96) : (n / 8 = 3 ∧ n % 8 = 6 → rdE (turn (ocH h) n) = 4) ∧ (¬ (n / 8 = 3 ∧ n % 8 = 6) → rdE (turn (ocH h) n) = 0 ∧ rdV (turn (ocH h) n) ≠ h) := by
  have h0 := put_64 m hid
  have hl := ocH_length h
  have ht : 12 ≤ (turn (ocH h) n).length := by rw [turn_length, hl]; omega
  have h3 : (turn (ocH h) n)[3]'(by omega) = if n / 8 = 3 then tog ((ocH h)[3]'(by omega)) (n % 8) else (ocH h)[3]'(by omega) := by
    unfold turn
    rw [List.getElem_set]
    by_cases e : n / 8 = 3
    · rw [if_pos e, if_pos e, e]
      congr 1
    · rw [if_neg e, if_neg e]
  refine ⟨fun ⟨e1, e2⟩ => ?_, fun hno => ?_⟩
  · rw [rdE_12 ht, h3, if_pos e1, e2, if_pos (tog_64 _ h0)]
  · have he : rdE (turn (ocH h) n) = 0 := by
      rw [rdE_12 ht, h3]
      by_cases e : n / 8 = 3
      · rw [if_pos e]
        have := tog_other ((ocH h)[3]'(by omega)) (j := n % 8) (by omega) (fun e2 => hno ⟨e, e2⟩) h0
        rw [if_neg (by omega)]
      · rw [if_neg e, if_neg (by omega)]
    refine ⟨he, fun e => ?_⟩
    obtain ⟨_, _, _, hp⟩ := read_put he
    rw [e, List.take_of_length_le (by rw [turn_length, hl]; omega)] at hp
    exact turn_ne (by rw [hl]; omega) hp.symm
theorem ocH_inj {a b : Hd} (ma : a.may) (ia : a.id < 65536) (mb : b.may) (ib : b.id < 65536) (h : ocH a = ocH b) : a = b := by
  have h1 := (put_read ma ia []).2
  have h2 := (put_read mb ib []).2
  rw [h] at h1
  exact h1.symm.trans h2
/-! ### The walk -/
theorem row_cell {w : World} {g q : Nat} {l : List UInt8} {c : UInt8} (h : Row w g l) (hc : l[q]? = some c) : w.cell? ⟨g, q, none⟩ = some (.int .u8 c.toNat) := by
  obtain ⟨h1, h2⟩ := List.getElem?_eq_some_iff.1 hc
  rw [h.cell q h1, h2]
  rfl
set_option maxHeartbeats 1000000 in
theorem hun_a (A B : Hd) (b : Int) (w : World) (ia : A.id < 65536) (ib : B.id < 65536) (hma : mayB A = false) : Calls Try.prog 8 #[hv A, hv B, .int .i64 b] w fun e w' => e = .returned (.bool true) ∧ Below w.heap.size w w' := by
  have HLv := Lib.hid lives_any
  have HP := Lib.hid (Put_any A ia)
  have HP2 := Lib.hid (Put_any B ib)
  rw [chkH_bad hma] at HP
  obtain ⟨E, hE⟩ : ∃ E, E = chkH B := ⟨_, rfl⟩
  rw [← hE] at HP2
  clear hE hma
  unfold hv at *
  go_enter Try.func8, Try.ntmps8
  go_wp2_with fail
  refine (HLv.out _).mono ?_
  rintro e w1 ⟨rfl, hb⟩
  have HB1 := Lib.hid ((((Below.refl w.heap.size w).alloc (Nat.le_refl _) _).alloc (by simp) _).trans (hb.mono (by simp; omega)))
  obtain ⟨c1, f1⟩ := bcell hb
  have z1a : w.heap.size + 1 < w1.heap.size := by have := hb.size; (try simp at this); omega
  clear hb
  go_wp2_with fail
  refine (HP.out _).mono ?_
  rintro e w2 ⟨rfl, hb⟩
  have HB2 := Lib.hid (HB1.out.trans (hb.mono HB1.out.size))
  obtain ⟨c2, f2⟩ := bcell hb
  have z2a : w.heap.size + 1 < w2.heap.size := by have := hb.size; (try simp at this); omega
  clear hb
  go_wp2_with fail
  refine (HP2.out _).mono ?_
  rintro e w3 ⟨rfl, hb⟩
  have HB3 := Lib.hid (HB2.out.trans (hb.mono HB2.out.size))
  obtain ⟨c3, f3⟩ := bcell hb
  have z3a : w.heap.size + 1 < w3.heap.size := by have := hb.size; (try simp at this); omega
  clear hb
  go_wp2
  go_ret
  exact ⟨rfl, HB3.out⟩
set_option maxHeartbeats 1000000 in
theorem hun_b (A B : Hd) (b : Int) (w : World) (ia : A.id < 65536) (ib : B.id < 65536) (hma : mayB A = true) (hmb : mayB B = false) : Calls Try.prog 8 #[hv A, hv B, .int .i64 b] w fun e w' => e = .returned (.bool true) ∧ Below w.heap.size w w' := by
  have HLv := Lib.hid lives_any
  have HP := Lib.hid (Put_any A ia)
  have HP2 := Lib.hid (Put_any B ib)
  rw [chkH_ok (mayB_yes.1 hma)] at HP
  rw [chkH_bad hmb] at HP2
  clear hma hmb
  unfold hv at *
  go_enter Try.func8, Try.ntmps8
  go_wp2_with fail
  refine (HLv.out _).mono ?_
  rintro e w1 ⟨rfl, hb⟩
  have HB1 := Lib.hid ((((Below.refl w.heap.size w).alloc (Nat.le_refl _) _).alloc (by simp) _).trans (hb.mono (by simp; omega)))
  obtain ⟨c1, f1⟩ := bcell hb
  have z1a : w.heap.size + 1 < w1.heap.size := by have := hb.size; (try simp at this); omega
  clear hb
  go_wp2_with fail
  refine (HP.out _).mono ?_
  rintro e w2 ⟨rfl, hb⟩
  have HB2 := Lib.hid (HB1.out.trans (hb.mono HB1.out.size))
  obtain ⟨c2, f2⟩ := bcell hb
  have z2a : w.heap.size + 1 < w2.heap.size := by have := hb.size; (try simp at this); omega
  clear hb
  go_wp2_with fail
  refine (HP2.out _).mono ?_
  rintro e w3 ⟨rfl, hb⟩
  have HB3 := Lib.hid (HB2.out.trans (hb.mono HB2.out.size))
  obtain ⟨c3, f3⟩ := bcell hb
  have z3a : w.heap.size + 1 < w3.heap.size := by have := hb.size; (try simp at this); omega
  clear hb
  go_wp2
  go_ret
  exact ⟨rfl, HB3.out⟩
theorem xor_tog (c : UInt8) {j : Nat} (hj : j < 8) : Value.int .u8 (bits BinOp.xor IntKind.u8 (c.toNat : Int) (2 ^ j % 256)) = B (tog c j) := by
  have hp : 2 ^ j < 256 := Nat.pow_lt_pow_right (a := 2) (by omega) hj
  have e0 : (2 : Int) ^ j = ((2 ^ j : Nat) : Int) := (Int.natCast_pow 2 j).symm
  have e : (2 : Int) ^ j % 256 = ((2 ^ j : Nat) : Int) := by
    rw [e0]
    generalize 2 ^ j = m at hp ⊢
    omega
  rw [e, u8_xor_nat c.toNat (2 ^ j) c.toNat_lt hp, ← tog_val c hj]
  rfl
theorem turned {X : ByteArray} {l : List UInt8} {n q j : Nat} {c : UInt8} (hX : bs X = l) (hq : q = n / 8) (hj : j = n % 8) (hc : (bs X)[q]? = some c) : (bs X).set q (tog c j) = turn l n := by
  subst hX hq hj
  unfold turn
  rw [List.getD_eq_getElem?_getD, hc]
  rfl
set_option maxHeartbeats 2000000 in
theorem hun_c (A B : Hd) (b : Int) (w : World) (ia : A.id < 65536) (ib : B.id < 65536) (hma : mayB A = true) (hmb : mayB B = true) (n : Nat) (hn : pick b 96 = n) (hs : ¬ n / 8 = 3) : Calls Try.prog 8 #[hv A, hv B, .int .i64 b] w fun e w' => e = .returned (.bool true) ∧ Below w.heap.size w w' := by
  have HLv := Lib.hid lives_any
  have HP := Lib.hid (Put_any A ia)
  have HP2 := Lib.hid (Put_any B ib)
  have ma := mayB_yes.1 hma
  have mb := mayB_yes.1 hmb
  obtain ⟨X, hX⟩ : ∃ X : ByteArray, X = ⟨(ptV A).toArray⟩ := ⟨_, rfl⟩
  obtain ⟨Y, hY⟩ : ∃ Y : ByteArray, Y = ⟨(ptV B).toArray⟩ := ⟨_, rfl⟩
  have hXb : bs X = ocH A := by rw [hX, bs_mk]; unfold ptV; rw [hma]; rfl
  have hYb : bs Y = ocH B := by rw [hY, bs_mk]; unfold ptV; rw [hmb]; rfl
  rw [chkH_ok ma, ← hX] at HP
  rw [chkH_ok mb, ← hY] at HP2
  have hp := pick_range (i := b) (n := 96) (by decide)
  have HPk := Lib.hid (fun wx => Pick_any b 96 wx (by decide) (by decide))
  rw [hn] at HPk hp
  have hn96 : n < 96 := by omega
  obtain ⟨t1, t2⟩ := turn_read ma ia hn96
  have hXs : X.size = 12 := by rw [← bs_length, hXb, ocH_length]
  obtain ⟨q, hq⟩ : ∃ q, q = n / 8 := ⟨_, rfl⟩
  obtain ⟨j, hj⟩ : ∃ j, j = n % 8 := ⟨_, rfl⟩
  have hq12 : q < 12 := by omega
  have hj8 : j < 8 := by omega
  obtain ⟨c, hc⟩ : ∃ c, (bs X)[q]? = some c := ⟨_, List.getElem?_eq_getElem (by rw [bs_length]; omega)⟩
  have htu := turned hXb hq hj hc
  have hTl : (turn (ocH A) n).length = 12 := by rw [turn_length, ocH_length]
  obtain ⟨Z, hZ⟩ : ∃ Z : ByteArray, Z = ⟨((bs X).set q (tog c j)).toArray⟩ := ⟨_, rfl⟩
  have hZb : bs Z = turn (ocH A) n := by rw [hZ, bs_mk, htu]
  have HRd := Lib.hid (fun wx => Read_any Z wx (by unfold maxLen; rw [← bs_length, hZb, hTl]; omega))
  rw [hZb] at HRd
  obtain ⟨t3, t4⟩ := t2 (by omega)
  obtain ⟨K, hK⟩ : ∃ K, K = rdV (turn (ocH A) n) := ⟨_, rfl⟩
  rw [show rdP (turn (ocH A) n) = .tuple #[hv K, .int .i64 0] by unfold rdP; rw [t3, hK]; rfl] at HRd
  rw [← hK] at t4
  have EK : ∀ wx, (Op.equalIn 10000 26 (hv K) (hv A)).run Try.prog wx = .ok false wx := fun wx => by rw [hd_equal, decide_eq_false t4]
  clear t3 t4 hK
  obtain ⟨E, hE⟩ : ∃ E : Bool, E = decide (A = B) := ⟨_, rfl⟩
  have EAB : ∀ wx, (Op.equalIn 10000 26 (hv A) (hv B)).run Try.prog wx = .ok E wx := fun wx => by rw [hd_equal, hE]
  have EXY : (X.toList == Y.toList) = E := by
    rw [hE, Bool.eq_iff_iff, beq_iff_eq, decide_eq_true_iff, bs_toList, bs_toList, hXb, hYb]
    exact ⟨fun e => ocH_inj ma ia mb ib e, fun e => by rw [e]⟩
  have eq1 : (n : Int) / 8 = q := by omega
  have ej1 : (n : Int) % 8 = j := by omega
  have d3 : ((q : Int) == 3) = false := by rw [beq_eq_false_iff_ne]; omega
  have HVt := Lib.hid (xor_tog c hj8)
  have HZ := Lib.hid hZ
  have HCc := Lib.hid hc
  clear hX hY hn hp t1 t2 hq hj hma hmb hXb hYb ma mb htu hTl hZ hZb hc hE hs
  have HLA := Lib.hid (Lies.new w 26 (hcs A))
  have HLB : Hid (Lies ((w.alloc (.cells (hcs A) 26)).alloc (.cells (hcs B) 26)) (w.heap.size + 1) 26 (hcs B)) := Lib.hid (by
    have := Lies.new (w.alloc (.cells (hcs A) 26)) 26 (hcs B)
    rw [show (w.alloc (.cells (hcs A) 26)).heap.size = w.heap.size + 1 by simp] at this
    exact this)
  unfold hv at *
  go_enter Try.func8, Try.ntmps8
  go_wp2_with fail
  refine (HLv.out _).mono ?_
  rintro e w1 ⟨rfl, hb⟩
  have HB1 := Lib.hid ((((Below.refl w.heap.size w).alloc (Nat.le_refl _) _).alloc (by simp) _).trans (hb.mono (by simp; omega)))
  obtain ⟨c1, f1⟩ := bcell hb
  have z1a : w.heap.size + 1 < w1.heap.size := by have := hb.size; (try simp at this); omega
  have HA1 := Lib.hid ((HLA.out.alloc _).next hb)
  have HX1 := Lib.hid (HLB.out.next hb)
  clear hb
  go_wp2_with fail
  refine (HP.out _).mono ?_
  rintro e w2 ⟨rfl, hb⟩
  have HB2 := Lib.hid (HB1.out.trans (hb.mono HB1.out.size))
  obtain ⟨c2, f2⟩ := bcell hb
  have z2a : w.heap.size + 1 < w2.heap.size := by have := hb.size; (try simp at this); omega
  have HA2 := Lib.hid (HA1.out.next hb)
  have HX2 := Lib.hid (HX1.out.next hb)
  clear hb
  go_wp2_with fail
  refine (HP2.out _).mono ?_
  rintro e w3 ⟨rfl, hb⟩
  have HB3 := Lib.hid (HB2.out.trans (hb.mono HB2.out.size))
  obtain ⟨c3, f3⟩ := bcell hb
  have z3a : w.heap.size + 1 < w3.heap.size := by have := hb.size; (try simp at this); omega
  have HA3 := Lib.hid (HA2.out.next hb)
  have HX3 := Lib.hid (HX2.out.next hb)
  clear hb
  go_wp2_with fail
  clear c1 f1 c2 f2 c3 f3
  refine (HPk.out _).mono ?_
  rintro e wp ⟨rfl, rfl⟩
  go_wp2_with (first | (refine wpList_bytes bt _ rfl _ rfl X rfl (by unfold maxLen; omega) ?_; intro cap w4 hrow hb4 _ _ _; have HA4 := Lib.hid (HA3.out.next hb4); have HX4 := Lib.hid (HX3.out.next hb4); have HB4 := Lib.hid (HB3.out.trans (hb4.mono HB3.out.size)); have hcell := row_cell hrow HCc.out; have hfree := hrow.free q (by rw [bs_length]; omega); have hcv := bt.conv_row (hrow.set (k := q) (by rw [bs_length]; omega) (tog c j)) 12 cap (by rw [List.length_set, bs_length, hXs]); rw [← HVt.out, ← HZ.out] at hcv; clear hrow hb4) | (go_at_call 10; refine (HRd.out _).mono ?_; rintro e w5 ⟨rfl, hb⟩; have HA5 := (HA4.out.setOther (by omega) _).next hb; have HX5 := (HX4.out.setOther (by omega) _).next hb; obtain ⟨⟨ca0, ca1, ca2, ca3, ca4, ca5, ca6, ca7, ca8, ca9, ca10, ca11, ca12, ca13⟩, _⟩ := hd_cells HA5; obtain ⟨⟨cb0, cb1, cb2, cb3, cb4, cb5, cb6, cb7, cb8, cb9, cb10, cb11, cb12, cb13⟩, _⟩ := hd_cells HX5; have z5a := HA5.lt; have z5b := HX5.lt; have HB5 := Lib.hid ((HB4.out.setCell (by simp; omega) _).trans (hb.mono (by have := HB4.out.size; simp; omega))); clear hb HA5 HX5 hcell hfree hcv))
  go_ret
  exact ⟨rfl, HB5.out.alloc HB5.out.size _⟩
set_option maxHeartbeats 2000000 in
theorem hun_d (A B : Hd) (b : Int) (w : World) (ia : A.id < 65536) (ib : B.id < 65536) (hma : mayB A = true) (hmb : mayB B = true) (n : Nat) (hn : pick b 96 = n) (hs : n / 8 = 3 ∧ ¬ n % 8 = 6) : Calls Try.prog 8 #[hv A, hv B, .int .i64 b] w fun e w' => e = .returned (.bool true) ∧ Below w.heap.size w w' := by
  have HLv := Lib.hid lives_any
  have HP := Lib.hid (Put_any A ia)
  have HP2 := Lib.hid (Put_any B ib)
  have ma := mayB_yes.1 hma
  have mb := mayB_yes.1 hmb
  obtain ⟨X, hX⟩ : ∃ X : ByteArray, X = ⟨(ptV A).toArray⟩ := ⟨_, rfl⟩
  obtain ⟨Y, hY⟩ : ∃ Y : ByteArray, Y = ⟨(ptV B).toArray⟩ := ⟨_, rfl⟩
  have hXb : bs X = ocH A := by rw [hX, bs_mk]; unfold ptV; rw [hma]; rfl
  have hYb : bs Y = ocH B := by rw [hY, bs_mk]; unfold ptV; rw [hmb]; rfl
  rw [chkH_ok ma, ← hX] at HP
  rw [chkH_ok mb, ← hY] at HP2
  have hp := pick_range (i := b) (n := 96) (by decide)
  have HPk := Lib.hid (fun wx => Pick_any b 96 wx (by decide) (by decide))
  rw [hn] at HPk hp
  have hn96 : n < 96 := by omega
  obtain ⟨t1, t2⟩ := turn_read ma ia hn96
  have hXs : X.size = 12 := by rw [← bs_length, hXb, ocH_length]
  obtain ⟨q, hq⟩ : ∃ q, q = n / 8 := ⟨_, rfl⟩
  obtain ⟨j, hj⟩ : ∃ j, j = n % 8 := ⟨_, rfl⟩
  have hq12 : q < 12 := by omega
  have hj8 : j < 8 := by omega
  obtain ⟨c, hc⟩ : ∃ c, (bs X)[q]? = some c := ⟨_, List.getElem?_eq_getElem (by rw [bs_length]; omega)⟩
  have htu := turned hXb hq hj hc
  have hTl : (turn (ocH A) n).length = 12 := by rw [turn_length, ocH_length]
  obtain ⟨Z, hZ⟩ : ∃ Z : ByteArray, Z = ⟨((bs X).set q (tog c j)).toArray⟩ := ⟨_, rfl⟩
  have hZb : bs Z = turn (ocH A) n := by rw [hZ, bs_mk, htu]
  have HRd := Lib.hid (fun wx => Read_any Z wx (by unfold maxLen; rw [← bs_length, hZb, hTl]; omega))
  rw [hZb] at HRd
  obtain ⟨t3, t4⟩ := t2 (by omega)
  obtain ⟨K, hK⟩ : ∃ K, K = rdV (turn (ocH A) n) := ⟨_, rfl⟩
  rw [show rdP (turn (ocH A) n) = .tuple #[hv K, .int .i64 0] by unfold rdP; rw [t3, hK]; rfl] at HRd
  rw [← hK] at t4
  have EK : ∀ wx, (Op.equalIn 10000 26 (hv K) (hv A)).run Try.prog wx = .ok false wx := fun wx => by rw [hd_equal, decide_eq_false t4]
  clear t3 t4 hK
  obtain ⟨E, hE⟩ : ∃ E : Bool, E = decide (A = B) := ⟨_, rfl⟩
  have EAB : ∀ wx, (Op.equalIn 10000 26 (hv A) (hv B)).run Try.prog wx = .ok E wx := fun wx => by rw [hd_equal, hE]
  have EXY : (X.toList == Y.toList) = E := by
    rw [hE, Bool.eq_iff_iff, beq_iff_eq, decide_eq_true_iff, bs_toList, bs_toList, hXb, hYb]
    exact ⟨fun e => ocH_inj ma ia mb ib e, fun e => by rw [e]⟩
  have eq1 : (n : Int) / 8 = q := by omega
  have ej1 : (n : Int) % 8 = j := by omega
  have d3 : ((q : Int) == 3) = true := by rw [beq_iff_eq]; omega
  have d6 : ((j : Int) == 6) = false := by rw [beq_eq_false_iff_ne]; omega
  have HVt := Lib.hid (xor_tog c hj8)
  have HZ := Lib.hid hZ
  have HCc := Lib.hid hc
  clear hX hY hn hp t1 t2 hq hj hma hmb hXb hYb ma mb htu hTl hZ hZb hc hE hs
  have HLA := Lib.hid (Lies.new w 26 (hcs A))
  have HLB : Hid (Lies ((w.alloc (.cells (hcs A) 26)).alloc (.cells (hcs B) 26)) (w.heap.size + 1) 26 (hcs B)) := Lib.hid (by
    have := Lies.new (w.alloc (.cells (hcs A) 26)) 26 (hcs B)
    rw [show (w.alloc (.cells (hcs A) 26)).heap.size = w.heap.size + 1 by simp] at this
    exact this)
  unfold hv at *
  go_enter Try.func8, Try.ntmps8
  go_wp2_with fail
  refine (HLv.out _).mono ?_
  rintro e w1 ⟨rfl, hb⟩
  have HB1 := Lib.hid ((((Below.refl w.heap.size w).alloc (Nat.le_refl _) _).alloc (by simp) _).trans (hb.mono (by simp; omega)))
  obtain ⟨c1, f1⟩ := bcell hb
  have z1a : w.heap.size + 1 < w1.heap.size := by have := hb.size; (try simp at this); omega
  have HA1 := Lib.hid ((HLA.out.alloc _).next hb)
  have HX1 := Lib.hid (HLB.out.next hb)
  clear hb
  go_wp2_with fail
  refine (HP.out _).mono ?_
  rintro e w2 ⟨rfl, hb⟩
  have HB2 := Lib.hid (HB1.out.trans (hb.mono HB1.out.size))
  obtain ⟨c2, f2⟩ := bcell hb
  have z2a : w.heap.size + 1 < w2.heap.size := by have := hb.size; (try simp at this); omega
  have HA2 := Lib.hid (HA1.out.next hb)
  have HX2 := Lib.hid (HX1.out.next hb)
  clear hb
  go_wp2_with fail
  refine (HP2.out _).mono ?_
  rintro e w3 ⟨rfl, hb⟩
  have HB3 := Lib.hid (HB2.out.trans (hb.mono HB2.out.size))
  obtain ⟨c3, f3⟩ := bcell hb
  have z3a : w.heap.size + 1 < w3.heap.size := by have := hb.size; (try simp at this); omega
  have HA3 := Lib.hid (HA2.out.next hb)
  have HX3 := Lib.hid (HX2.out.next hb)
  clear hb
  go_wp2_with fail
  clear c1 f1 c2 f2 c3 f3
  refine (HPk.out _).mono ?_
  rintro e wp ⟨rfl, rfl⟩
  go_wp2_with (first | (refine wpList_bytes bt _ rfl _ rfl X rfl (by unfold maxLen; omega) ?_; intro cap w4 hrow hb4 _ _ _; have HA4 := Lib.hid (HA3.out.next hb4); have HX4 := Lib.hid (HX3.out.next hb4); have HB4 := Lib.hid (HB3.out.trans (hb4.mono HB3.out.size)); have hcell := row_cell hrow HCc.out; have hfree := hrow.free q (by rw [bs_length]; omega); have hcv := bt.conv_row (hrow.set (k := q) (by rw [bs_length]; omega) (tog c j)) 12 cap (by rw [List.length_set, bs_length, hXs]); rw [← HVt.out, ← HZ.out] at hcv; clear hrow hb4) | (go_at_call 10; refine (HRd.out _).mono ?_; rintro e w5 ⟨rfl, hb⟩; have HA5 := (HA4.out.setOther (by omega) _).next hb; have HX5 := (HX4.out.setOther (by omega) _).next hb; obtain ⟨⟨ca0, ca1, ca2, ca3, ca4, ca5, ca6, ca7, ca8, ca9, ca10, ca11, ca12, ca13⟩, _⟩ := hd_cells HA5; obtain ⟨⟨cb0, cb1, cb2, cb3, cb4, cb5, cb6, cb7, cb8, cb9, cb10, cb11, cb12, cb13⟩, _⟩ := hd_cells HX5; have z5a := HA5.lt; have z5b := HX5.lt; have HB5 := Lib.hid ((HB4.out.setCell (by simp; omega) _).trans (hb.mono (by have := HB4.out.size; simp; omega))); clear hb HA5 HX5 hcell hfree hcv))
  go_ret
  exact ⟨rfl, HB5.out.alloc HB5.out.size _⟩
set_option maxHeartbeats 2000000 in
theorem hun_e (A B : Hd) (b : Int) (w : World) (ia : A.id < 65536) (ib : B.id < 65536) (hma : mayB A = true) (hmb : mayB B = true) (n : Nat) (hn : pick b 96 = n) (hs : n / 8 = 3 ∧ n % 8 = 6) : Calls Try.prog 8 #[hv A, hv B, .int .i64 b] w fun e w' => e = .returned (.bool true) ∧ Below w.heap.size w w' := by
  have HLv := Lib.hid lives_any
  have HP := Lib.hid (Put_any A ia)
  have HP2 := Lib.hid (Put_any B ib)
  have ma := mayB_yes.1 hma
  have mb := mayB_yes.1 hmb
  obtain ⟨X, hX⟩ : ∃ X : ByteArray, X = ⟨(ptV A).toArray⟩ := ⟨_, rfl⟩
  obtain ⟨Y, hY⟩ : ∃ Y : ByteArray, Y = ⟨(ptV B).toArray⟩ := ⟨_, rfl⟩
  have hXb : bs X = ocH A := by rw [hX, bs_mk]; unfold ptV; rw [hma]; rfl
  have hYb : bs Y = ocH B := by rw [hY, bs_mk]; unfold ptV; rw [hmb]; rfl
  rw [chkH_ok ma, ← hX] at HP
  rw [chkH_ok mb, ← hY] at HP2
  have hp := pick_range (i := b) (n := 96) (by decide)
  have HPk := Lib.hid (fun wx => Pick_any b 96 wx (by decide) (by decide))
  rw [hn] at HPk hp
  have hn96 : n < 96 := by omega
  obtain ⟨t1, t2⟩ := turn_read ma ia hn96
  have hXs : X.size = 12 := by rw [← bs_length, hXb, ocH_length]
  obtain ⟨q, hq⟩ : ∃ q, q = n / 8 := ⟨_, rfl⟩
  obtain ⟨j, hj⟩ : ∃ j, j = n % 8 := ⟨_, rfl⟩
  have hq12 : q < 12 := by omega
  have hj8 : j < 8 := by omega
  obtain ⟨c, hc⟩ : ∃ c, (bs X)[q]? = some c := ⟨_, List.getElem?_eq_getElem (by rw [bs_length]; omega)⟩
  have htu := turned hXb hq hj hc
  have hTl : (turn (ocH A) n).length = 12 := by rw [turn_length, ocH_length]
  obtain ⟨Z, hZ⟩ : ∃ Z : ByteArray, Z = ⟨((bs X).set q (tog c j)).toArray⟩ := ⟨_, rfl⟩
  have hZb : bs Z = turn (ocH A) n := by rw [hZ, bs_mk, htu]
  have HRd := Lib.hid (fun wx => Read_any Z wx (by unfold maxLen; rw [← bs_length, hZb, hTl]; omega))
  rw [hZb] at HRd
  rw [rdP_no (t1 ⟨hs.1, hs.2⟩) (by decide), show hv noH = .agg #[.int .u16 0, .bool false, .int .i64 0, .bool false, .bool false, .bool false, .bool false, .bool false, .bool false, .int .i64 0, .int .i64 0, .int .i64 0, .int .i64 0, .int .i64 0] from by kernel_rfl] at HRd
  obtain ⟨E, hE⟩ : ∃ E : Bool, E = decide (A = B) := ⟨_, rfl⟩
  have EAB : ∀ wx, (Op.equalIn 10000 26 (hv A) (hv B)).run Try.prog wx = .ok E wx := fun wx => by rw [hd_equal, hE]
  have EXY : (X.toList == Y.toList) = E := by
    rw [hE, Bool.eq_iff_iff, beq_iff_eq, decide_eq_true_iff, bs_toList, bs_toList, hXb, hYb]
    exact ⟨fun e => ocH_inj ma ia mb ib e, fun e => by rw [e]⟩
  have eq1 : (n : Int) / 8 = q := by omega
  have ej1 : (n : Int) % 8 = j := by omega
  have d3 : ((q : Int) == 3) = true := by rw [beq_iff_eq]; omega
  have d6 : ((j : Int) == 6) = true := by rw [beq_iff_eq]; omega
  have HVt := Lib.hid (xor_tog c hj8)
  have HZ := Lib.hid hZ
  have HCc := Lib.hid hc
  clear hX hY hn hp t1 t2 hq hj hma hmb hXb hYb ma mb htu hTl hZ hZb hc hE hs
  have HLA := Lib.hid (Lies.new w 26 (hcs A))
  have HLB : Hid (Lies ((w.alloc (.cells (hcs A) 26)).alloc (.cells (hcs B) 26)) (w.heap.size + 1) 26 (hcs B)) := Lib.hid (by
    have := Lies.new (w.alloc (.cells (hcs A) 26)) 26 (hcs B)
    rw [show (w.alloc (.cells (hcs A) 26)).heap.size = w.heap.size + 1 by simp] at this
    exact this)
  unfold hv at *
  go_enter Try.func8, Try.ntmps8
  go_wp2_with fail
  refine (HLv.out _).mono ?_
  rintro e w1 ⟨rfl, hb⟩
  have HB1 := Lib.hid ((((Below.refl w.heap.size w).alloc (Nat.le_refl _) _).alloc (by simp) _).trans (hb.mono (by simp; omega)))
  obtain ⟨c1, f1⟩ := bcell hb
  have z1a : w.heap.size + 1 < w1.heap.size := by have := hb.size; (try simp at this); omega
  have HA1 := Lib.hid ((HLA.out.alloc _).next hb)
  have HX1 := Lib.hid (HLB.out.next hb)
  clear hb
  go_wp2_with fail
  refine (HP.out _).mono ?_
  rintro e w2 ⟨rfl, hb⟩
  have HB2 := Lib.hid (HB1.out.trans (hb.mono HB1.out.size))
  obtain ⟨c2, f2⟩ := bcell hb
  have z2a : w.heap.size + 1 < w2.heap.size := by have := hb.size; (try simp at this); omega
  have HA2 := Lib.hid (HA1.out.next hb)
  have HX2 := Lib.hid (HX1.out.next hb)
  clear hb
  go_wp2_with fail
  refine (HP2.out _).mono ?_
  rintro e w3 ⟨rfl, hb⟩
  have HB3 := Lib.hid (HB2.out.trans (hb.mono HB2.out.size))
  obtain ⟨c3, f3⟩ := bcell hb
  have z3a : w.heap.size + 1 < w3.heap.size := by have := hb.size; (try simp at this); omega
  have HA3 := Lib.hid (HA2.out.next hb)
  have HX3 := Lib.hid (HX2.out.next hb)
  clear hb
  go_wp2_with fail
  clear c1 f1 c2 f2 c3 f3
  refine (HPk.out _).mono ?_
  rintro e wp ⟨rfl, rfl⟩
  go_wp2_with (first | (refine wpList_bytes bt _ rfl _ rfl X rfl (by unfold maxLen; omega) ?_; intro cap w4 hrow hb4 _ _ _; have HA4 := Lib.hid (HA3.out.next hb4); have HX4 := Lib.hid (HX3.out.next hb4); have HB4 := Lib.hid (HB3.out.trans (hb4.mono HB3.out.size)); have hcell := row_cell hrow HCc.out; have hfree := hrow.free q (by rw [bs_length]; omega); have hcv := bt.conv_row (hrow.set (k := q) (by rw [bs_length]; omega) (tog c j)) 12 cap (by rw [List.length_set, bs_length, hXs]); rw [← HVt.out, ← HZ.out] at hcv; clear hrow hb4) | (go_at_call 10; refine (HRd.out _).mono ?_; rintro e w5 ⟨rfl, hb⟩; have HA5 := (HA4.out.setOther (by omega) _).next hb; have HX5 := (HX4.out.setOther (by omega) _).next hb; obtain ⟨⟨ca0, ca1, ca2, ca3, ca4, ca5, ca6, ca7, ca8, ca9, ca10, ca11, ca12, ca13⟩, _⟩ := hd_cells HA5; obtain ⟨⟨cb0, cb1, cb2, cb3, cb4, cb5, cb6, cb7, cb8, cb9, cb10, cb11, cb12, cb13⟩, _⟩ := hd_cells HX5; have z5a := HA5.lt; have z5b := HX5.lt; have HB5 := Lib.hid ((HB4.out.setCell (by simp; omega) _).trans (hb.mono (by have := HB4.out.size; simp; omega))); clear hb HA5 HX5 hcell hfree hcv))
  go_ret
  exact ⟨rfl, HB5.out.alloc HB5.out.size _⟩
theorem HeaderUnlike_walk (v0 v1 : Value) (a2 : Int) (w2 : (Lit.int .i64 a2).wf = true) (w : World) (L0 : Hd) (hrow0 : v0 = hv L0 ∧ L0.fits) (L1 : Hd) (hrow1 : v1 = hv L1 ∧ L1.fits) :
    Calls Try.prog 8 #[v0, v1, .int .i64 a2] w fun e w' => e = .returned (.bool true) ∧ Below w.heap.size w w' := by
  obtain ⟨rfl, f0⟩ := hrow0
  obtain ⟨rfl, f1⟩ := hrow1
  rcases ha : mayB L0 with _ | _
  · exact hun_a L0 L1 a2 w f0.id f1.id ha
  rcases hb : mayB L1 with _ | _
  · exact hun_b L0 L1 a2 w f0.id f1.id ha hb
  obtain ⟨n, hn⟩ := Int.eq_ofNat_of_zero_le (pick_range (i := a2) (n := 96) (by decide)).1
  by_cases h3 : n / 8 = 3
  · by_cases h6 : n % 8 = 6
    · exact hun_e L0 L1 a2 w f0.id f1.id ha hb n hn ⟨h3, h6⟩
    · exact hun_d L0 L1 a2 w f0.id f1.id ha hb n hn ⟨h3, h6⟩
  · exact hun_c L0 L1 a2 w f0.id f1.id ha hb n hn h3
end Go.Proofs.Ytjedfgflkhchiaa
