/-
  Numbers read by sixteen: the walk of strconv.ParseUint at base 16, at most four digits, and of addr.hexadecimal, digit, group. Conditions: as each theorem names them.
-/
import Derived.Test.YtpmlldgjbmingaaGreatDoorZk21
import Derived.IntWalk
import Derived.Laws.BitsAllLaws
namespace Go.Proofs.YtpmlldgjbmingaaGreatDoor
open Go.RowKit
set_option linter.unusedVariables false

/-- A letter's small form. -/
def low (c : UInt8) : Nat := c.toNat ||| 32
theorem hx_all : ∀ k : Fin 256, let c := UInt8.ofNat k.val;
    (48 ≤ c.toNat ∧ c.toNat ≤ 57 ∧ hxv c = some (c.toNat - 48)) ∨ ((c.toNat < 48 ∨ 57 < c.toNat) ∧ 97 ≤ low c ∧ low c ≤ 102 ∧ c.toNat ≠ 95 ∧ hxv c = some (low c - 87)) ∨
    ((c.toNat < 48 ∨ 57 < c.toNat) ∧ 103 ≤ low c ∧ low c ≤ 122 ∧ c.toNat ≠ 95 ∧ hxv c = none) ∨ ((c.toNat < 48 ∨ 57 < c.toNat) ∧ (low c < 97 ∨ 122 < low c) ∧ hxv c = none) := by decide +kernel
theorem hx_cases (c : UInt8) : (48 ≤ c.toNat ∧ c.toNat ≤ 57 ∧ hxv c = some (c.toNat - 48)) ∨ ((c.toNat < 48 ∨ 57 < c.toNat) ∧ 97 ≤ low c ∧ low c ≤ 102 ∧ c.toNat ≠ 95 ∧ hxv c = some (low c - 87)) ∨
    ((c.toNat < 48 ∨ 57 < c.toNat) ∧ 103 ≤ low c ∧ low c ≤ 122 ∧ c.toNat ≠ 95 ∧ hxv c = none) ∨ ((c.toNat < 48 ∨ 57 < c.toNat) ∧ (low c < 97 ∨ 122 < low c) ∧ hxv c = none) := by
  have := hx_all ⟨c.toNat, c.toNat_lt⟩
  simpa using this
theorem low_bits (c : UInt8) : bits BinOp.or IntKind.u8 (c.toNat : Int) 32 = (low c : Int) := u8_or_nat c.toNat 32 c.toNat_lt (by decide)
theorem hxF_cons (a : Nat) (c : UInt8) (r : List UInt8) : hxF a (c :: r) = match hxv c with | none => none | some d => hxF (a * 16 + d) r := rfl
theorem hxv_lt {c : UInt8} {d : Nat} (h : hxv c = some d) : d < 16 := by
  rcases hx_cases c with ⟨h1, h2, h3⟩ | ⟨_, h1, h2, _, h3⟩ | ⟨_, _, _, _, h3⟩ | ⟨_, _, h3⟩
  · rw [h] at h3; injection h3 with h3; omega
  · rw [h] at h3; injection h3 with h3; omega
  · rw [h] at h3; cases h3
  · rw [h] at h3; cases h3
/-- What internal ParseUint answers. -/
def pu16 (s : List UInt8) : Value := match hxF 0 s with
  | some n => .tuple #[.int .u64 n, .nilIface]
  | none => .tuple #[.int .u64 0, .iface 174 (.int .i64 2)]
def PuRel (s : ByteArray) (w : World) (g : Nat) (i n u : Value) (wr : World) : Prop :=
  ∃ k v : Nat, u = .bool false ∧ i = .int .i64 k ∧ k ≤ s.size ∧ n = .int .u64 v ∧ v < 16 ^ k ∧ hxF 0 (bs s) = hxF v ((bs s).drop k) ∧ Row wr g (bs s) ∧ Below w.heap.size w wr
theorem pow16k {k : Nat} (h : k ≤ 3) : 16 ^ k ≤ 4096 := Nat.le_trans (Nat.pow_le_pow_right (by decide) h) (by decide)
theorem hxF_some {v : Nat} {c : UInt8} {r : List UInt8} {d : Nat} (h : hxv c = some d) : hxF v (c :: r) = hxF (v * 16 + d) r := by rw [hxF_cons, h]
theorem hxF_none {v : Nat} {c : UInt8} {r : List UInt8} (h : hxv c = none) : hxF v (c :: r) = none := by rw [hxF_cons, h]
theorem pu16_none {s : List UInt8} (h : hxF 0 s = none) : pu16 s = .tuple #[.int .u64 0, .iface 174 (.int .i64 2)] := by unfold pu16; rw [h]
theorem pu16_some {s : List UInt8} {n : Nat} (h : hxF 0 s = some n) : pu16 s = .tuple #[.int .u64 n, .nilIface] := by unfold pu16; rw [h]
set_option maxHeartbeats 4000000 in
set_option maxRecDepth 6000 in
theorem iParse16 (s : ByteArray) (w : World) (hs : s.size ≤ 4) (h0 : bs s ≠ []) :
    Calls Tryz.prog 146 #[.string s, .int .i64 16, .int .i64 16] w fun e w' => e = .returned (pu16 (bs s)) ∧ Below w.heap.size w w' := by
  have HM : Hid (s.size ≤ maxLen) := Lib.hid (by unfold maxLen; omega)
  have hne : s.toList.isEmpty = false := by rw [bs_toList]; cases h : bs s <;> simp_all
  have HLo := Lib.hid (fun (c : UInt8) (wx : World) => Tryz.internal_strconv_lower c.toNat wx)
  clear h0
  go_enter Tryz.func146, Tryz.ntmps146
  go_wp2_with (first | (refine wpList_bytes bt _ rfl _ rfl s rfl HM.out ?_; intro cap w1 hrow hb1 _ _ _; have HR0 : Hid (PuRel s w w.heap.size (.int .i64 0) (.int .u64 0) (.bool false) w1) := Lib.hid ⟨0, 0, rfl, rfl, Nat.zero_le _, rfl, by decide, rfl, hrow, hb1⟩; clear hrow hb1) | fail)
  go_loopw [101, 13, 12] (fun i n u wr => PuRel s w w.heap.size i n u wr) (fun i _ _ _ => s.size - (intOf i).toNat)
  case atStart => exact HR0.out
  case round =>
    clear HR0
    obtain ⟨k, v, rfl, rfl, hk, rfl, hv, hx, hrow, hb⟩ := hrel
    rcases Nat.lt_or_ge k s.size with hlt | hge
    · have hcell : wr.cell? ⟨w.heap.size, k, none⟩ = some (.int .u8 (s[k].toNat : Int)) := hrow.cell k (by rw [bs_length]; exact hlt)
      have hp := pow16k (show k ≤ 3 by omega)
      rw [drop_at s k hlt] at hx
      have HR := Lib.hid hrow
      have HB := Lib.hid hb
      have hlb := low_bits s[k]
      have hcs := hx_cases s[k]
      have HL := Lib.hid (fun wx => HLo.out s[k] wx)
      rw [hlb] at HL
      have h256 := s[k].toNat_lt
      have hv4 : v < 4096 := by omega
      obtain ⟨c, hc⟩ : ∃ c, c = s[k].toNat := ⟨_, rfl⟩
      obtain ⟨lw, hlw⟩ : ∃ lw, lw = low s[k] := ⟨_, rfl⟩
      rw [← hlw] at HL
      rw [← hlw, ← hc] at hcs
      rw [← hc] at hcell h256 HL
      clear hrow hb hlb hlw hc
      have HV := Lib.hid hv
      clear hp hv
      have HX := Lib.hid hx
      clear hx
      rcases hcs with ⟨h1, h2, h3⟩ | ⟨h1, h2, h3, h4, h5⟩ | ⟨h1, h2, h3, h4, h5⟩ | ⟨h1, h2, h5⟩
      · have HD := Lib.hid h3
        clear h3
        have h95 : ((c : Int) == 95) = false := by simp; omega
        have hw1 : IntKind.u8.wrap ((c : Int) - 48) = (c : Int) - 48 := IntWalk.u8_in _ (by omega)
        have hd16 : ¬ ((16 : Int) ≤ (c : Int) - 48) := by omega
        have hcut : ¬ ((1152921504606846976 : Int) ≤ (v : Int)) := by omega
        have hw2 : IntKind.u64.wrap ((v : Int) * 16) = (v : Int) * 16 := IntWalk.u64_in _ (by omega)
        have hw3 : IntKind.u64.wrap ((v : Int) * 16 + ((c : Int) - 48)) = (v : Int) * 16 + ((c : Int) - 48) := IntWalk.u64_in _ (by omega)
        have hw4 : IntKind.u64.wrap ((c : Int) - 48) = (c : Int) - 48 := IntWalk.u64_in _ (by omega)
        have hlt1 : ¬ ((v : Int) * 16 + ((c : Int) - 48) < (v : Int) * 16) := by omega
        have hlt2 : ¬ ((65535 : Int) < (v : Int) * 16 + ((c : Int) - 48)) := by omega
        go_wp2
        go_roundw
        case rel =>
          refine ⟨k + 1, v * 16 + (c - 48), rfl, by go_num, by omega, ?_, ?_, ?_, HR.out, HB.out⟩
          · congr 1
            omega
          · have := HV.out
            rw [Nat.pow_succ]
            omega
          · rw [HX.out, hxF_some HD.out]
        case measure => simp [intOf]; omega
      · have HD := Lib.hid h5
        clear h5
        have h95 : ((c : Int) == 95) = false := by simp; omega
        have hw1 : IntKind.u8.wrap ((lw : Int) - 97) = (lw : Int) - 97 := IntWalk.u8_in _ (by omega)
        have hw1b : IntKind.u8.wrap ((lw : Int) - 97 + 10) = (lw : Int) - 97 + 10 := IntWalk.u8_in _ (by omega)
        have hdd : (lw : Int) - 97 + 10 = ((lw - 87 : Nat) : Int) := by omega
        obtain ⟨d, hd⟩ : ∃ d, d = lw - 87 := ⟨_, rfl⟩
        rw [← hd] at HD hdd
        have hd15 : d ≤ 15 := by omega
        clear hd
        have hd16 : ¬ ((16 : Int) ≤ (d : Int)) := by omega
        have hcut : ¬ ((1152921504606846976 : Int) ≤ (v : Int)) := by omega
        have hw2 : IntKind.u64.wrap ((v : Int) * 16) = (v : Int) * 16 := IntWalk.u64_in _ (by omega)
        have hw3 : IntKind.u64.wrap ((v : Int) * 16 + ((d : Int))) = (v : Int) * 16 + ((d : Int)) := IntWalk.u64_in _ (by omega)
        have hw4 : IntKind.u64.wrap ((d : Int)) = (d : Int) := IntWalk.u64_in _ (by omega)
        have hlt1 : ¬ ((v : Int) * 16 + ((d : Int)) < (v : Int) * 16) := by omega
        have hlt2 : ¬ ((65535 : Int) < (v : Int) * 16 + ((d : Int))) := by omega
        have hl1 : (97 : Int) ≤ lw := by omega
        have hl2 : (lw : Int) ≤ 122 := by omega
        rcases h1 with h1 | h1
        all_goals
          go_upto_region 46 with (first | (go_at_call 159; (with_reducible refine (HL.out _).mono ?_); rintro e w' ⟨rfl, rfl⟩) | fail)
          clear hdd hw1 hw1b hl1 hl2 h1 h2 h3 HL h95 h4
          clear hlt1 hlt2 hcut
          go_upto_region 48 with (fail)
          have hcut : ¬ ((1152921504606846976 : Int) ≤ (v : Int)) := by omega
          have hlt1 : ¬ ((v : Int) * 16 + (d : Int) < (v : Int) * 16) := by omega
          have hlt2 : ¬ ((65535 : Int) < (v : Int) * 16 + (d : Int)) := by omega
          go_wp2
          go_roundw
          case rel =>
            refine ⟨k + 1, v * 16 + d, rfl, by go_num, by omega, ?_, ?_, ?_, HR.out, HB.out⟩
            · first | rfl | (congr 1; omega)
            · have := HV.out
              rw [Nat.pow_succ]
              omega
            · rw [HX.out, hxF_some HD.out]
          case measure => simp [intOf]; omega
      · have HD := Lib.hid h5
        clear h5
        have h95 : ((c : Int) == 95) = false := by simp; omega
        have hw1 : IntKind.u8.wrap ((lw : Int) - 97) = (lw : Int) - 97 := IntWalk.u8_in _ (by omega)
        have hw1b : IntKind.u8.wrap ((lw : Int) - 97 + 10) = (lw : Int) - 97 + 10 := IntWalk.u8_in _ (by omega)
        have hd16 : (16 : Int) ≤ (lw : Int) - 97 + 10 := by omega
        have HP := Lib.hid (pu16_none (s := bs s) (by rw [HX.out, hxF_none HD.out]))
        rcases h1 with h1 | h1
        all_goals
          go_wp2_with (first | (go_at_call 159; (with_reducible refine (HL.out _).mono ?_); rintro e w' ⟨rfl, rfl⟩) | fail)
          go_ret2
          exact ⟨by rw [HP.out]; rfl, HB.out⟩
      · have HP := Lib.hid (pu16_none (s := bs s) (by rw [HX.out, hxF_none h5]))
        clear h5
        by_cases h95 : c = 95
        · have HL95 : Hid (∀ wx, Calls Tryz.prog 159 #[.int .u8 95] wx fun e w' => e = .returned (.int .u8 (lw : Int)) ∧ w' = wx) := Lib.hid (fun wx => by have := HL.out wx; rw [h95] at this; exact this)
          have h95' : ((c : Int) == 95) = true := by simp; omega
          rcases h2 with h2 | h2
          all_goals
            go_wp2_with (first | (go_at_call 159; (with_reducible refine (HL95.out _).mono ?_); rintro e w' ⟨rfl, rfl⟩) | fail)
            go_ret2
            exact ⟨by rw [HP.out]; rfl, HB.out⟩
        · have h95' : ((c : Int) == 95) = false := by simp; omega
          rcases h1 with h1 | h1 <;> rcases h2 with h2 | h2
          all_goals
            go_wp2_with (first | (go_at_call 159; (with_reducible refine (HL.out _).mono ?_); rintro e w' ⟨rfl, rfl⟩) | fail)
            go_ret2
            exact ⟨by rw [HP.out]; rfl, HB.out⟩
    · obtain rfl : k = s.size := by omega
      rw [drop_end s s.size (Nat.le_refl _)] at hx
      have HP := Lib.hid (pu16_some (s := bs s) (n := v) (by rw [hx]; rfl))
      have HB := Lib.hid hb
      clear hx hrow hb
      go_wp2
      go_ret2
      exact ⟨by rw [HP.out]; rfl, HB.out⟩
end Go.Proofs.YtpmlldgjbmingaaGreatDoor
