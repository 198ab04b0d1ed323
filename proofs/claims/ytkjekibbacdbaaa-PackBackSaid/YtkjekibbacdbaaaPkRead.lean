/-
  What nameplatelaw07.read answers at a place where a name is read by steps: the walk. Conditions: as the theorem names them.
-/
import Derived.Test.YtkjekibbacdbaaaPkGrow
import Derived.Test.YtkjekibbacdbaaaPkLives
namespace Go.Proofs.Ytkjekibbacdbaaa
open Go.RowKit
set_option linter.unusedVariables false

theorem Rds.pos {l : List UInt8} {a : Nat} {r : List UInt8} {e n : Nat} (h : Rds l a r e n) : 1 ≤ n := by cases h <;> omega
theorem byte_at {S : ByteArray} {a : Nat} {c : UInt8} (h : (bs S)[a]? = some c) : ∃ h' : a < S.size, S[a] = c := by
  obtain ⟨h1, h2⟩ := List.getElem?_eq_some_iff.1 h
  exact ⟨by rw [← bs_length]; exact h1, h2⟩
def RdRel (S : ByteArray) (r : List UInt8) (e : Nat) (va vo ve vn : Value) : Prop :=
  ∃ (a k n : Nat) (pre : ByteArray) (r' : List UInt8) (e' : Nat), va = .int .i64 a ∧ vn = .int .i64 k ∧ vo = .string pre ∧ bs pre ++ r' = r ∧ pre.size ≤ 65535 * k ∧ Rds (bs S) a r' e' n ∧ k + n ≤ 400 ∧ ((ve = .int .i64 (-1) ∧ e' = e) ∨ ve = .int .i64 e)
set_option maxHeartbeats 2000000 in
set_option maxRecDepth 100000 in
theorem read_any (S : ByteArray) (a : Nat) (r : List UInt8) (R : ByteArray) (e n : Nat) (h : Rds (bs S) a r e n) (hR : bs R = r) (hn : n ≤ 400) (hs : S.size ≤ 65535) (w : World) :
    Calls Try.prog 12 #[.string S, .int .i64 a] w fun e' w' => e' = .returned (.tuple #[.string R, .int .i64 e, .bool true]) ∧ w = w' := by
  have HR := Lib.hid hR
  have H0 := Lib.hid h
  clear h hR
  go_enter Try.func12, Try.ntmps12
  go_wp2
  go_loop [1, 7, 8, 9] (fun va vo ve vn => RdRel S r e va vo ve vn) (fun _ _ _ vn => 400 - (intOf vn).toNat)
  case atStart => exact ⟨a, 0, n, ⟨#[]⟩, r, e, rfl, rfl, rfl, rfl, Nat.zero_le _, H0.out, by omega, .inl ⟨rfl, rfl⟩⟩
  case round =>
    obtain ⟨a, k, n, pre, r', e', rfl, rfl, rfl, hpr, hpl, hrd, hkn, hve⟩ := hrel
    have hpos := hrd.pos
    have HPR := Lib.hid hpr
    clear hpr
    have hpz : pre.size ≤ 65535 * 400 := Nat.le_trans hpl (Nat.mul_le_mul_left _ (by omega))
    cases hrd with
    | nil h =>
      obtain ⟨hlt, hc⟩ := byte_at h
      have HE : Hid (R = pre) := Lib.hid (bs_inj (by rw [HR.out, ← HPR.out]; simp))
      clear h
      rcases hve with ⟨rfl, rfl⟩ | rfl
      · go_wp2
        go_ret3
        rw [HE.out]
        exact ⟨rfl, rfl⟩
      · have he : ¬ (e : Int) < 0 := by omega
        go_wp2
        go_ret3
        rw [HE.out]
        exact ⟨rfl, rfl⟩
    | @lab _ c x r'' _ n h h1 h2 hx hl hr =>
      obtain ⟨hlt, hc⟩ := byte_at h
      have hle : a + (1 + c.toNat) ≤ S.size := by
        have := congrArg List.length hx
        rw [List.length_take, List.length_drop, bs_length, hl] at this
        omega
      obtain ⟨x1, hx1⟩ : ∃ x1, S.extract a (a + 1 + c.toNat) = x1 := ⟨_, rfl⟩
      have hx1b : bs x1 = x := by rw [← hx1, bs_extract, ← hx]; congr 1; omega
      have hxs : x1.size ≤ 65535 := by rw [← bs_length, hx1b, hl]; omega
      have hcat : ¬ 9223372036854775807 < pre.size + x1.size := by omega
      obtain ⟨p2, hp2⟩ : ∃ p2, pre ++ x1 = p2 := ⟨_, rfl⟩
      have hp2b : bs p2 = bs pre ++ x := by rw [← hp2, bs_append, hx1b]
      have hp2s : p2.size = pre.size + x1.size := by rw [← hp2]; exact ByteArray.size_append
      obtain ⟨a2, ha2⟩ : ∃ a2 : Nat, (a : Int) + 1 + (c.toNat : Int) = (a2 : Int) := ⟨a + 1 + c.toNat, by omega⟩
      have ha2n : a2 = a + (1 + c.toNat) := by omega
      have HRd := Lib.hid hr
      rw [← ha2n] at HRd
      have HVE := Lib.hid hve
      have hc0 : ((c.toNat : Int) == 0) = false := by rw [beq_eq_false_iff_ne]; omega
      have hc64 : decide ((c.toNat : Int) < 64) = true := by simp; omega
      have hk4 : decide ((k : Int) < 400) = true := by simp; omega
      have ha2s : decide ((a2 : Int) ≤ (S.size : Int)) = true := by simp; omega
      have ha2s' : decide (a2 ≤ S.size) = true := by simp; omega
      have ha2t : a2 ≤ S.size := by omega
      have haa : a ≤ a2 := by omega
      have hx1' : S.extract a a2 = x1 := by rw [← hx1, ha2n]; congr 1; omega
      have hrel2 : Hid (∀ ve, ((ve = .int .i64 (-1) ∧ e' = e) ∨ ve = .int .i64 e) → RdRel S r e (.int .i64 a2) (.string p2) ve (.int .i64 ((k : Int) + 1))) := Lib.hid fun ve hv => ⟨a2, k + 1, n, p2, r'', _, rfl, by go_num, rfl, by rw [hp2b, List.append_assoc]; exact HPR.out, by omega, HRd.out, by omega, hv⟩
      clear h hx hl hr hx1 hx1b hp2b hp2s ha2n
      rcases hve with ⟨rfl, rfl⟩ | rfl
      · go_wp2
        go_round
        case rel => exact hrel2.out _ HVE.out
        case measure => simp [intOf]; omega
      · have he : ¬ (e : Int) < 0 := by omega
        go_wp2
        go_round
        case rel => exact hrel2.out _ HVE.out
        case measure => simp [intOf]; omega
    | @ptr _ c d _ e2 n h h1 hd ht hr =>
      obtain ⟨hlt, hc⟩ := byte_at h
      obtain ⟨hlt2, hc2⟩ := byte_at hd
      obtain ⟨b, hb⟩ : ∃ b, 256 * (c.toNat - 192) + d.toNat = b := ⟨_, rfl⟩
      rw [hb] at ht hr
      have hc8 := c.toNat_lt
      have hd8 := d.toNat_lt
      have hbI : 256 * ((c.toNat : Int) - 192) + (d.toNat : Int) = (b : Int) := by omega
      have HRd := Lib.hid hr
      have HVE := Lib.hid hve
      have hc0 : ((c.toNat : Int) == 0) = false := by rw [beq_eq_false_iff_ne]; omega
      have hc64 : decide ((c.toNat : Int) < 64) = false := by simp; omega
      have hc192 : decide ((192 : Int) ≤ (c.toNat : Int)) = true := by simp; omega
      have hk4 : decide ((k : Int) < 400) = true := by simp; omega
      have ha1 : decide ((a : Int) + 1 < (S.size : Int)) = true := by simp; omega
      have hba : decide (a ≤ b) = false := by simp; omega
      have hbi : (0 : Int) ≤ (a : Int) + 1 := by omega
      have hbt : ((a : Int) + 1).toNat = a + 1 := by omega
      have hrel2 : Hid (∀ ve, ve = .int .i64 e → RdRel S r e (.int .i64 b) (.string pre) ve (.int .i64 ((k : Int) + 1))) := Lib.hid fun ve hv => ⟨b, k + 1, n, pre, r', _, rfl, by go_num, rfl, HPR.out, by omega, HRd.out, by omega, .inr hv⟩
      clear h hd hr hb
      rcases hve with ⟨rfl, rfl⟩ | rfl
      · go_wp2
        go_round
        case rel => exact hrel2.out _ (by go_num)
        case measure => simp [intOf]; omega
      · have he : ¬ (e : Int) < 0 := by omega
        go_wp2
        go_round
        case rel => exact hrel2.out _ rfl
        case measure => simp [intOf]; omega
end Go.Proofs.Ytkjekibbacdbaaa
