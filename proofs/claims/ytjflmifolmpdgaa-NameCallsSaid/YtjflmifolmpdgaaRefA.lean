/-
  What the document's own Check, Read answer for layer 1: the walks. Condition: the string is no longer than 2^40 octets.
-/
import Derived.Test.YtjflmifolmpdgaaLabFold
import Derived.Test.YtjflmifolmpdgaaLabUse
import Derived.Deep.QuietTactic
import Derived.BigQuiet
import Derived.IntWalk
namespace Go.Proofs.Ytjflmifolmpdgaa
open Go.RowKit
set_option linter.unusedVariables false

theorem rdigit_yes (c : UInt8) (w : World) (h : dg c = true) :
    Calls Try.prog 75 #[.int .u8 c.toNat] w fun e w' => e = .returned (.bool true) ∧ w = w' := by
  have hc := c.toNat_lt
  obtain ⟨h1, h2⟩ := dg_yes h
  clear h
  go_enter Try.func75, Try.ntmps75
  go_wp2
  go_ret
  simp
  omega
theorem rdigit_no (c : UInt8) (w : World) (h : dg c = false) :
    Calls Try.prog 75 #[.int .u8 c.toNat] w fun e w' => e = .returned (.bool false) ∧ w = w' := by
  have hc := c.toNat_lt
  have h1 := dg_no h
  clear h
  go_enter Try.func75, Try.ntmps75
  go_wp2
  all_goals
    go_ret
    simp
    try omega
theorem rplain_yes (c : UInt8) (w : World) (h : vis c = true) :
    Calls Try.prog 69 #[.int .u8 c.toNat] w fun e w' => e = .returned (.bool true) ∧ w = w' := by
  have hc := c.toNat_lt
  obtain ⟨h1, h2⟩ := vis_yes h
  clear h
  go_enter Try.func69, Try.ntmps69
  go_wp2
  go_ret
  simp
  omega
theorem rplain_no (c : UInt8) (w : World) (h : vis c = false) :
    Calls Try.prog 69 #[.int .u8 c.toNat] w fun e w' => e = .returned (.bool false) ∧ w = w' := by
  have hc := c.toNat_lt
  have h1 := vis_no h
  clear h
  go_enter Try.func69, Try.ntmps69
  go_wp2
  all_goals
    go_ret
    simp
    try omega

theorem rCheck_any (s : ByteArray) (w : World) (hs : s.size ≤ maxLen) :
    Calls Try.prog 54 #[.string s] w fun e w' => e = .returned (.int .i64 (chk (bs s))) ∧ w = w' := by
  have hl : chk (bs s) = if s.size = 0 then 2 else if 63 < s.size then 3 else 0 := by unfold chk; rw [bs_length]
  have hem : s.toList = [] ↔ s.size = 0 := by rw [bs_toList, ← List.length_eq_zero_iff, bs_length]
  unfold maxLen at hs
  by_cases h0 : s.size = 0
  · have HF := Lib.hid (show chk (bs s) = 2 by rw [hl, if_pos h0])
    have he := hem.2 h0
    clear hl hem h0
    go_enter Try.func54, Try.ntmps54
    go_wp2
    go_ret
    exact ⟨by rw [HF.out]; rfl, rfl⟩
  · have he : s.toList.isEmpty = false := by
      cases h : s.toList
      · exact absurd (hem.1 h) h0
      · rfl
    have he2 : ¬ s.toList = [] := fun h => h0 (hem.1 h)
    by_cases h1 : 63 < s.size
    · have HF := Lib.hid (show chk (bs s) = 3 by rw [hl, if_neg h0, if_pos h1])
      clear hl hem h0
      go_enter Try.func54, Try.ntmps54
      go_wp2
      go_ret
      exact ⟨by rw [HF.out]; rfl, rfl⟩
    · have HF := Lib.hid (show chk (bs s) = 0 by rw [hl, if_neg h0, if_neg h1])
      clear hl hem h0
      go_enter Try.func54, Try.ntmps54
      go_wp2
      go_ret
      exact ⟨by rw [HF.out]; rfl, rfl⟩

/-- What the document's reader of one octet answers. -/
def Ro (w : World) (c n : Int) (e : Ending) (w' : World) : Prop := e = .returned (.tuple #[.int .u8 c, .int .i64 n]) ∧ Below w.heap.size w w'
theorem ro_ret {w w' : World} {c c' n n' : Int} (hc : c = c') (hn : n = n') (hb : Below w.heap.size w w') : Ro w c' n' (.returned (.tuple #[.int .u8 c, .int .i64 n])) w' := by
  subst hc; subst hn; exact ⟨rfl, hb⟩

theorem roct_vis (s : ByteArray) (k : Nat) (w : World) (hs : s.size ≤ 1099511627776) (hk : k < s.size) (h92 : s[k].toNat ≠ 92) :
    Calls Try.prog 70 #[.string s, .int .i64 k] w (if vis s[k] = true then Ro w s[k].toNat 1 else Ro w 0 0) := by
  have hb : ((s[k].toNat : Int) != 92) = true := by rw [bne_iff_ne]; omega
  cases hv : vis s[k]
  · simp only [Bool.false_eq_true, if_false]
    go_enter Try.func70, Try.ntmps70
    go_wp2_with (go_at_call 69; refine (rplain_no _ _ hv).mono ?_; rintro e w' ⟨rfl, rfl⟩)
    go_ret2
    exact ro_ret rfl rfl (Below.refl _ _)
  · simp only [if_true]
    go_enter Try.func70, Try.ntmps70
    go_wp2_with (go_at_call 69; refine (rplain_yes _ _ hv).mono ?_; rintro e w' ⟨rfl, rfl⟩)
    go_ret2
    exact ro_ret rfl rfl (Below.refl _ _)

theorem roct_end (s : ByteArray) (k : Nat) (w : World) (hs : s.size ≤ 1099511627776) (hk : k < s.size) (h92 : s[k].toNat = 92) (he : s.size ≤ k + 1) :
    Calls Try.prog 70 #[.string s, .int .i64 k] w (Ro w 0 0) := by
  have hb : ((s[k].toNat : Int) != 92) = false := by rw [bne_eq_false_iff_eq]; omega
  clear h92
  go_enter Try.func70, Try.ntmps70
  go_wp2
  go_ret2
  exact ro_ret rfl rfl (Below.refl _ _)
theorem roct_other (s : ByteArray) (k : Nat) (w : World) (hs : s.size ≤ 1099511627776) (hk : k + 1 < s.size) (h92 : s[k].toNat = 92) (hd : dg s[k + 1] = false) :
    Calls Try.prog 70 #[.string s, .int .i64 k] w (Ro w s[k + 1].toNat 2) := by
  have hb : ((s[k].toNat : Int) != 92) = false := by rw [bne_eq_false_iff_eq]; omega
  clear h92
  go_enter Try.func70, Try.ntmps70
  go_wp2_with (go_at_call 75; refine (rdigit_no _ _ hd).mono ?_; rintro e w' ⟨rfl, rfl⟩)
  go_ret2
  exact ro_ret rfl rfl (Below.refl _ _)
theorem roct_short (s : ByteArray) (k : Nat) (w : World) (hs : s.size ≤ 1099511627776) (hk : k + 1 < s.size) (h92 : s[k].toNat = 92) (hd : dg s[k + 1] = true) (h3 : s.size ≤ k + 3) :
    Calls Try.prog 70 #[.string s, .int .i64 k] w (Ro w 0 0) := by
  have hb : ((s[k].toNat : Int) != 92) = false := by rw [bne_eq_false_iff_eq]; omega
  clear h92
  go_enter Try.func70, Try.ntmps70
  go_wp2_with fail
  refine (rdigit_yes _ _ hd).mono ?_
  rintro e w' ⟨rfl, rfl⟩
  go_wp2
  go_ret2
  exact ro_ret rfl rfl (Below.refl _ _)
theorem roct_no (s : ByteArray) (k : Nat) (w : World) (hs : s.size ≤ 1099511627776) (hk : k + 3 < s.size) (h92 : s[k].toNat = 92) (hd : dg s[k + 1] = true) (h : dg s[k + 2] = false ∨ (dg s[k + 2] = true ∧ dg s[k + 3] = false)) :
    Calls Try.prog 70 #[.string s, .int .i64 k] w (Ro w 0 0) := by
  have hb : ((s[k].toNat : Int) != 92) = false := by rw [bne_eq_false_iff_eq]; omega
  clear h92
  rcases h with h2 | ⟨h2, h3⟩
  · go_enter Try.func70, Try.ntmps70
    go_wp2_with fail
    refine (rdigit_yes _ _ hd).mono ?_
    rintro e w' ⟨rfl, rfl⟩
    go_wp2_with fail
    refine (rdigit_no _ _ h2).mono ?_
    rintro e w' ⟨rfl, rfl⟩
    go_wp2
    go_ret2
    exact ro_ret rfl rfl (Below.refl _ _)
  · go_enter Try.func70, Try.ntmps70
    go_wp2_with fail
    refine (rdigit_yes _ _ hd).mono ?_
    rintro e w' ⟨rfl, rfl⟩
    go_wp2_with fail
    refine (rdigit_yes _ _ h2).mono ?_
    rintro e w' ⟨rfl, rfl⟩
    go_wp2_with fail
    refine (rdigit_no _ _ h3).mono ?_
    rintro e w' ⟨rfl, rfl⟩
    go_wp2
    go_ret2
    exact ro_ret rfl rfl (Below.refl _ _)

theorem below_draws {B0 : Nat} {a w : World} (h : Below B0 a w) (n : Nat) : Below B0 a (w.drewN n) := ⟨h.os, h.tape, h.output, h.size, h.block⟩
set_option maxHeartbeats 1000000 in
theorem roct_num (s : ByteArray) (k : Nat) (w : World) (hs : s.size ≤ 1099511627776) (hk : k + 3 < s.size) (h92 : s[k].toNat = 92) (h1 : dg s[k + 1] = true) (h2 : dg s[k + 2] = true) (h3 : dg s[k + 3] = true) :
    Calls Try.prog 70 #[.string s, .int .i64 k] w (if num3 s[k + 1] s[k + 2] s[k + 3] ≤ 255 then Ro w (num3 s[k + 1] s[k + 2] s[k + 3]) 4 else Ro w 0 0) := by
  have hb : ((s[k].toNat : Int) != 92) = false := by rw [bne_eq_false_iff_eq]; omega
  have d1 := dg_yes h1
  have d2 := dg_yes h2
  have d3 := dg_yes h3
  have i1 : (k : Int) + 1 < s.size := by omega
  have i2 : (k : Int) + 2 < s.size := by omega
  have i3 : (k : Int) + 3 < s.size := by omega
  clear h92
  unfold num3
  split
  all_goals
    go_enter Try.func70, Try.ntmps70
    go_wp2_with fail
    refine (rdigit_yes _ _ h1).mono ?_
    rintro e w' ⟨rfl, rfl⟩
    go_wp2_with fail
    refine (rdigit_yes _ _ h2).mono ?_
    rintro e w' ⟨rfl, rfl⟩
    go_wp2_with fail
    refine (rdigit_yes _ _ h3).mono ?_
    rintro e w' ⟨rfl, rfl⟩
    go_wp2_with fail
    go_quiet (fail)
    go_wp2
    go_ret2
    exact ro_ret (by omega) rfl (below_draws (Below.refl _ _) _)
end Go.Proofs.Ytjflmifolmpdgaa
