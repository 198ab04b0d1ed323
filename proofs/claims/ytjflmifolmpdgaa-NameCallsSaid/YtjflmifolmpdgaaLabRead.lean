/-
  What label's readers of one octet answer: the walks. Condition: the string is no longer than Go's own limit.
-/
import Derived.Test.YtjflmifolmpdgaaProg
import Derived.Test.YtjflmifolmpdgaaKit
import Derived.Test.YtjflmifolmpdgaaLabMath
import Derived.Handy
namespace Go.Proofs.Ytjflmifolmpdgaa
open Go.RowKit

theorem bt : BT Try.prog 5 45 9 := ⟨Try.underlying5, Try.underlying45, Try.underlying9, by kernel_rfl⟩

theorem dg_yes {c : UInt8} (h : dg c = true) : 48 ≤ c.toNat ∧ c.toNat ≤ 57 := by simpa [dg] using h
theorem dg_no {c : UInt8} (h : dg c = false) : 48 ≤ c.toNat → 57 < c.toNat := by simpa [dg] using h
theorem vis_yes {c : UInt8} (h : vis c = true) : 33 ≤ c.toNat ∧ c.toNat ≤ 126 := by simpa [vis] using h
theorem vis_no {c : UInt8} (h : vis c = false) : 33 ≤ c.toNat → 126 < c.toNat := by simpa [vis] using h

theorem isDigit_yes (c : UInt8) (w : World) (h : dg c = true) :
    Calls Try.prog 76 #[.int .u8 c.toNat] w fun e w' => e = .returned (.bool true) ∧ w = w' := by
  have hc := c.toNat_lt
  obtain ⟨h1, h2⟩ := dg_yes h
  clear h
  go_enter Try.func76, Try.ntmps76
  go_wp2
  go_ret
  simp
  omega
theorem isDigit_no (c : UInt8) (w : World) (h : dg c = false) :
    Calls Try.prog 76 #[.int .u8 c.toNat] w fun e w' => e = .returned (.bool false) ∧ w = w' := by
  have hc := c.toNat_lt
  have h1 := dg_no h
  clear h
  go_enter Try.func76, Try.ntmps76
  go_wp2
  all_goals
    go_ret
    simp
    try omega
theorem visible_yes (c : UInt8) (w : World) (h : vis c = true) :
    Calls Try.prog 63 #[.int .u8 c.toNat] w fun e w' => e = .returned (.bool true) ∧ w = w' := by
  have hc := c.toNat_lt
  obtain ⟨h1, h2⟩ := vis_yes h
  clear h
  go_enter Try.func63, Try.ntmps63
  go_wp2
  go_ret
  simp
  omega
theorem visible_no (c : UInt8) (w : World) (h : vis c = false) :
    Calls Try.prog 63 #[.int .u8 c.toNat] w fun e w' => e = .returned (.bool false) ∧ w = w' := by
  have hc := c.toNat_lt
  have h1 := vis_no h
  clear h
  go_enter Try.func63, Try.ntmps63
  go_wp2
  all_goals
    go_ret
    simp
    try omega

/-- What a reader of one octet answers. -/
def Oct (w : World) (c : Int) (n : Int) (er : Int) (e : Ending) (w' : World) : Prop := e = .returned (.tuple #[.int .u8 c, .int .i64 n, .int .i64 er]) ∧ Below w.heap.size w w'

theorem oct_ret {w w' : World} {c c' n n' er : Int} (hc : c = c') (hn : n = n') (hb : Below w.heap.size w w') : Oct w c' n' er (.returned (.tuple #[.int .u8 c, .int .i64 n, .int .i64 er])) w' := by
  subst hc; subst hn; exact ⟨rfl, hb⟩

theorem extract3 (s : ByteArray) (k : Nat) (h : k + 3 ≤ s.size) : bs (s.extract k (k + 3)) = [s[k], s[k + 1], s[k + 2]] := by
  have h1 := drop_at s k (by omega)
  have h2 := drop_at s (k + 1) (by omega)
  have h3 := drop_at s (k + 2) (by omega)
  rw [bs_extract, h1, h2, h3]
  simp
theorem row3 {w : World} {g : Nat} {s : ByteArray} {d e f : UInt8} (h : Row w g (bs s)) (hs : bs s = [d, e, f]) :
    w.cell? ⟨g, 0, none⟩ = some (.int .u8 d.toNat) ∧ w.cell? ⟨g, 1, none⟩ = some (.int .u8 e.toNat) ∧ w.cell? ⟨g, 2, none⟩ = some (.int .u8 f.toNat) := by
  rw [hs] at h
  exact ⟨h.cell 0 (by simp), h.cell 1 (by simp), h.cell 2 (by simp)⟩

set_option maxHeartbeats 400000 in
theorem readDigits_any (s : ByteArray) (k : Nat) (w : World) (hs : s.size ≤ maxLen) (hk : k + 3 ≤ s.size) (d e f : UInt8) (hx : bs (s.extract k (k + 3)) = [d, e, f]) (h : dg d = true ∧ dg e = true ∧ dg f = true ∧ num3 d e f ≤ 255) :
    Calls Try.prog 77 #[.string s, .int .i64 k] w (Oct w (num3 d e f) (k + 3 : Nat) 0) := by
  have hm : (s.extract k (k + 3)).size ≤ maxLen := by rw [ByteArray.size_extract]; unfold maxLen; omega
  have HM := Lib.hid hm
  clear hm
  have hd' := dg_yes h.1
  have he' := dg_yes h.2.1
  have hf' := dg_yes h.2.2.1
  obtain ⟨h1, h2, h3, h4⟩ := h
  unfold num3 at h4 ⊢
  have HX := Lib.hid hx
  clear hx
  unfold maxLen at hs
  go_enter Try.func77, Try.ntmps77
  go_wp2_with (refine wpList_bytes bt _ rfl _ rfl (s.extract k (k + 3)) rfl HM.out ?_; intro cap w1 hr hb _ _ _; obtain ⟨c0, c1, c2⟩ := row3 hr HX.out; clear hr)
  refine wp_loop_rounds 4 ?_
  rw [rounds_succ]
  go_wp2_with (go_at_call 76; refine (isDigit_yes _ _ (by assumption)).mono ?_; rintro e w' ⟨rfl, rfl⟩)
  rw [rounds_succ]
  go_wp2_with (go_at_call 76; refine (isDigit_yes _ _ (by assumption)).mono ?_; rintro e w' ⟨rfl, rfl⟩)
  rw [rounds_succ]
  go_wp2_with (go_at_call 76; refine (isDigit_yes _ _ (by assumption)).mono ?_; rintro e w' ⟨rfl, rfl⟩)
  rw [rounds_succ]
  go_wp2
  go_ret3
  exact oct_ret (by omega) (by omega) hb

theorem readDigits_short (s : ByteArray) (k : Nat) (w : World) (_hs : s.size ≤ maxLen) (hk : k ≤ s.size) (hk' : s.size < k + 3) :
    Calls Try.prog 77 #[.string s, .int .i64 k] w (Oct w 0 0 7) := by
  unfold maxLen at _hs
  go_enter Try.func77, Try.ntmps77
  go_wp2
  go_ret3
  exact oct_ret rfl rfl (Below.refl _ _)

theorem readDigits_no1 (s : ByteArray) (k : Nat) (w : World) (hs : s.size ≤ maxLen) (hk : k + 3 ≤ s.size) (d e f : UInt8) (hx : bs (s.extract k (k + 3)) = [d, e, f]) (h : dg d = false) :
    Calls Try.prog 77 #[.string s, .int .i64 k] w (Oct w 0 0 7) := by
  have hm : (s.extract k (k + 3)).size ≤ maxLen := by rw [ByteArray.size_extract]; unfold maxLen; omega
  have HM := Lib.hid hm
  clear hm
  have HX := Lib.hid hx
  clear hx
  unfold maxLen at hs
  go_enter Try.func77, Try.ntmps77
  go_wp2_with (refine wpList_bytes bt _ rfl _ rfl (s.extract k (k + 3)) rfl HM.out ?_; intro cap w1 hr hb _ _ _; obtain ⟨c0, c1, c2⟩ := row3 hr HX.out; clear hr)
  refine wp_loop_rounds 4 ?_
  rw [rounds_succ]
  go_wp2_with (go_at_call 76; refine (isDigit_no _ _ (by assumption)).mono ?_; rintro e w' ⟨rfl, rfl⟩)
  go_ret3
  exact oct_ret rfl rfl hb

theorem readDigits_no2 (s : ByteArray) (k : Nat) (w : World) (hs : s.size ≤ maxLen) (hk : k + 3 ≤ s.size) (d e f : UInt8) (hx : bs (s.extract k (k + 3)) = [d, e, f]) (h : dg d = true) (h' : dg e = false) :
    Calls Try.prog 77 #[.string s, .int .i64 k] w (Oct w 0 0 7) := by
  have hm : (s.extract k (k + 3)).size ≤ maxLen := by rw [ByteArray.size_extract]; unfold maxLen; omega
  have HM := Lib.hid hm
  clear hm
  have HX := Lib.hid hx
  clear hx
  unfold maxLen at hs
  have hd' := dg_yes h
  go_enter Try.func77, Try.ntmps77
  go_wp2_with (refine wpList_bytes bt _ rfl _ rfl (s.extract k (k + 3)) rfl HM.out ?_; intro cap w1 hr hb _ _ _; obtain ⟨c0, c1, c2⟩ := row3 hr HX.out; clear hr)
  refine wp_loop_rounds 4 ?_
  rw [rounds_succ]
  go_wp2_with (go_at_call 76; refine (isDigit_yes _ _ (by assumption)).mono ?_; rintro e w' ⟨rfl, rfl⟩)
  rw [rounds_succ]
  go_wp2_with (go_at_call 76; refine (isDigit_no _ _ (by assumption)).mono ?_; rintro e w' ⟨rfl, rfl⟩)
  go_ret3
  exact oct_ret rfl rfl hb

theorem readDigits_no3 (s : ByteArray) (k : Nat) (w : World) (hs : s.size ≤ maxLen) (hk : k + 3 ≤ s.size) (d e f : UInt8) (hx : bs (s.extract k (k + 3)) = [d, e, f]) (h : dg d = true) (h' : dg e = true) (h'' : dg f = false) :
    Calls Try.prog 77 #[.string s, .int .i64 k] w (Oct w 0 0 7) := by
  have hm : (s.extract k (k + 3)).size ≤ maxLen := by rw [ByteArray.size_extract]; unfold maxLen; omega
  have HM := Lib.hid hm
  clear hm
  have HX := Lib.hid hx
  clear hx
  unfold maxLen at hs
  have hd' := dg_yes h
  have he' := dg_yes h'
  go_enter Try.func77, Try.ntmps77
  go_wp2_with (refine wpList_bytes bt _ rfl _ rfl (s.extract k (k + 3)) rfl HM.out ?_; intro cap w1 hr hb _ _ _; obtain ⟨c0, c1, c2⟩ := row3 hr HX.out; clear hr)
  refine wp_loop_rounds 4 ?_
  rw [rounds_succ]
  go_wp2_with (go_at_call 76; refine (isDigit_yes _ _ (by assumption)).mono ?_; rintro e w' ⟨rfl, rfl⟩)
  rw [rounds_succ]
  go_wp2_with (go_at_call 76; refine (isDigit_yes _ _ (by assumption)).mono ?_; rintro e w' ⟨rfl, rfl⟩)
  rw [rounds_succ]
  go_wp2_with (go_at_call 76; refine (isDigit_no _ _ (by assumption)).mono ?_; rintro e w' ⟨rfl, rfl⟩)
  go_ret3
  exact oct_ret rfl rfl hb

set_option maxHeartbeats 400000 in
theorem readDigits_big (s : ByteArray) (k : Nat) (w : World) (hs : s.size ≤ maxLen) (hk : k + 3 ≤ s.size) (d e f : UInt8) (hx : bs (s.extract k (k + 3)) = [d, e, f]) (h1 : dg d = true) (h2 : dg e = true) (h3 : dg f = true) (h4 : 255 < num3 d e f) :
    Calls Try.prog 77 #[.string s, .int .i64 k] w (Oct w 0 0 7) := by
  have hm : (s.extract k (k + 3)).size ≤ maxLen := by rw [ByteArray.size_extract]; unfold maxLen; omega
  have HM := Lib.hid hm
  clear hm
  have HX := Lib.hid hx
  clear hx
  unfold maxLen at hs
  have hd' := dg_yes h1
  have he' := dg_yes h2
  have hf' := dg_yes h3
  unfold num3 at h4
  go_enter Try.func77, Try.ntmps77
  go_wp2_with (refine wpList_bytes bt _ rfl _ rfl (s.extract k (k + 3)) rfl HM.out ?_; intro cap w1 hr hb _ _ _; obtain ⟨c0, c1, c2⟩ := row3 hr HX.out; clear hr)
  refine wp_loop_rounds 4 ?_
  rw [rounds_succ]
  go_wp2_with (go_at_call 76; refine (isDigit_yes _ _ (by assumption)).mono ?_; rintro e w' ⟨rfl, rfl⟩)
  rw [rounds_succ]
  go_wp2_with (go_at_call 76; refine (isDigit_yes _ _ (by assumption)).mono ?_; rintro e w' ⟨rfl, rfl⟩)
  rw [rounds_succ]
  go_wp2_with (go_at_call 76; refine (isDigit_yes _ _ (by assumption)).mono ?_; rintro e w' ⟨rfl, rfl⟩)
  rw [rounds_succ]
  go_wp2
  go_ret3
  exact oct_ret rfl rfl hb

theorem take3 (s : ByteArray) (k : Nat) (h : k + 3 ≤ s.size) : ∃ d e f r, (bs s).drop k = d :: e :: f :: r ∧ bs (s.extract k (k + 3)) = [d, e, f] := by
  refine ⟨s[k], s[k + 1], s[k + 2], (bs s).drop (k + 3), ?_, extract3 s k h⟩
  rw [drop_at s k (by omega), drop_at s (k + 1) (by omega), drop_at s (k + 2) (by omega)]

theorem dig3_short {l : List UInt8} (h : l.length < 3) : dig3 l = none := by
  rcases l with _ | ⟨d, _ | ⟨e, _ | ⟨f, r⟩⟩⟩
  · rfl
  · rfl
  · rfl
  · simp at h; omega

/-- What readDigits answers, by what the digits tell. -/
theorem readDigits_calls (s : ByteArray) (k : Nat) (w : World) (hs : s.size ≤ maxLen) (hk : k ≤ s.size) :
    (∀ c, dig3 ((bs s).drop k) = some c → Calls Try.prog 77 #[.string s, .int .i64 k] w (Oct w c.toNat (k + 3 : Nat) 0)) ∧
    (dig3 ((bs s).drop k) = none → Calls Try.prog 77 #[.string s, .int .i64 k] w (Oct w 0 0 7)) := by
  by_cases h3 : s.size < k + 3
  · have hn : dig3 ((bs s).drop k) = none := dig3_short (by rw [List.length_drop, bs_length]; omega)
    exact ⟨fun c hc => (by rw [hn] at hc; cases hc), fun _ => readDigits_short s k w hs hk h3⟩
  · obtain ⟨d, e, f, r, hl, hx⟩ := take3 s k (by omega)
    rw [hl]
    unfold dig3
    cases h1 : dg d
    · exact ⟨fun c hc => (by simp [h1] at hc), fun _ => readDigits_no1 s k w hs (by omega) d e f hx h1⟩
    · cases h2 : dg e
      · exact ⟨fun c hc => (by simp [h2] at hc), fun _ => readDigits_no2 s k w hs (by omega) d e f hx h1 h2⟩
      · cases h3' : dg f
        · exact ⟨fun c hc => (by simp [h3'] at hc), fun _ => readDigits_no3 s k w hs (by omega) d e f hx h1 h2 h3'⟩
        · by_cases h4 : num3 d e f ≤ 255
          · refine ⟨fun c hc => ?_, fun hc => (by simp [h1, h2, h3', h4] at hc)⟩
            simp [h1, h2, h3', h4] at hc
            subst hc
            have := readDigits_any s k w hs (by omega) d e f hx ⟨h1, h2, h3', h4⟩
            rw [UInt8.toNat_ofNat_of_lt' (by show _ < 256; omega)]
            exact this
          · exact ⟨fun c hc => (by simp [h4] at hc), fun _ => readDigits_big s k w hs (by omega) d e f hx h1 h2 h3' (by omega)⟩

/-- What readEscaped answers. -/
theorem readEscaped_some (s : ByteArray) (k : Nat) (w : World) (hs : s.size ≤ maxLen) (hk : k ≤ s.size) (c : UInt8) (n : Nat) (h : esct ((bs s).drop k) = some (c, n)) :
    Calls Try.prog 72 #[.string s, .int .i64 k] w (Oct w c.toNat (k + n - 1 : Nat) 0) := by
  have hlt : k < s.size := by
    rcases Nat.lt_or_ge k s.size with hlt | hge
    · exact hlt
    · rw [drop_end s k hge] at h; cases h
  have HD := Lib.hid (readDigits_calls s k w hs hk).1
  rw [drop_at s k hlt, esct_cons] at h
  have hne : ((k : Int) == (s.size : Int)) = false := by simp; omega
  by_cases hd : dg s[k] = true
  · rw [if_pos hd] at h
    rcases h3 : dig3 (s[k] :: (bs s).drop (k + 1)) with _ | x
    · rw [h3] at h; cases h
    · rw [h3] at h
      simp at h
      obtain ⟨rfl, rfl⟩ := h
      rw [← drop_at s k hlt] at h3
      have HC := Lib.hid (HD.out x h3)
      clear h3 HD
      unfold maxLen at hs
      go_enter Try.func72, Try.ntmps72
      go_wp2_with (first | (go_at_call 76; refine (isDigit_yes _ _ (by assumption)).mono ?_; rintro e w' ⟨rfl, rfl⟩) | (go_at_call 77; refine HC.out.mono ?_; rintro e w' ⟨rfl, hb⟩))
      go_ret3
      exact oct_ret rfl (by omega) hb
  · rw [if_neg hd] at h
    simp at h
    obtain ⟨rfl, rfl⟩ := h
    have hd' : dg s[k] = false := by simpa using hd
    clear HD hd
    unfold maxLen at hs
    go_enter Try.func72, Try.ntmps72
    go_wp2_with (go_at_call 76; refine (isDigit_no _ _ (by assumption)).mono ?_; rintro e w' ⟨rfl, rfl⟩)
    go_ret3
    exact oct_ret rfl (by omega) (Below.refl _ _)
theorem readEscaped_none (s : ByteArray) (k : Nat) (w : World) (hs : s.size ≤ maxLen) (hk : k ≤ s.size) (h : esct ((bs s).drop k) = none) :
    Calls Try.prog 72 #[.string s, .int .i64 k] w (Oct w 0 0 7) := by
  rcases Nat.lt_or_ge k s.size with hlt | hge
  · have HD := Lib.hid (readDigits_calls s k w hs hk).2
    rw [drop_at s k hlt, esct_cons] at h
    have hne : ((k : Int) == (s.size : Int)) = false := by simp; omega
    by_cases hd : dg s[k] = true
    · rw [if_pos hd] at h
      rcases h3 : dig3 (s[k] :: (bs s).drop (k + 1)) with _ | x
      · rw [← drop_at s k hlt] at h3
        have HC := Lib.hid (HD.out h3)
        clear h3 HD h
        unfold maxLen at hs
        go_enter Try.func72, Try.ntmps72
        go_wp2_with (first | (go_at_call 76; refine (isDigit_yes _ _ (by assumption)).mono ?_; rintro e w' ⟨rfl, rfl⟩) | (go_at_call 77; refine HC.out.mono ?_; rintro e w' ⟨rfl, hb⟩))
        go_ret3
        exact oct_ret rfl rfl hb
      · rw [h3] at h
        cases h
    · rw [if_neg hd] at h
      cases h
  · obtain rfl : k = s.size := by omega
    have hne : ((s.size : Int) == (s.size : Int)) = true := by simp
    clear h hk hge
    unfold maxLen at hs
    go_enter Try.func72, Try.ntmps72
    go_wp2
    go_ret3
    exact oct_ret rfl rfl (Below.refl _ _)

/-- What readOctet answers. -/
theorem readOctet_some (s : ByteArray) (k : Nat) (w : World) (hs : s.size ≤ maxLen) (hk : k < s.size) (c : UInt8) (n : Nat) (h : oct ((bs s).drop k) = some (c, n)) :
    Calls Try.prog 61 #[.string s, .int .i64 k] w (Oct w c.toNat (k + n : Nat) 0) := by
  rw [drop_at s k hk, oct_cons] at h
  by_cases h92 : s[k].toNat = 92
  · rw [if_pos h92] at h
    have HC := Lib.hid (readEscaped_some s (k + 1) w hs (by omega) c n h)
    have hb92 : ((s[k].toNat : Int) == 92) = true := by simp; omega
    clear h h92
    unfold maxLen at hs
    go_enter Try.func61, Try.ntmps61
    go_wp2_with (go_at_call 72; refine HC.out.mono ?_; rintro e w' ⟨rfl, hb⟩)
    go_ret3
    exact oct_ret rfl (by omega) hb
  · rw [if_neg h92] at h
    have hb92 : ((s[k].toNat : Int) == 92) = false := by simp; omega
    by_cases hv : vis s[k] = true
    · rw [if_pos hv] at h
      simp at h
      obtain ⟨rfl, rfl⟩ := h
      clear h92
      unfold maxLen at hs
      go_enter Try.func61, Try.ntmps61
      go_wp2_with (go_at_call 63; refine (visible_yes _ _ (by assumption)).mono ?_; rintro e w' ⟨rfl, rfl⟩)
      go_ret3
      exact oct_ret rfl (by omega) (Below.refl _ _)
    · rw [if_neg hv] at h
      cases h
theorem readOctet_none (s : ByteArray) (k : Nat) (w : World) (hs : s.size ≤ maxLen) (hk : k < s.size) (h : oct ((bs s).drop k) = none) :
    Calls Try.prog 61 #[.string s, .int .i64 k] w (Oct w 0 0 7) := by
  rw [drop_at s k hk, oct_cons] at h
  by_cases h92 : s[k].toNat = 92
  · rw [if_pos h92] at h
    have HC := Lib.hid (readEscaped_none s (k + 1) w hs (by omega) h)
    have hb92 : ((s[k].toNat : Int) == 92) = true := by simp; omega
    clear h h92
    unfold maxLen at hs
    go_enter Try.func61, Try.ntmps61
    go_wp2_with (go_at_call 72; refine HC.out.mono ?_; rintro e w' ⟨rfl, hb⟩)
    go_ret3
    exact oct_ret rfl rfl hb
  · rw [if_neg h92] at h
    have hb92 : ((s[k].toNat : Int) == 92) = false := by simp; omega
    by_cases hv : vis s[k] = true
    · rw [if_pos hv] at h
      cases h
    · have hv' : vis s[k] = false := by simpa using hv
      clear h hv h92
      unfold maxLen at hs
      go_enter Try.func61, Try.ntmps61
      go_wp2_with (go_at_call 63; refine (visible_no _ _ (by assumption)).mono ?_; rintro e w' ⟨rfl, rfl⟩)
      go_ret3
      exact oct_ret rfl rfl (Below.refl _ _)
end Go.Proofs.Ytjflmifolmpdgaa
