/-
  Ranges: heads within heads, places, meeting, nesting: mathematics. Conditions: as each theorem names them. Nothing of any program is named here.
-/
import Derived.Test.YtjadghmanpkgoaaGreatDoorRgDef
namespace Go.Proofs.YtjadghmanpkgoaaGreatDoor
open Go.RowKit
set_option linter.unusedVariables false

theorem cl_cl {j k : Nat} (h : j ≤ k) (x : Nat) : cl k (cl j x) = cl k x := by
  unfold cl
  obtain ⟨d, rfl⟩ : ∃ d, k = j + d := ⟨k - j, by omega⟩
  rw [Nat.pow_add, ← Nat.div_div_eq_div_mul, ← Nat.div_div_eq_div_mul, Nat.mul_div_cancel _ (Nat.two_pow_pos j)]
theorem cl_idem (k x : Nat) : cl k (cl k x) = cl k x := cl_cl (Nat.le_refl k) x
/-- Less than the bits that were struck behind. -/
theorem cl_add {k x j : Nat} (h : cl k x = x) (hj : j < 2 ^ k) : cl k (x + j) = x := by
  unfold cl at h ⊢
  rw [← h, Nat.add_comm, Nat.add_mul_div_right _ _ (Nat.two_pow_pos k), Nat.div_eq_of_lt hj, Nat.zero_add]
theorem cl_room {k W x : Nat} (h : cl k x = x) (hk : k ≤ W) (hx : x < 2 ^ W) : x + 2 ^ k ≤ 2 ^ W := by
  obtain ⟨d, rfl⟩ : ∃ d, W = k + d := ⟨W - k, by omega⟩
  unfold cl at h
  rw [Nat.pow_add, Nat.mul_comm (2 ^ k)] at hx ⊢
  have h1 : x / 2 ^ k < 2 ^ d := Nat.div_lt_of_lt_mul (by rw [Nat.mul_comm]; exact hx)
  have h2 : (x / 2 ^ k + 1) * 2 ^ k ≤ 2 ^ d * 2 ^ k := Nat.mul_le_mul_right _ h1
  rw [Nat.add_mul, Nat.one_mul, h] at h2
  exact h2
theorem kH_mono {six : Bool} {m n : Nat} (h : m ≤ n) : kH six n ≤ kH six m := by unfold kH; split <;> omega
theorem kL_mono {six : Bool} {m n : Nat} (h : m ≤ n) : kL six n ≤ kL six m := by unfold kL; (repeat' split) <;> omega
theorem head_head {six : Bool} {m n : Nat} (h : m ≤ n) (a : Ad) : headR six m (headR six n a) = headR six m a := by
  unfold headR
  simp only [cl_cl (kH_mono h), cl_cl (kL_mono h)]
theorem head_kind (six : Bool) (n : Nat) (a : Ad) : (headR six n a).1 = a.1 := rfl
/-- What a range that may be is. -/
theorem chkR_yes {r : Ad} {n : Int} (h : chkR r n = 0) : chkA r = 0 ∧ ∃ b : Nat, n = b ∧ b ≤ widA r.1 ∧ headR r.1 b r = r := by
  unfold chkR at h
  split at h
  · cases h
  · rename_i hn
    simp only [not_or, Decidable.not_not] at hn
    obtain ⟨h1, h2, h3, h4⟩ := hn
    exact ⟨h1, n.toNat, by omega, by omega, h4⟩
theorem chkR_mk {r : Ad} {b : Nat} (h1 : chkA r = 0) (h2 : b ≤ widA r.1) (h3 : headR r.1 b r = r) : chkR r b = 0 := by
  unfold chkR
  rw [if_neg]
  simp only [not_or, Decidable.not_not]
  refine ⟨h1, by omega, by omega, ?_⟩
  rw [Int.toNat_natCast]
  exact h3
theorem chkR_two {r : Ad} {n : Int} (h : chkR r n ≠ 0) : chkR r n = 2 := by
  unfold chkR at h ⊢
  split at h
  · rw [if_pos (by assumption)]
  · exact absurd rfl h
theorem hasR_iff {r : Ad} {b : Nat} {a : Ad} (h : chkR r b = 0) : hasR r b a = true ↔ chkA a = 0 ∧ headR r.1 b a = r := by
  unfold hasR
  rw [decide_eq_true_iff, Int.toNat_natCast]
  exact ⟨fun x => x.2, fun x => ⟨h, x⟩⟩
theorem hasR_bad {r : Ad} {n : Int} (a : Ad) (h : chkR r n ≠ 0) : hasR r n a = false := by
  unfold hasR
  rw [decide_eq_false_iff_not]
  exact fun x => h x.1
theorem sizeR_yes {r : Ad} {b : Nat} (h : chkR r b = 0) : sizeR r b = 2 ^ min (widA r.1 - b) 16 := by
  unfold sizeR
  rw [if_pos h, Int.toNat_natCast]
theorem kL_min (six : Bool) (b : Nat) : min (widA six - b) 16 ≤ kL six b := by
  unfold widA kL
  (repeat' split) <;> omega
/-- The place j of a range that may be. -/
theorem place {r : Ad} {b : Nat} (hf : fitA r) (h : chkR r b = 0) {j : Nat} (hj : j < sizeR r b) :
    addA r j = ((r.1, r.2.1, r.2.2 + j), true) ∧ fitA (r.1, r.2.1, r.2.2 + j) ∧ chkA (r.1, r.2.1, r.2.2 + j) = 0 ∧ headR r.1 b (r.1, r.2.1, r.2.2 + j) = r ∧ offR r (r.1, r.2.1, r.2.2 + j) = j := by
  rw [sizeR_yes h] at hj
  obtain ⟨hc, b', e, hb, hh⟩ := chkR_yes h
  obtain rfl : b = b' := by omega
  obtain ⟨six, hi, lo⟩ := r
  have hk : cl (kL six b) lo = lo := congrArg (fun x : Ad => x.2.2) hh
  have hkh : cl (kH six b) hi = hi := congrArg (fun x : Ad => x.2.1) hh
  have hj2 : j < 2 ^ kL six b := Nat.lt_of_lt_of_le hj (Nat.pow_le_pow_right (by decide) (kL_min six b))
  have hlo : lo < 18446744073709551616 := hf.2
  have hhi : hi < 18446744073709551616 := hf.1
  have h64 : lo + j < 18446744073709551616 := by
    have := cl_room (W := 64) hk kL_le (by simpa using hlo)
    have e64 : (2 : Nat) ^ 64 = 18446744073709551616 := by decide
    omega
  have hchk : chkA (six, hi, lo + j) = 0 := by
    cases six
    · have hlo32 : hi = 0 ∧ lo < 4294967296 := by
        unfold chkA at hc
        simp only [true_and] at hc
        split at hc
        · cases hc
        · omega
      have := cl_room (W := 32) hk (by unfold kL; simp) (by simpa using hlo32.2)
      have e32 : (2 : Nat) ^ 32 = 4294967296 := by decide
      unfold chkA
      rw [if_neg]
      simp only [true_and]
      omega
    · unfold chkA
      simp
  have hsum : sumA (six, hi, lo) j = (six, hi, lo + j) := by
    unfold sumA
    simp only
    rw [Nat.div_eq_of_lt h64, Nat.add_zero, Nat.mod_eq_of_lt h64, Nat.mod_eq_of_lt hhi]
  refine ⟨?_, ⟨hhi, h64⟩, hchk, ?_, ?_⟩
  · unfold addA
    rw [if_neg (by rw [hc]; decide), if_neg, hsum]
    rw [hsum, hchk]
    simp only [Nat.div_eq_of_lt h64, Nat.add_zero, Nat.div_eq_of_lt hhi]
    simp
  · show (six, cl (kH six b) hi, cl (kL six b) (lo + j)) = (six, hi, lo)
    rw [hkh, cl_add hk hj2]
  · unfold offR
    simp only
    omega
theorem at_place {r : Ad} {b : Nat} (hf : fitA r) (h : chkR r b = 0) {j : Nat} (hj : j < sizeR r b) : atR r b j = ((r.1, r.2.1, r.2.2 + j), true) := by
  unfold atR
  rw [if_neg (by omega), Int.toNat_natCast]
  exact (place hf h hj).1
theorem size_pos {r : Ad} {b : Nat} (h : chkR r b = 0) : 1 ≤ sizeR r b ∧ sizeR r b ≤ 65536 := by
  rw [sizeR_yes h]
  exact ⟨Nat.one_le_two_pow, Nat.pow_le_pow_right (n := 2) (j := 16) (by omega) (Nat.min_le_right _ _)⟩
/-- What has another one's place has its first one, too; the range with fewer bits leads. -/
theorem has_back {a b : Ad} {m n : Nat} (ha : chkR a m = 0) (hb : chkR b n = 0) (hmn : m ≤ n) : hasR b n a = true → hasR a m b = true := by
  intro h
  rw [hasR_iff hb] at h
  rw [hasR_iff ha]
  obtain ⟨hca, m', e, hm, hha⟩ := chkR_yes ha
  obtain rfl : m = m' := by omega
  obtain ⟨hcb, n', e', hn, hhb⟩ := chkR_yes hb
  have hk : a.1 = b.1 := by rw [← h.2]; rfl
  refine ⟨hcb, ?_⟩
  rw [← h.2, ← hk, head_head hmn, hha]
theorem meet_has {a b : Ad} {m n : Nat} (ha : chkR a m = 0) (hb : chkR b n = 0) (hmn : m ≤ n) : meetR a m b n = hasR a m b ∧ meetR b n a m = hasR a m b := by
  have h := has_back ha hb hmn
  unfold meetR
  cases e : hasR a m b <;> cases e' : hasR b n a <;> simp_all
theorem meet_self {a : Ad} {m : Nat} (ha : chkR a m = 0) : meetR a m a m = true := by
  obtain ⟨hca, m', e, hm, hha⟩ := chkR_yes ha
  obtain rfl : m = m' := by omega
  have : hasR a m a = true := (hasR_iff ha).2 ⟨hca, hha⟩
  unfold meetR
  simp [ha, this]
theorem meet_bad {a b : Ad} {m n : Int} (h : chkR a m ≠ 0 ∨ chkR b n ≠ 0) : meetR a m b n = false := by
  unfold meetR
  rw [decide_eq_false_iff_not]
  rintro ⟨h1, h2, _⟩
  rcases h with h | h
  · exact h h1
  · exact h h2
/-- A place of the smaller one is the greater one's just if they meet. -/
theorem has_place {a b : Ad} {m n : Nat} (hf : fitA b) (ha : chkR a m = 0) (hb : chkR b n = 0) (hmn : m ≤ n) {j : Nat} (hj : j < sizeR b n) : hasR a m (b.1, b.2.1, b.2.2 + j) = hasR a m b := by
  obtain ⟨_, _, h3, h4, _⟩ := place hf hb hj
  have hcb := (chkR_yes hb).1
  rw [Bool.eq_iff_iff, hasR_iff ha, hasR_iff ha]
  by_cases hk : a.1 = b.1
  · have e : headR a.1 m (b.1, b.2.1, b.2.2 + j) = headR a.1 m b := by
      conv => rhs; rw [← h4]
      rw [← hk, head_head hmn]
    rw [e]
    exact ⟨fun x => ⟨hcb, x.2⟩, fun x => ⟨h3, x.2⟩⟩
  · constructor
    · rintro ⟨_, h⟩
      exact absurd (congrArg Prod.fst h).symm hk
    · rintro ⟨_, h⟩
      exact absurd (congrArg Prod.fst h).symm hk
/-- A place is found where it is. -/
theorem idx_place {r : Ad} {b : Nat} (hf : fitA r) (h : chkR r b = 0) {j : Nat} (hj : j < sizeR r b) : idxR r b (r.1, r.2.1, r.2.2 + j) = (j, true) := by
  obtain ⟨_, _, h3, h4, h5⟩ := place hf h hj
  have hh : hasR r b (r.1, r.2.1, r.2.2 + j) = true := (hasR_iff h).2 ⟨h3, h4⟩
  unfold idxR
  rw [h5, if_neg]
  rw [hh]
  simp only [Bool.true_eq_false, false_or, ne_eq, not_true_eq_false]
  omega
theorem at_over {r : Ad} {n : Int} : atR r n (sizeR r n : Nat) = (noA, false) := by
  unfold atR
  rw [if_pos (by omega)]
/-- The address behind the last place, of a range that has no more, is none of it. -/
theorem next_out {r : Ad} {b : Nat} (hf : fitA r) (h : chkR r b = 0) (hs : sizeR r b ≠ 65536) {x : Ad} (hx : addA (r.1, r.2.1, r.2.2 + (sizeR r b - 1)) 1 = (x, true)) : hasR r b x = false := by
  obtain ⟨h1, h2⟩ := size_pos h
  obtain ⟨e1, hf1, hc1, h4, _⟩ := place hf h (j := sizeR r b - 1) (by omega)
  obtain ⟨hc, b', e, hb, hh⟩ := chkR_yes h
  obtain rfl : b = b' := by omega
  rw [Bool.eq_false_iff, ne_eq, hasR_iff h]
  rintro ⟨_, hx2⟩
  have hse := sizeR_yes h
  have hmin : widA r.1 - b < 16 := by
    rcases Nat.lt_or_ge (widA r.1 - b) 16 with hlt | hge
    · exact hlt
    · rw [Nat.min_eq_right hge] at hse
      exact absurd hse hs
  rw [Nat.min_eq_left (by omega)] at hse
  obtain ⟨six, hi, lo⟩ := r
  have hkL : kL six b = widA six - b := by
    have h' : widA six - b < 16 := hmin
    unfold widA at h' ⊢
    unfold kL
    cases six
    · rfl
    · simp only [if_true] at h' ⊢
      rw [if_neg (by omega)]
  have hk : cl (kL six b) lo = lo := congrArg (fun x : Ad => x.2.2) hh
  have hxs : x = sumA (six, hi, lo + (sizeR (six, hi, lo) b - 1)) 1 := by
    unfold addA at hx
    split at hx
    · simp at hx
    · split at hx
      · simp at hx
      · exact ((Prod.mk.inj hx).1).symm
  have hx3 : cl (kL six b) x.2.2 = lo := congrArg (fun x : Ad => x.2.2) hx2
  rw [hxs] at hx3
  have hlo := hf1.2
  have e2 : (sumA (six, hi, lo + (sizeR (six, hi, lo) b - 1)) 1).2.2 = (lo + sizeR (six, hi, lo) b) % 18446744073709551616 := by
    unfold sumA
    simp only
    congr 1
    omega
  rw [e2, hse] at hx3
  have hroom := cl_room (W := 64) hk kL_le (by have := hf.2; simpa using this)
  have e64 : (2 : Nat) ^ 64 = 18446744073709551616 := by decide
  rw [e64, hkL] at hroom
  rw [hkL] at hx3 hk
  have hpos := Nat.two_pow_pos (widA six - b)
  rcases Nat.lt_or_ge (lo + 2 ^ (widA six - b)) 18446744073709551616 with hlt | hge
  · rw [Nat.mod_eq_of_lt hlt] at hx3
    have : cl (widA six - b) (lo + 2 ^ (widA six - b)) = lo + 2 ^ (widA six - b) := by
      unfold cl at hk ⊢
      rw [Nat.add_div_right _ hpos, Nat.succ_mul, hk]
    omega
  · have hz : (lo + 2 ^ (widA six - b)) % 18446744073709551616 = 0 := by
      have : lo + 2 ^ (widA six - b) = 18446744073709551616 := by omega
      rw [this]
    rw [hz] at hx3
    have : cl (widA six - b) 0 = 0 := by unfold cl; simp
    rw [this] at hx3
    have hmin' : widA six - b < 16 := hmin
    have : (2 : Nat) ^ (widA six - b) ≤ 2 ^ 16 := Nat.pow_le_pow_right (by decide) (by omega)
    have e16 : (2 : Nat) ^ 16 = 65536 := by decide
    omega
/-! ### Nesting -/
theorem nest {lo k : Nat} (hl : lo < 4294967296) (hk : k ≤ 32) : chkR (false, 0, cl (32 - k) lo) k = 0 ∧ hasR (false, 0, cl (32 - k) lo) k (false, 0, lo) = true ∧ hasR (false, 0, cl (32 - k) lo) k (true, 0, lo) = false := by
  have h1 := cl_le (32 - k) lo
  have hkl : kL false k = 32 - k := rfl
  have hkh : kH false k = 64 := rfl
  have h0 : cl 64 0 = 0 := by decide
  have hc : chkR (false, 0, cl (32 - k) lo) k = 0 := by
    refine chkR_mk ?_ hk ?_
    · unfold chkA
      rw [if_neg]
      simp only [true_and]
      omega
    · show (false, cl (kH false k) 0, cl (kL false k) (cl (32 - k) lo)) = _
      rw [hkl, hkh, h0, cl_idem]
  refine ⟨hc, (hasR_iff hc).2 ⟨?_, ?_⟩, ?_⟩
  · unfold chkA
    rw [if_neg]
    simp only [true_and]
    omega
  · show (false, cl (kH false k) 0, cl (kL false k) lo) = _
    rw [hkl, hkh, h0]
  · rw [Bool.eq_false_iff, ne_eq, hasR_iff hc]
    rintro ⟨_, h⟩
    exact absurd (congrArg Prod.fst h) (by simp [headR])
theorem cl_anti {j k : Nat} (h : j ≤ k) (x : Nat) : cl k x ≤ cl j x := by
  rw [← cl_cl h]
  exact cl_le _ _
theorem nest_two {lo m n : Nat} (hl : lo < 4294967296) (hmn : m ≤ n) (hn : n ≤ 32) : hasR (false, 0, cl (32 - m) lo) m (false, 0, cl (32 - n) lo) = true ∧ sizeR (false, 0, cl (32 - n) lo) n ≤ sizeR (false, 0, cl (32 - m) lo) m ∧ cmpA (false, 0, cl (32 - m) lo) (false, 0, cl (32 - n) lo) ≤ 0 := by
  obtain ⟨h1, h2, _⟩ := nest hl (Nat.le_trans hmn hn)
  obtain ⟨g1, g2, _⟩ := nest hl hn
  refine ⟨?_, ?_, ?_⟩
  · refine (hasR_iff h1).2 ⟨(chkR_yes g1).1, ?_⟩
    have := ((hasR_iff h1).1 h2).2
    have e := ((hasR_iff g1).1 g2).2
    rw [← e]
    show headR false m (headR false n (false, 0, lo)) = _
    rw [head_head hmn]
    exact this
  · rw [sizeR_yes h1, sizeR_yes g1]
    refine Nat.pow_le_pow_right (by decide) ?_
    show min (32 - n) 16 ≤ min (32 - m) 16
    omega
  · have := cl_anti (show 32 - n ≤ 32 - m by omega) lo
    unfold cmpA cmpU
    simp only [Bool.false_eq_true, and_false, false_and, if_false, Nat.lt_irrefl, ne_eq, not_true_eq_false]
    split
    · omega
    · split <;> omega
end Go.Proofs.YtjadghmanpkgoaaGreatDoor
