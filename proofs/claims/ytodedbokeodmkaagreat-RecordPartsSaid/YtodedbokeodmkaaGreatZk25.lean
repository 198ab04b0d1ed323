/-
  The part of a name that begins at a place: the walk of unpack.partAt. Condition: the octets are no longer than Go's own limit, the place is within them.
-/
import Derived.Test.YtodedbokeodmkaaGreatZk6
import Derived.Test.YtodedbokeodmkaaGreatZk8
namespace Go.Proofs.YtodedbokeodmkaaGreat
open Go.RowKit
set_option linter.unusedVariables false

theorem ret2 {a b : ByteArray} {x y : Int} (h : a = b) (h' : x = y) : Ending.returned (.tuple #[.string a, .int .i64 x]) = .returned (.tuple #[.string b, .int .i64 y]) := by rw [h, h']
theorem bs_cons {R : ByteArray} (h : 0 < R.size) : ∃ t, bs R = R[0] :: t ∧ t.length + 1 = R.size := by
  have h1 := drop_at R 0 h
  rw [List.drop_zero] at h1
  refine ⟨_, h1, ?_⟩
  have := congrArg List.length h1
  rw [bs_length, List.length_cons] at this
  omega
theorem part_head {R : ByteArray} {n : Nat} : (⟨((bs R).take n).toArray⟩ : ByteArray) = R.extract 0 n := bs_inj (by rw [bs_mk, bs_extract]; simp)
theorem isEmpty_no {R : ByteArray} (h : 0 < R.size) : R.toList.isEmpty = false := by
  rw [bs_toList]
  obtain ⟨t, ht, _⟩ := bs_cons h
  rw [ht]
  rfl
theorem toList_ne {R : ByteArray} (h : 0 < R.size) : ¬ R.toList = [] := by
  rw [bs_toList]
  obtain ⟨t, ht, _⟩ := bs_cons h
  rw [ht]
  simp
set_option maxHeartbeats 400000 in
theorem partAt_any (S : ByteArray) (k : Nat) (w : World) (hs : S.size ≤ maxLen) (hk : k ≤ S.size) :
    Calls Tryz.prog 223 #[.string S, .int .i64 k] w fun e w' => e = .returned (.tuple #[.string ⟨(((bs S).drop k).take (partU ((bs S).drop k)).1).toArray⟩, .int .i64 (partU ((bs S).drop k)).2]) ∧ w = w' := by
  unfold maxLen at hs
  obtain ⟨R, hR⟩ : ∃ R, S.extract k S.size = R := ⟨_, rfl⟩
  have hRb : (bs S).drop k = bs R := by rw [← hR, bs_extract, List.take_of_length_le]; rw [List.length_drop, bs_length]; exact Nat.le_refl _
  have hRs : R.size = S.size - k := by rw [← bs_length, ← hRb, List.length_drop, bs_length]
  rw [hRb]
  have hb1 : (0 : Int) ≤ (k : Int) := by omega
  have hb2 : (k : Int) ≤ (S.size : Int) := by omega
  clear hRb
  by_cases h0 : R.size = 0
  · have hb0 : bs R = [] := List.eq_nil_of_length_eq_zero (by rw [bs_length]; exact h0)
    have he : R.toList.isEmpty = true := by rw [bs_toList, hb0]; rfl
    have he2 : R.toList = [] := by rw [bs_toList, hb0]
    have HP : Hid (partU (bs R) = (0, 8)) := Lib.hid (by rw [hb0]; rfl)
    clear hRs h0 hb0
    go_enter Tryz.func223, Tryz.ntmps223
    go_wp2
    go_ret2
    exact ⟨by rw [HP.out]; exact ret2 (by simp) rfl, rfl⟩
  · have hpos : 0 < R.size := by omega
    have he := isEmpty_no hpos
    have he2 := toList_ne hpos
    obtain ⟨t, ht, htl⟩ := bs_cons hpos
    obtain ⟨c, hc⟩ : ∃ c, R[0] = c := ⟨_, rfl⟩
    rw [hc] at ht
    have hc8 := c.toNat_lt
    have HT := Lib.hid ht
    clear ht h0
    by_cases h1 : 192 ≤ c.toNat
    · have hd1 : decide ((192 : Int) ≤ (c.toNat : Int)) = true := by simp; omega
      by_cases h2 : R.size < 2
      · have hd2 : decide ((R.size : Int) < 2) = true := by simp; omega
        have HP : Hid (partU (bs R) = (0, 8)) := Lib.hid (by rw [HT.out, partU_cons, if_pos h1, if_pos (by omega)])
        clear hRs htl
        go_enter Tryz.func223, Tryz.ntmps223
        go_wp2
        go_ret2
        exact ⟨by rw [HP.out]; exact ret2 (by simp) rfl, rfl⟩
      · have hd2 : decide ((R.size : Int) < 2) = false := by simp; omega
        have hle : 2 ≤ R.size := by omega
        have HP : Hid (partU (bs R) = (2, 0)) := Lib.hid (by rw [HT.out, partU_cons, if_pos h1, if_neg (by omega)])
        clear hRs htl
        go_enter Tryz.func223, Tryz.ntmps223
        go_wp2
        go_ret2
        exact ⟨by rw [HP.out]; exact ret2 part_head.symm rfl, rfl⟩
    · have hd1 : decide ((192 : Int) ≤ (c.toNat : Int)) = false := by simp; omega
      by_cases h2 : 63 < c.toNat
      · have hd2 : decide ((63 : Int) < (c.toNat : Int)) = true := by simp; omega
        have HP : Hid (partU (bs R) = (0, 4)) := Lib.hid (by rw [HT.out, partU_cons, if_neg h1, if_pos h2])
        clear hRs htl
        go_enter Tryz.func223, Tryz.ntmps223
        go_wp2
        go_ret2
        exact ⟨by rw [HP.out]; exact ret2 (by simp) rfl, rfl⟩
      · have hd2 : decide ((63 : Int) < (c.toNat : Int)) = false := by simp; omega
        by_cases h3 : R.size < 1 + c.toNat
        · have hd3 : decide ((R.size : Int) < 1 + (c.toNat : Int)) = true := by simp; omega
          have HP : Hid (partU (bs R) = (0, 8)) := Lib.hid (by rw [HT.out, partU_cons, if_neg h1, if_neg h2, if_pos (by omega)])
          clear hRs htl
          go_enter Tryz.func223, Tryz.ntmps223
          go_wp2
          go_ret2
          exact ⟨by rw [HP.out]; exact ret2 (by simp) rfl, rfl⟩
        · have hd3 : decide ((R.size : Int) < 1 + (c.toNat : Int)) = false := by simp; omega
          have HP : Hid (partU (bs R) = (1 + c.toNat, 0)) := Lib.hid (by rw [HT.out, partU_cons, if_neg h1, if_neg h2, if_neg (by omega)])
          have hq1 : (0 : Int) ≤ 1 + (c.toNat : Int) := by omega
          have hq2 : (1 + (c.toNat : Int)).toNat = 1 + c.toNat := by omega
          have hq3 : 1 + (c.toNat : Int) ≤ (R.size : Int) := by omega
          clear hRs htl
          go_enter Tryz.func223, Tryz.ntmps223
          go_wp2
          go_ret2
          exact ⟨by rw [HP.out]; exact ret2 part_head.symm rfl, rfl⟩
end Go.Proofs.YtodedbokeodmkaaGreat
