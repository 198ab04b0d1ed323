/-
  What the document's own Check of a name answers: the walk. Condition: the name is no longer than Go's own limit.
-/
import Derived.Test.YtmjhofgcfolelaaBt
import Derived.Test.YtmjhofgcfolelaaNmMath
namespace Go.Proofs.Ytmjhofgcfolelaa
open Go.RowKit
set_option linter.unusedVariables false

theorem cut_at (n : ByteArray) (k : Nat) (hk : k < n.size) :
    cutL ((bs n).drop k) = if 1 ≤ n[k].toNat ∧ n[k].toNat ≤ 63 ∧ n[k].toNat ≤ n.size - (k + 1) then some (((bs n).drop (k + 1)).take n[k].toNat, (bs n).drop (k + 1 + n[k].toNat)) else none := by
  rw [drop_at n k hk, cutL_cons, List.length_drop, bs_length, List.drop_drop]
/-- What has been gone through. -/
def Gone (n : ByteArray) (k : Nat) (P : List (List UInt8)) : Prop := okN P ∧ bs n = enc P ++ (bs n).drop k
theorem Gone.step {n : ByteArray} {k : Nat} {P : List (List UInt8)} (h : Gone n k P) {x r : List UInt8} (hc : cutL ((bs n).drop k) = some (x, r)) (k' : Nat) (hr : r = (bs n).drop k') : Gone n k' (P ++ [x]) := by
  obtain ⟨h1, h2⟩ := h
  obtain ⟨e, hx⟩ := cutL_some hc
  refine ⟨okN_append.2 ⟨h1, okN_cons.2 ⟨hx, okN_nil⟩⟩, ?_⟩
  rw [enc_snoc, List.append_assoc, ← hr, ← e]
  exact h2
theorem Gone.labs {n : ByteArray} {k : Nat} {P : List (List UInt8)} (h : Gone n k P) : labs (bs n) = P ++ labs ((bs n).drop k) := by
  have := labs_enc P ((bs n).drop k) h.1
  rw [← h.2] at this
  exact this
theorem Gone.len {n : ByteArray} {k : Nat} {P : List (List UInt8)} (h : Gone n k P) (hk : k ≤ n.size) : (enc P).length = k ∧ 2 * P.length ≤ k := by
  have h1 := congrArg List.length h.2
  rw [List.length_append, List.length_drop, bs_length] at h1
  have h2 := enc_two h.1
  omega

/-- The relation of Check's loop. -/
def RcRel (n : ByteArray) (i : Value) : Prop := ∃ (k : Nat) (P : List (List UInt8)), i = .int .i64 k ∧ k ≤ n.size ∧ Hid (Gone n k P)

set_option maxHeartbeats 1000000 in
theorem rnCheck_any (n : ByteArray) (w : World) (hs : n.size ≤ maxLen) : Calls Try.prog 43 #[.string n] w fun e w' => e = .returned (.int .i64 (chkN (bs n))) ∧ w = w' := by
  by_cases hl : 254 < n.size
  · have HP := Lib.hid (chkN_long (l := bs n) (by rw [bs_length]; exact hl))
    unfold maxLen at hs
    go_enter Try.func43, Try.ntmps43
    go_wp2
    go_ret
    exact ⟨by rw [HP.out]; rfl, rfl⟩
  · have hle : n.size ≤ 254 := by omega
    have HP : Hid (chkN (bs n) = if (enc (labs (bs n))).length = n.size then 0 else 4) := Lib.hid (by
      unfold chkN
      rw [bs_length, if_neg hl])
    clear hs hl
    go_enter Try.func43, Try.ntmps43
    go_wp2
    go_loop [3] (fun i => RcRel n i) (fun i => n.size - (intOf i).toNat)
    case atStart => exact ⟨0, [], rfl, Nat.zero_le _, Lib.hid ⟨okN_nil, rfl⟩⟩
    case round =>
      obtain ⟨k, P, rfl, hk, hg⟩ := hrel
      by_cases hlt : k < n.size
      · have hc := cut_at n k hlt
        have b := n[k].toNat_lt
        by_cases hok : 1 ≤ n[k].toNat ∧ n[k].toNat ≤ 63 ∧ n[k].toNat ≤ n.size - (k + 1)
        · rw [if_pos hok] at hc
          have HN : Hid (Gone n (k + 1 + n[k].toNat) (P ++ [((bs n).drop (k + 1)).take n[k].toNat])) := Lib.hid (hg.out.step hc _ rfl)
          obtain ⟨o1, o2, o3⟩ := hok
          have o4 : ¬ (n.size : Int) < k + 1 + n[k].toNat := by omega
          clear hc
          go_wp2
          go_round
          case rel => exact ⟨k + 1 + n[k].toNat, _, by go_num, by omega, HN⟩
          case measure => simp [intOf]; omega
        · rw [if_neg hok] at hc
          have HE : Hid (chkN (bs n) = 4) := Lib.hid (by
            have h1 := hg.out.labs
            rw [labs_none hc, List.append_nil] at h1
            have h2 := (hg.out.len hk).1
            rw [HP.out, h1, h2, if_neg (by omega)])
          clear hc
          by_cases o1 : n[k].toNat < 1
          · clear hok
            go_wp2
            go_ret
            exact ⟨by rw [HE.out]; rfl, rfl⟩
          · by_cases o2 : 63 < n[k].toNat
            · clear hok
              go_wp2
              go_ret
              exact ⟨by rw [HE.out]; rfl, rfl⟩
            · have o3 : (n.size : Int) < k + 1 + n[k].toNat := by omega
              clear hok
              go_wp2
              go_ret
              exact ⟨by rw [HE.out]; rfl, rfl⟩
      · have HE : Hid (chkN (bs n) = 0) := Lib.hid (by
          have h1 := hg.out.labs
          rw [drop_end n k (by omega)] at h1
          have h2 := (hg.out.len hk).1
          rw [HP.out, h1, labs_nil, List.append_nil, h2, if_pos (by omega)])
        go_wp2
        go_ret
        exact ⟨by rw [HE.out]; rfl, rfl⟩

end Go.Proofs.Ytmjhofgcfolelaa
