/-
  Ranges' texts, read back: mathematics. Conditions: as each theorem names them. Nothing of any program is named here.
-/
import Derived.Test.YtjadghmanpkgoaaGreatDoorRgUse
namespace Go.Proofs.YtjadghmanpkgoaaGreatDoor
open Go.RowKit
set_option linter.unusedVariables false

theorem hexd_no : ∀ d : Fin 16, hexd d.val ≠ 47 := by decide +kernel
theorem hexF_no : ∀ (n v : Nat), (47 : UInt8) ∉ hexF n v
  | 0, v => by
    unfold hexF
    first | simp | (intro h; exact hexd_no ⟨v % 16, Nat.mod_lt _ (by decide)⟩ (List.mem_singleton.1 h).symm)
  | n + 1, v => by
    unfold hexF
    split
    · rename_i hv
      intro h
      exact hexd_no ⟨v, hv⟩ (List.mem_singleton.1 h).symm
    · intro h
      rcases List.mem_append.1 h with h | h
      · exact hexF_no n _ h
      · exact hexd_no ⟨v % 16, Nat.mod_lt _ (by decide)⟩ (List.mem_singleton.1 h).symm
theorem grpT_no (g : List Nat) : (47 : UInt8) ∉ grpT g := by
  intro h
  rcases join_mem h with ⟨e, _⟩ | ⟨x, hx, hd⟩
  · cases e
  · obtain ⟨c, _, rfl⟩ := List.mem_map.1 hx
    exact hexF_no _ _ hd
theorem dec_no : ∀ c : Fin 256, (47 : UInt8) ∉ decT c.val := by decide +kernel
theorem txA_no (a : Ad) : (47 : UInt8) ∉ (txA a).1 := by
  unfold txA
  split
  · simp
  · split
    · show (47 : UInt8) ∉ text6 (grpA a)
      unfold text6
      split
      · exact grpT_no _
      · intro h
        rcases List.mem_append.1 h with h | h
        · rcases List.mem_append.1 h with h | h
          · exact grpT_no _ h
          · revert h; decide
        · exact grpT_no _ h
    · intro h
      rcases join_mem h with ⟨e, _⟩ | ⟨x, hx, hd⟩
      · cases e
      · obtain ⟨c, _, rfl⟩ := List.mem_map.1 hx
        exact dec_no ⟨c.toNat, c.toNat_lt⟩ hd
theorem cut_at {a b : List UInt8} (h : (47 : UInt8) ∉ a) : Lib.cut (a ++ 47 :: b) [47] = (a, b, true) := by
  unfold Lib.cut
  rw [idx_at h, if_pos (by omega)]
  simp only [Int.toNat_natCast, List.take_left, List.length_cons, List.length_nil]
  rw [show a ++ 47 :: b = (a ++ [47]) ++ b by simp, List.drop_left' (by simp)]
theorem rd_tx {r : Ad} {b : Nat} (hf : fitA r) (h : chkR r b = 0) : rdR (txR r b).1 = (r, b, 0) := by
  obtain ⟨hc, b', e, hb, _⟩ := chkR_yes h
  obtain rfl : b = b' := by omega
  have hb2 : b < 129 := by
    have : widA r.1 ≤ 128 := by cases r.1 <;> decide
    omega
  have e1 : (txR r b).1 = (txA r).1 ++ 47 :: decT b := by
    unfold txR
    rw [if_neg (by omega), Int.toNat_natCast]
  rw [e1]
  have hcut := cut_at (b := decT b) (txA_no r)
  rw [rdR_eq (a := r) (e := 0) (y := decT b) (by rw [hcut]; exact read_text hf hc) (by rw [hcut]), if_neg (by omega), numG_dec ⟨b, hb2⟩]
  simp only
  rw [if_neg (by omega)]
theorem txR_len (r : Ad) (b : Nat) (hb : b ≤ 128) : (txR r b).1.length ≤ 43 := by
  unfold txR
  split
  · simp
  · have h1 := text_len r
    have h2 := (dec_len ⟨b, by omega⟩).1
    simp only [List.length_append, List.length_cons, Int.toNat_natCast]
    simp only at h2
    omega
theorem tx_bad {r : Ad} {n : Int} (h : chkR r n ≠ 0) : txR r n = ([], chkR r n) := by
  unfold txR
  rw [if_pos h]
theorem size_bad {r : Ad} {n : Int} (h : chkR r n ≠ 0) : sizeR r n = 0 := by
  unfold sizeR
  rw [if_neg h]
end Go.Proofs.YtjadghmanpkgoaaGreatDoor
