/-
  The contracts of layer 1 as the laws meet them. Conditions: as each theorem names them.
-/
import Derived.Test.YtjflmifolmpdgaaLabText
namespace Go.Proofs.Ytjflmifolmpdgaa
open Go.RowKit

theorem next {w w1 w2 : World} (h : Below w.heap.size w w1) (k : Below w1.heap.size w1 w2) : Below w.heap.size w w2 := h.trans (k.mono h.size)
/-- A call's contract as the law meets it: it hands back v, and turns nothing that was there. -/
abbrev Gives (f : FuncId) (args : Array Value) (v : Value) : Prop := ∀ w : World, Calls Try.prog f args w fun e w' => e = .returned v ∧ Below w.heap.size w w'

/-! ### The contracts as the laws meet them -/
theorem Text_yes (s T : ByteArray) (w : World) (hc : chk (bs s) = 0) (hT : bs T = tx (bs s)) :
    Calls Try.prog 44 #[.string s] w fun e w' => e = .returned (.tuple #[.string T, .int .i64 0]) ∧ Below w.heap.size w w' := by
  refine (Text_ok s w hc).mono ?_
  rintro e w' ⟨rfl, hb⟩
  have h : txR (bs s) = tx (bs s) := if_pos hc
  rw [h, hc, ← hT]
  exact ⟨rfl, hb⟩
theorem Text_no (s : ByteArray) (w : World) (hs : s.size ≤ maxLen) (hc : chk (bs s) ≠ 0) :
    Calls Try.prog 44 #[.string s] w fun e w' => e = .returned (.tuple #[.string ⟨#[]⟩, .int .i64 (chk (bs s))]) ∧ Below w.heap.size w w' := by
  refine (Text_bad s w hs hc).mono ?_
  rintro e w' ⟨rfl, hb⟩
  have h : txR (bs s) = [] := if_neg hc
  rw [h]
  exact ⟨rfl, hb⟩
theorem Read_yes (s lab : ByteArray) (k n : Nat) (w : World) (hs : s.size ≤ maxLen) (hk : k ≤ s.size) (hx : rd (bs s) k = (bs lab, n, 0)) :
    Calls Try.prog 40 #[.string s, .int .i64 k] w fun e w' => e = .returned (.tuple #[.string lab, .int .i64 n, .int .i64 0]) ∧ Below w.heap.size w w' := by
  refine (Read_any s k w _ hs hk hx).mono ?_
  rintro e w' ⟨rfl, hb⟩
  exact ⟨rfl, hb⟩
theorem chk_ok {s : ByteArray} (hc : chk (bs s) = 0) : 0 < s.size ∧ s.size ≤ 63 := by
  unfold chk at hc
  rw [bs_length] at hc
  split at hc
  · cases hc
  · split at hc
    · cases hc
    · omega
theorem tx_size {s T : ByteArray} (hT : bs T = tx (bs s)) : T.size ≤ 4 * s.size := by
  have := tx_len (bs s)
  rw [← hT, bs_length, bs_length] at this
  exact this
end Go.Proofs.Ytjflmifolmpdgaa
