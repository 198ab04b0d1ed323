/-
  The first stage's own examples ('lives') come out true, whatever the memory: the walk.
-/
import Derived.Test.YtjdhapidiehgaaaLabText
namespace Go.Proofs.Ytjdhapidiehgaaa
open Go.RowKit

theorem text_lit (w : World) : Calls Try.prog 16 #[.string ⟨#[97, 46, 98, 0]⟩] w fun e w' => e = .returned (.tuple #[.string ⟨#[97, 92, 46, 98, 92, 48, 48, 48]⟩, .int .i64 0]) ∧ Below w.heap.size w w' := by
  have h1 : txR (bs ⟨#[97, 46, 98, 0]⟩) = [97, 92, 46, 98, 92, 48, 48, 48] := by decide +kernel
  have h2 : chk (bs ⟨#[97, 46, 98, 0]⟩) = 0 := by decide +kernel
  refine (Text_any ⟨#[97, 46, 98, 0]⟩ w (by decide)).mono ?_
  rintro e w' ⟨rfl, hb⟩
  rw [h1, h2]
  exact ⟨rfl, hb⟩
theorem read_lit1 (w : World) : Calls Try.prog 10 #[.string ⟨#[97, 92, 46, 98, 46, 99]⟩, .int .i64 0] w fun e w' => e = .returned (.tuple #[.string ⟨#[97, 46, 98]⟩, .int .i64 4, .int .i64 0]) ∧ Below w.heap.size w w' := by
  have h1 : rd (bs ⟨#[97, 92, 46, 98, 46, 99]⟩) 0 = ([97, 46, 98], 4, 0) := by decide +kernel
  exact (Read_any ⟨#[97, 92, 46, 98, 46, 99]⟩ 0 w _ (by decide) (by decide) h1)
theorem read_lit2 (w : World) : Calls Try.prog 10 #[.string ⟨#[97, 46, 46, 98]⟩, .int .i64 2] w fun e w' => e = .returned (.tuple #[.string ⟨#[]⟩, .int .i64 0, .int .i64 2]) ∧ Below w.heap.size w w' := by
  have h1 : rd (bs ⟨#[97, 46, 46, 98]⟩) 2 = ([], 0, 2) := by decide +kernel
  exact (Read_any ⟨#[97, 46, 46, 98]⟩ 2 w _ (by decide) (by decide) h1)

theorem lives_any (w : World) : Calls Try.prog 9 #[] w fun e w' => e = .returned (.bool true) ∧ Below w.heap.size w w' := by
  go_enter Try.func9, Try.ntmps9
  go_wp2_with fail
  refine (text_lit _).mono ?_
  rintro e w1 ⟨rfl, hb1⟩
  go_wp2_with fail
  refine (read_lit1 _).mono ?_
  rintro e w2 ⟨rfl, hb2⟩
  go_wp2_with fail
  refine (read_lit2 _).mono ?_
  rintro e w3 ⟨rfl, hb3⟩
  go_wp2
  go_ret
  exact ⟨rfl, (hb1.trans (hb2.mono hb1.size)).trans (hb3.mono (Nat.le_trans hb1.size hb2.size))⟩

theorem next {w w1 w2 : World} (h : Below w.heap.size w w1) (k : Below w1.heap.size w1 w2) : Below w.heap.size w w2 := h.trans (k.mono h.size)
/-- A call's contract as the law meets it: it hands back v, and turns nothing that was there. -/
def Gives (f : FuncId) (args : Array Value) (v : Value) : Prop := ∀ w : World, Calls Try.prog f args w fun e w' => e = .returned v ∧ Below w.heap.size w w'

/-! ### The contracts as the laws meet them -/
theorem Text_yes (s T : ByteArray) (w : World) (hc : chk (bs s) = 0) (hT : bs T = tx (bs s)) :
    Calls Try.prog 16 #[.string s] w fun e w' => e = .returned (.tuple #[.string T, .int .i64 0]) ∧ Below w.heap.size w w' := by
  refine (Text_ok s w hc).mono ?_
  rintro e w' ⟨rfl, hb⟩
  have h : txR (bs s) = tx (bs s) := if_pos hc
  rw [h, hc, ← hT]
  exact ⟨rfl, hb⟩
theorem Text_no (s : ByteArray) (w : World) (hs : s.size ≤ maxLen) (hc : chk (bs s) ≠ 0) :
    Calls Try.prog 16 #[.string s] w fun e w' => e = .returned (.tuple #[.string ⟨#[]⟩, .int .i64 (chk (bs s))]) ∧ Below w.heap.size w w' := by
  refine (Text_bad s w hs hc).mono ?_
  rintro e w' ⟨rfl, hb⟩
  have h : txR (bs s) = [] := if_neg hc
  rw [h]
  exact ⟨rfl, hb⟩
theorem Read_yes (s lab : ByteArray) (k n : Nat) (w : World) (hs : s.size ≤ maxLen) (hk : k ≤ s.size) (hx : rd (bs s) k = (bs lab, n, 0)) :
    Calls Try.prog 10 #[.string s, .int .i64 k] w fun e w' => e = .returned (.tuple #[.string lab, .int .i64 n, .int .i64 0]) ∧ Below w.heap.size w w' := by
  refine (Read_any s k w _ hs hk hx).mono ?_
  rintro e w' ⟨rfl, hb⟩
  exact ⟨rfl, hb⟩
theorem chk_ok {s : ByteArray} (hc : chk (bs s) = 0) : 0 < s.size ∧ s.size ≤ 63 := by
  unfold chk at hc
  rw [bs_length] at hc
  split at hc
  · cases hc
  · split at hc
    · cases hc
    · omega
theorem tx_size {s T : ByteArray} (hT : bs T = tx (bs s)) : T.size ≤ 4 * s.size := by
  have := tx_len (bs s)
  rw [← hT, bs_length, bs_length] at this
  exact this
end Go.Proofs.Ytjdhapidiehgaaa
