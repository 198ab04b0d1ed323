/-
  The contracts of layer 1 as the laws meet them. Conditions: as each theorem names them.
-/
import Derived.Test.YtmjhofgcfolelaaLabText
namespace Go.Proofs.Ytmjhofgcfolelaa
open Go.RowKit

/-! ### The contracts as the laws meet them -/
theorem tx_size {s T : ByteArray} (hT : bs T = tx (bs s)) : T.size ≤ 4 * s.size := by
  have := tx_len (bs s)
  rw [← hT, bs_length, bs_length] at this
  exact this
end Go.Proofs.Ytmjhofgcfolelaa
