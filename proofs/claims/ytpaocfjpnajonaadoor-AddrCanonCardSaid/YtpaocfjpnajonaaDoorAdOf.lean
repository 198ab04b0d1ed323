/-
  Addresses of octets: the walk of addr.Of. Condition: the text is no longer than Go's own limit.
-/
import Derived.Test.YtpaocfjpnajonaaDoorAdNew
namespace Go.Proofs.YtpaocfjpnajonaaDoor
open Go.RowKit
set_option linter.unusedVariables false

theorem row_bytes {w : World} {g g' n cap : Nat} {s : ByteArray} (hg : g = g') (h : Row w g (bs s)) (hn : s.size = n) (h1 : s.size ≤ cap) (h2 : cap ≤ maxLen) : Hid (RowE B w (.slice (some ⟨g', 0, none⟩) n cap) (bs s)) := by
  subst hg
  have := (At.of_row h (by rw [bs_length]; exact h1) h2).row
  rw [bs_length, hn] at this
  exact Lib.hid this
end Go.Proofs.YtpaocfjpnajonaaDoor
