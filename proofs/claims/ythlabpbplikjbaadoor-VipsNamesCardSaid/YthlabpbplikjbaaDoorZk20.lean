/-
  An address' octets: the walks of addr.allOctets, octetsOf, Octets. Conditions: as each theorem names them.
-/
import Derived.Test.YthlabpbplikjbaaDoorZk5
import Derived.Deep.RegionHeld3
namespace Go.Proofs.YthlabpbplikjbaaDoor
open Go.RowKit
set_option linter.unusedVariables false

section
variable {P : Program} {tb ts tt : TypeId}
end

/-- The bytes that a call has made. -/
def Made (w w' : World) (v : Value) (l : List UInt8) : Prop := Own 5 w' w.heap.size v l ∧ Below w.heap.size w w'
/-- What stands between the two cuts, and behind them. -/
structure Two1 (w0 w1 : World) (g : Nat) (six : Bool) (hi lo : Nat) : Prop where
  ad : AdB w1 g six hi lo
  own : Own 5 w1 w0.heap.size (.slice (some ⟨w0.heap.size, 0, none⟩) 8 8) (octs hi 8)
  below : Below w0.heap.size w0 w1
theorem Two1.two {w0 w1 : World} {g : Nat} {six : Bool} {hi lo : Nat} (h : Two1 w0 w1 g six hi lo) : w1.cell? ⟨g, 1, none⟩ = some (.int .u64 hi) ∧ w1.cell? ⟨g, 2, none⟩ = some (.int .u64 lo) := h.ad.facts.1.2
theorem Made.slice {w w' : World} {v : Value} {l : List UInt8} (h : Made w w' v l) : ∃ A cap, v = .slice A l.length cap := h.1.shape
theorem chkA_cases (a : Ad) : chkA a = 0 ∨ chkA a = 2 := by unfold chkA; split <;> simp
end Go.Proofs.YthlabpbplikjbaaDoor
