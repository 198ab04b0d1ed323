/-
  ranges.Free: what it answers, as the laws meet it. Conditions: the laid tables' cells (Ground), the addresses' numbers such as their types bear, at most 1,000,000 ranges.
-/
import Derived.Test.YtpmlldgjbmingaaGreatDoorZk17
import Derived.Test.YtpmlldgjbmingaaGreatDoorZk33
namespace Go.Proofs.YtpmlldgjbmingaaGreatDoor
open Go.RowKit Go.Maps
set_option linter.unusedVariables false

theorem RgRow.next {w w' : World} {v : Value} {L : List (Ad × Int)} (h : RgRow w v L) (hb : Below w.heap.size w w') : RgRow w' v L := by
  obtain ⟨A, cap, h1, h2, h3, h4⟩ := h.shape
  refine ⟨⟨A, cap, h1, h2, h3, fun j hj => ?_⟩, h.fits⟩
  obtain ⟨g, o, e1, e2, e3⟩ := h4 j hj
  exact ⟨g, o, e1, Nat.lt_of_lt_of_le e2 hb.size, e3.below hb e2⟩
theorem rFree_any (six : Bool) (hi lo : Nat) (n : Int) (v : Value) (L : List (Ad × Int)) (w : World) (hG : Ground w) (hf : fitA (six, hi, lo)) (hrow : RgRow w v L) (hl : L.length ≤ 1000000) :
    Calls Tryz.prog 35 #[.agg #[.bool six, .int .u64 (hi : Int), .int .u64 (lo : Int), .int .i64 n], v] w fun e w' => e = .returned (.int .i64 (freeR (six, hi, lo) n L : Nat)) ∧ Below w.heap.size w w' := by
  refine Free_core six hi lo n v (sizeR (six, hi, lo) n) L w hf hrow.fits rfl (sizeR_le _ _) (runsR_le _ _ _ _ fun _ => Nat.zero_le _) (fun wx hb => (gSr hf rfl).go wx (hG.next hb)) fun wx hb => ?_
  refine (runs_any six hi lo n v L wx (hG.next hb) hf (hrow.next hb) hl).mono ?_
  rintro e w' ⟨b, rfl, h1, h2, h3⟩
  exact ⟨b, rfl, h1, h2, h3⟩
end Go.Proofs.YtpmlldgjbmingaaGreatDoor
