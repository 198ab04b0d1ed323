/-
  ranges.Free: what it answers, as the laws meet it. Conditions: the laid tables' cells (Ground), the addresses' numbers such as their types bear, at most 1,000,000 ranges. RangesNames: the chapter's examples come out as it tells: the walk. Condition: the laid tables' cells (Ground).
-/
import Derived.Test.YtpmlldgjbmingaaGreatDoorZk19
import Derived.Test.YtpmlldgjbmingaaGreatDoorZk36
import Derived.Test.YtpmlldgjbmingaaGreatDoorZk29
import Derived.Test.YtpmlldgjbmingaaGreatDoorZk35
import Derived.Test.YtpmlldgjbmingaaGreatDoorZk40
import Derived.Test.YtpmlldgjbmingaaGreatDoorQui
namespace Go.Proofs.YtpmlldgjbmingaaGreatDoor
open Go.RowKit Go.Maps
set_option linter.unusedVariables false

theorem RgRow.next {w w' : World} {v : Value} {L : List (Ad × Int)} (h : RgRow w v L) (hb : Below w.heap.size w w') : RgRow w' v L := by
  obtain ⟨A, cap, h1, h2, h3, h4⟩ := h.shape
  refine ⟨⟨A, cap, h1, h2, h3, fun j hj => ?_⟩, h.fits⟩
  obtain ⟨g, o, e1, e2, e3⟩ := h4 j hj
  exact ⟨g, o, e1, Nat.lt_of_lt_of_le e2 hb.size, e3.below hb e2⟩
theorem rFree_any (six : Bool) (hi lo : Nat) (n : Int) (v : Value) (L : List (Ad × Int)) (w : World) (hG : Ground w) (hf : fitA (six, hi, lo)) (hrow : RgRow w v L) (hl : L.length ≤ 1000000) :
    Calls Tryz.prog 35 #[.agg #[.bool six, .int .u64 (hi : Int), .int .u64 (lo : Int), .int .i64 n], v] w fun e w' => e = .returned (.int .i64 (freeR (six, hi, lo) n L : Nat)) ∧ Below w.heap.size w w' := by
  refine Free_core six hi lo n v (sizeR (six, hi, lo) n) L w hf hrow.fits rfl (sizeR_le _ _) (runsR_le _ _ _ _ fun _ => Nat.zero_le _) (fun wx hb => (gSr hf rfl).go wx (hG.next hb)) fun wx hb => ?_
  refine (runs_any six hi lo n v L wx (hG.next hb) hf (hrow.next hb) hl).mono ?_
  rintro e w' ⟨b, rfl, h1, h2, h3⟩
  exact ⟨b, rfl, h1, h2, h3⟩
end Go.Proofs.YtpmlldgjbmingaaGreatDoor
namespace Go.Proofs.YtpmlldgjbmingaaGreatDoor
open Go.RowKit Go.Maps
set_option linter.unusedVariables false

theorem bx_four {w wr : World} {B : List (Nat × TypeId × Array Value)} {g : Nat} {t : TypeId} {c0 c1 c2 c3 : Value} (r : Bx w wr B) (h : (g, t, #[c0, c1, c2, c3]) ∈ B) : wr.cell? ⟨g, 0, none⟩ = some c0 ∧ wr.cell? ⟨g, 1, none⟩ = some c1 ∧ wr.cell? ⟨g, 2, none⟩ = some c2 ∧ wr.cell? ⟨g, 3, none⟩ = some c3 :=
  ⟨(r.at h).cell 0, (r.at h).cell 1, (r.at h).cell 2, (r.at h).cell 3⟩


section
variable {ρ : Operand → Value} {o : Oper} {w : World}
theorem rn_bs {x : Operand} {s : Bool} {hi lo : Nat} {n : Int} (hop : o.op = .buildSlice 53 1 #[(0, x)]) (hx : ρ x = .agg #[.bool s, .int .u64 (hi : Int), .int .u64 (lo : Int), .int .i64 n]) : (execOp ρ o).run Tryz.prog w = .ok (.value (.slice (some ⟨w.heap.size, 0, none⟩) 1 1)) (w.alloc (.cells #[.bool s, .int .u64 (hi : Int), .int .u64 (lo : Int), .int .i64 n] 41)) := by
  simp [execOp, hop, hx, go_sem]
theorem rn_row {s : Bool} {hi lo : Nat} {n : Int} (hf : fitA (s, hi, lo)) : RgRow (w.alloc (.cells #[.bool s, .int .u64 (hi : Int), .int .u64 (lo : Int), .int .i64 n] 41)) (.slice (some ⟨w.heap.size, 0, none⟩) 1 1) [((s, hi, lo), n)] := by
  have hl := Lies.new w 41 #[.bool s, .int .u64 (hi : Int), .int .u64 (lo : Int), .int .i64 n]
  refine ⟨⟨some ⟨w.heap.size, 0, none⟩, 1, rfl, Nat.le_refl _, by decide, fun j hj => ?_⟩, fun x hx => ?_⟩
  · obtain rfl : j = 0 := by simpa using hj
    exact ⟨w.heap.size, 0, rfl, hl.lt, ⟨hl.cell 0, hl.cell 1, hl.cell 2, hl.cell 3⟩⟩
  · obtain rfl : x = ((s, hi, lo), n) := by simpa using hx
    exact hf
end
theorem class_bx {w W : World} {B : List (Nat × TypeId × Array Value)} (r : Bx w W B) (hG : Ground W) : ∃ (Ix : Type) (f : Ix → World) (i0 : Ix), W.drew = f i0 ∧ (∀ n, Bx w (f n) B) ∧ (∀ {fi : FuncId} {args : Array Value} {v : Value}, GG fi args v → ∀ n, Calls Tryz.prog fi args (f n) fun e w' => e = .returned v ∧ ∃ m, w' = f m) := by
  obtain ⟨Ix, f, i0, h0, h1, h2⟩ := class_of W
  exact ⟨Ix, f, i0, h0, fun n => r.next (h1 n), fun h n => class_go h hG h1 h2 n⟩

end Go.Proofs.YtpmlldgjbmingaaGreatDoor
