/-
  Addresses compared, and added to: the walks of addr.Compare, Add. Conditions: as each theorem names them.
-/
import Derived.Test.YtpaocfjpnajonaaDoorAdOcs
import Derived.Shelf.Spec.BitsCarry
namespace Go.Proofs.YtpaocfjpnajonaaDoor
open Go.RowKit
set_option linter.unusedVariables false

/-- cmp.Or of two. -/
def or2 (x y : Int) : Int := if x ≠ 0 then x else y
/-- The relation of Or's loop. -/
def OrRel (x : Int) (w : World) (i : Value) (wr : World) : Prop := ∃ k : Nat, i = .int .i64 k ∧ k ≤ 2 ∧ (0 < k → x = 0) ∧ w = wr
theorem cmpA_diff (a b : Ad) (h : a.1 ≠ b.1) : cmpA a b = if a.1 = false then -1 else 1 := by
  obtain ⟨s, a1, a2⟩ := a; obtain ⟨t, b1, b2⟩ := b
  cases s <;> cases t <;> simp_all [cmpA]
theorem cmpA_same (s : Bool) (a1 a2 b1 b2 : Nat) : cmpA (s, a1, a2) (s, b1, b2) = or2 (cmpU a1 b1) (cmpU a2 b2) := by
  cases s <;> simp [cmpA, or2]
theorem alloc_cell {n : Nat} (w : World) (C : Array Value) (t : TypeId) (hn : n = w.heap.size) (j : Nat) : (w.alloc (.cells C t)).cell? ⟨n, j, none⟩ = C[j]? := by
  subst hn
  exact Lies.cell (Lies.new w t C) j
/-- The halves of the two that are compared, as they lie. -/
def Four2 (w : World) (g a1 a2 b1 b2 : Nat) : Prop := (w.cell? ⟨g, 1, none⟩ = some (.int .u64 a1) ∧ w.cell? ⟨g, 2, none⟩ = some (.int .u64 a2)) ∧ w.cell? ⟨g + 1, 1, none⟩ = some (.int .u64 b1) ∧ w.cell? ⟨g + 1, 2, none⟩ = some (.int .u64 b2)
theorem four2 {w w' : World} {s : Bool} {a1 a2 b1 b2 : Nat} (hb : Below ((w.alloc (.cells #[.bool s, .int .u64 (a1 : Int), .int .u64 (a2 : Int)] 25)).alloc (.cells #[.bool s, .int .u64 (b1 : Int), .int .u64 (b2 : Int)] 25)).heap.size ((w.alloc (.cells #[.bool s, .int .u64 (a1 : Int), .int .u64 (a2 : Int)] 25)).alloc (.cells #[.bool s, .int .u64 (b1 : Int), .int .u64 (b2 : Int)] 25)) w') : Four2 w' w.heap.size a1 a2 b1 b2 := by
  have h1 := ((Lies.new w 25 #[.bool s, .int .u64 (a1 : Int), .int .u64 (a2 : Int)]).alloc (.cells #[.bool s, .int .u64 (b1 : Int), .int .u64 (b2 : Int)] 25)).next hb
  have h2 := (Lies.new (w.alloc (.cells #[.bool s, .int .u64 (a1 : Int), .int .u64 (a2 : Int)] 25)) 25 #[.bool s, .int .u64 (b1 : Int), .int .u64 (b2 : Int)]).next hb
  rw [size1] at h2
  exact ⟨⟨h1.cell 1, h1.cell 2⟩, h2.cell 1, h2.cell 2⟩
theorem av_eq (a : Ad) : av a = .agg #[.bool a.1, .int .u64 (a.2.1 : Int), .int .u64 (a.2.2 : Int)] := rfl
/-- The carry of the lower half. -/
theorem carry_le {lo n : Nat} (h2 : lo < 18446744073709551616) (h3 : n < 18446744073709551616) : (lo + n) / 18446744073709551616 ≤ 1 := by omega
end Go.Proofs.YtpaocfjpnajonaaDoor
