/-
  header.Check: the walk. No condition.
-/
import Derived.Test.YtadeflehdfmilaaGreatZk0
import Derived.Test.YtadeflehdfmilaaGreatZk7
import Derived.Laws.Rows
import Derived.Laws.BitsAllLaws
import Derived.StillTailTactics
import Derived.BigRegion
namespace Go.Proofs.YtadeflehdfmilaaGreat
open Go.RowKit
set_option linter.unusedVariables false

theorem fromNought_any (n m : Int) (w : World) :
    Calls Tryz.prog 106 #[.int .i64 n, .int .i64 m] w fun e w' => e = .returned (.bool (upTo n m)) ∧ w = w' := by
  by_cases h : 0 ≤ n
  · have hd : decide (0 ≤ n) = true := decide_eq_true h
    have HB := Lib.hid (show upTo n m = decide (n ≤ m) by unfold upTo; rw [hd]; rfl)
    clear h
    go_enter Tryz.func106, Tryz.ntmps106
    go_wp2
    go_ret
    exact ⟨by rw [HB.out]; rfl, rfl⟩
  · have hd : decide (0 ≤ n) = false := decide_eq_false h
    have HB := Lib.hid (show upTo n m = false by unfold upTo; rw [hd]; rfl)
    clear h
    go_enter Tryz.func106, Tryz.ntmps106
    go_wp2
    go_ret
    exact ⟨by rw [HB.out]; rfl, rfl⟩

def nAt (h : Hd) : Nat → Int
  | 0 => h.n0
  | 1 => h.n1
  | 2 => h.n2
  | _ => h.n3
theorem idx4_0 (a b c d : Int) (w : World) : (Instr.index 48 (.agg #[.int .i64 a, .int .i64 b, .int .i64 c, .int .i64 d]) (.int .i64 0)).run Tryz.prog w = .ok (.int .i64 a) w := by kernel_rfl
theorem idx4_1 (a b c d : Int) (w : World) : (Instr.index 48 (.agg #[.int .i64 a, .int .i64 b, .int .i64 c, .int .i64 d]) (.int .i64 1)).run Tryz.prog w = .ok (.int .i64 b) w := by kernel_rfl
theorem idx4_2 (a b c d : Int) (w : World) : (Instr.index 48 (.agg #[.int .i64 a, .int .i64 b, .int .i64 c, .int .i64 d]) (.int .i64 2)).run Tryz.prog w = .ok (.int .i64 c) w := by kernel_rfl
theorem idx4_3 (a b c d : Int) (w : World) : (Instr.index 48 (.agg #[.int .i64 a, .int .i64 b, .int .i64 c, .int .i64 d]) (.int .i64 3)).run Tryz.prog w = .ok (.int .i64 d) w := by kernel_rfl
theorem mayB_all {h : Hd} (h1 : upTo h.op 15 = true) (h2 : upTo h.rc 15 = true) (hn : ∀ j, j < 4 → upTo (nAt h j) 65535 = true) : mayB h = true := by
  have a0 := hn 0 (by omega); have a1 := hn 1 (by omega); have a2 := hn 2 (by omega); have a3 := hn 3 (by omega)
  simp only [nAt] at a0 a1 a2 a3
  unfold mayB
  rw [h1, h2, a0, a1, a2, a3]
  rfl
theorem mayB_not {h : Hd} {k : Nat} (hk : k < 4) (hn : upTo (nAt h k) 65535 = false) : mayB h = false := by
  unfold mayB
  obtain rfl | rfl | rfl | rfl : k = 0 ∨ k = 1 ∨ k = 2 ∨ k = 3 := by omega
  all_goals
    simp only [nAt] at hn
    rw [hn]
    simp
set_option maxHeartbeats 1000000 in
theorem hdCheck_any (h : Hd) (w : World) :
    Calls Tryz.prog 59 #[hv h] w fun e w' => e = .returned (.int .i64 (chkH h)) ∧ Below w.heap.size w w' := by
  unfold hv
  have HI := Lib.hid fromNought_any
  rcases h1 : upTo h.op 15 with _ | _
  · have HC := Lib.hid (chkH_bad (h := h) (by unfold mayB; rw [h1]; simp))
    go_enter Tryz.func59, Tryz.ntmps59
    go_wp2_with (go_at_call 106; refine (HI.out _ _ _).mono ?_; rintro e w' ⟨rfl, rfl⟩)
    go_ret
    exact ⟨by rw [HC.out]; rfl, (Below.refl _ _).alloc (Nat.le_refl _) _⟩
  · rcases h2 : upTo h.rc 15 with _ | _
    · have HC := Lib.hid (chkH_bad (h := h) (by unfold mayB; rw [h2]; simp))
      go_enter Tryz.func59, Tryz.ntmps59
      go_wp2_with (go_at_call 106; refine (HI.out _ _ _).mono ?_; rintro e w' ⟨rfl, rfl⟩)
      go_ret
      exact ⟨by rw [HC.out]; rfl, (Below.refl _ _).alloc (Nat.le_refl _) _⟩
    · have I0 := idx4_0 h.n0 h.n1 h.n2 h.n3
      have I1 := idx4_1 h.n0 h.n1 h.n2 h.n3
      have I2 := idx4_2 h.n0 h.n1 h.n2 h.n3
      have I3 := idx4_3 h.n0 h.n1 h.n2 h.n3
      go_enter Tryz.func59, Tryz.ntmps59
      go_wp2_with (go_at_call 106; refine (HI.out _ _ _).mono ?_; rintro e w' ⟨rfl, rfl⟩)
      go_loop [17] (fun i => ∃ k : Nat, i = .int .i64 k ∧ k ≤ 4 ∧ ∀ j, j < k → upTo (nAt h j) 65535 = true) (fun i => 4 - (intOf i).toNat)
      case atStart => exact ⟨0, rfl, by omega, fun j hj => by omega⟩
      case round =>
        obtain ⟨k, rfl, hk, hn⟩ := hrel
        have HN := Lib.hid hn
        clear hn
        rcases Nat.lt_or_ge k 4 with hlt | hge
        · have HX := Lib.hid (fun hx => mayB_not (h := h) hlt hx)
          rcases hu : upTo (nAt h k) 65535 with _ | _
          · have HC := Lib.hid (chkH_bad (HX.out hu))
            clear HN HX
            obtain rfl | rfl | rfl | rfl : k = 0 ∨ k = 1 ∨ k = 2 ∨ k = 3 := by omega
            all_goals
              simp only [nAt] at hu
              go_wp2_with (go_at_call 106; refine (HI.out _ _ _).mono ?_; rintro e w' ⟨rfl, rfl⟩)
              go_ret
              exact ⟨by rw [HC.out]; rfl, (Below.refl _ _).alloc (Nat.le_refl _) _⟩
          · have HN' : Hid (∀ j, j < k + 1 → upTo (nAt h j) 65535 = true) := Lib.hid (fun j hj => by
              rcases Nat.lt_or_ge j k with hjk | hjk
              · exact HN.out j hjk
              · obtain rfl : j = k := by omega
                exact hu)
            clear HN HX
            obtain rfl | rfl | rfl | rfl : k = 0 ∨ k = 1 ∨ k = 2 ∨ k = 3 := by omega
            all_goals
              simp only [nAt] at hu
              go_wp2_with (go_at_call 106; refine (HI.out _ _ _).mono ?_; rintro e w' ⟨rfl, rfl⟩)
              go_round
              case rel => first | exact ⟨0 + 1, rfl, by omega, HN'.out⟩ | exact ⟨1 + 1, rfl, by omega, HN'.out⟩ | exact ⟨2 + 1, rfl, by omega, HN'.out⟩ | exact ⟨3 + 1, rfl, by omega, HN'.out⟩
              case measure => simp [intOf]
        · obtain rfl : k = 4 := by omega
          have HC := Lib.hid (chkH_ok (mayB_yes.1 (mayB_all h1 h2 HN.out)))
          clear HN
          go_wp2
          go_ret
          exact ⟨by rw [HC.out]; rfl, (Below.refl _ _).alloc (Nat.le_refl _) _⟩

/-! ### The table of flags -/
theorem hd_below_dr {n : Nat} {w w' : World} (h : Below n w w') : Below n w w'.drew := ⟨h.os, h.tape, h.output, h.size, h.block⟩
/-- The table's cells, over the header at block g. -/
def flT (g : Nat) : Array Value := #[.int .u32 32768, .pointer (some ⟨g, 1, none⟩), .int .u32 1024, .pointer (some ⟨g, 3, none⟩), .int .u32 512, .pointer (some ⟨g, 4, none⟩), .int .u32 256, .pointer (some ⟨g, 5, none⟩), .int .u32 128, .pointer (some ⟨g, 6, none⟩), .int .u32 32, .pointer (some ⟨g, 7, none⟩), .int .u32 16, .pointer (some ⟨g, 8, none⟩)]
set_option maxHeartbeats 1000000 in
theorem flagsOf_any (g : Nat) (w : World) :
    Calls Tryz.prog 128 #[.pointer (some ⟨g, 0, none⟩)] w fun e w' => e = .returned (.slice (some ⟨w.heap.size, 0, none⟩) 7 7) ∧ w'.heap[w.heap.size]? = some (.cells (flT g) 194 (0, 0)) ∧ Below w.heap.size w w' := by
  go_enter Tryz.func128, Tryz.ntmps128
  go_wp2
  go_region
  go_wp2
  go_ret
  exact ⟨rfl, heap_alloc_new w _, hd_below_dr ((Below.refl w.heap.size w).alloc (Nat.le_refl _) _)⟩
end Go.Proofs.YtadeflehdfmilaaGreat
