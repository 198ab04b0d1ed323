/-
  The document's own answers for headers: Check, flag, Reply: the walks. Conditions: as each theorem names them.
-/
import Derived.Test.YtjedfgflkhchiaaHdRd
import Derived.Test.YtjedfgflkhchiaaPick
namespace Go.Proofs.Ytjedfgflkhchiaa
open Go.RowKit
set_option linter.unusedVariables false

theorem mayB_false {h : Hd} (hn : ¬ h.may) : mayB h = false := by
  cases hb : mayB h
  · rfl
  · exact absurd (mayB_yes.1 hb) hn
theorem chkH_no {h : Hd} (hn : ¬ h.may) : chkH h = 2 := chkH_bad (mayB_false hn)
set_option maxHeartbeats 1000000 in
theorem fCheck_any (h : Hd) (w : World) : Calls Try.prog 16 #[hv h] w fun e w' => e = .returned (.int .i64 (chkH h)) ∧ Below w.heap.size w w' := by
  rcases Int.lt_or_le h.op 0 with a1 | a1
  · have HC := Lib.hid (chkH_no (h := h) (fun m => by have := m.op; omega))
    unfold hv
    go_enter Try.func16, Try.ntmps16
    go_wp2
    go_ret
    exact ⟨by rw [HC.out]; rfl, (Below.refl _ _).alloc (Nat.le_refl _) _⟩
  rcases Int.lt_or_le 15 h.op with a2 | a2
  · have HC := Lib.hid (chkH_no (h := h) (fun m => by have := m.op; omega))
    unfold hv
    go_enter Try.func16, Try.ntmps16
    go_wp2
    go_ret
    exact ⟨by rw [HC.out]; rfl, (Below.refl _ _).alloc (Nat.le_refl _) _⟩
  rcases Int.lt_or_le h.rc 0 with a3 | a3
  · have HC := Lib.hid (chkH_no (h := h) (fun m => by have := m.rc; omega))
    unfold hv
    go_enter Try.func16, Try.ntmps16
    go_wp2
    go_ret
    exact ⟨by rw [HC.out]; rfl, (Below.refl _ _).alloc (Nat.le_refl _) _⟩
  rcases Int.lt_or_le 15 h.rc with a4 | a4
  · have HC := Lib.hid (chkH_no (h := h) (fun m => by have := m.rc; omega))
    unfold hv
    go_enter Try.func16, Try.ntmps16
    go_wp2
    go_ret
    exact ⟨by rw [HC.out]; rfl, (Below.refl _ _).alloc (Nat.le_refl _) _⟩
  unfold hv
  go_enter Try.func16, Try.ntmps16
  go_wp2
  go_loop [3] (fun i => ∃ k : Nat, i = .int .i64 k ∧ k ≤ 4 ∧ ∀ j, j < k → 0 ≤ nAt h j ∧ nAt h j ≤ 65535) (fun i => 4 - (intOf i).toNat)
  case atStart => exact ⟨0, rfl, by omega, fun j hj => by omega⟩
  case round =>
    obtain ⟨k, rfl, hk, hn⟩ := hrel
    have HN := Lib.hid hn
    clear hn
    rcases Nat.lt_or_ge k 4 with hlt | hge
    · obtain rfl | rfl | rfl | rfl : k = 0 ∨ k = 1 ∨ k = 2 ∨ k = 3 := by omega
      · rcases Int.lt_or_le h.n0 0 with b1 | b1
        · have HC := Lib.hid (chkH_no (h := h) (fun m => by have := m.n0; omega))
          go_wp2
          go_ret
          exact ⟨by rw [HC.out]; rfl, (Below.refl _ _).alloc (Nat.le_refl _) _⟩
        rcases Int.lt_or_le 65535 h.n0 with b2 | b2
        · have HC := Lib.hid (chkH_no (h := h) (fun m => by have := m.n0; omega))
          go_wp2
          go_ret
          exact ⟨by rw [HC.out]; rfl, (Below.refl _ _).alloc (Nat.le_refl _) _⟩
        have HN' : Hid (∀ j, j < 0 + 1 → 0 ≤ nAt h j ∧ nAt h j ≤ 65535) := Lib.hid (fun j hj => by
          rcases Nat.lt_or_ge j 0 with hjk | hjk
          · exact HN.out j hjk
          · obtain rfl : j = 0 := by omega
            exact ⟨b1, b2⟩)
        go_wp2
        go_round
        case rel => exact ⟨0 + 1, rfl, by omega, HN'.out⟩
        case measure => simp [intOf]
      · rcases Int.lt_or_le h.n1 0 with b1 | b1
        · have HC := Lib.hid (chkH_no (h := h) (fun m => by have := m.n1; omega))
          go_wp2
          go_ret
          exact ⟨by rw [HC.out]; rfl, (Below.refl _ _).alloc (Nat.le_refl _) _⟩
        rcases Int.lt_or_le 65535 h.n1 with b2 | b2
        · have HC := Lib.hid (chkH_no (h := h) (fun m => by have := m.n1; omega))
          go_wp2
          go_ret
          exact ⟨by rw [HC.out]; rfl, (Below.refl _ _).alloc (Nat.le_refl _) _⟩
        have HN' : Hid (∀ j, j < 1 + 1 → 0 ≤ nAt h j ∧ nAt h j ≤ 65535) := Lib.hid (fun j hj => by
          rcases Nat.lt_or_ge j 1 with hjk | hjk
          · exact HN.out j hjk
          · obtain rfl : j = 1 := by omega
            exact ⟨b1, b2⟩)
        go_wp2
        go_round
        case rel => exact ⟨1 + 1, rfl, by omega, HN'.out⟩
        case measure => simp [intOf]
      · rcases Int.lt_or_le h.n2 0 with b1 | b1
        · have HC := Lib.hid (chkH_no (h := h) (fun m => by have := m.n2; omega))
          go_wp2
          go_ret
          exact ⟨by rw [HC.out]; rfl, (Below.refl _ _).alloc (Nat.le_refl _) _⟩
        rcases Int.lt_or_le 65535 h.n2 with b2 | b2
        · have HC := Lib.hid (chkH_no (h := h) (fun m => by have := m.n2; omega))
          go_wp2
          go_ret
          exact ⟨by rw [HC.out]; rfl, (Below.refl _ _).alloc (Nat.le_refl _) _⟩
        have HN' : Hid (∀ j, j < 2 + 1 → 0 ≤ nAt h j ∧ nAt h j ≤ 65535) := Lib.hid (fun j hj => by
          rcases Nat.lt_or_ge j 2 with hjk | hjk
          · exact HN.out j hjk
          · obtain rfl : j = 2 := by omega
            exact ⟨b1, b2⟩)
        go_wp2
        go_round
        case rel => exact ⟨2 + 1, rfl, by omega, HN'.out⟩
        case measure => simp [intOf]
      · rcases Int.lt_or_le h.n3 0 with b1 | b1
        · have HC := Lib.hid (chkH_no (h := h) (fun m => by have := m.n3; omega))
          go_wp2
          go_ret
          exact ⟨by rw [HC.out]; rfl, (Below.refl _ _).alloc (Nat.le_refl _) _⟩
        rcases Int.lt_or_le 65535 h.n3 with b2 | b2
        · have HC := Lib.hid (chkH_no (h := h) (fun m => by have := m.n3; omega))
          go_wp2
          go_ret
          exact ⟨by rw [HC.out]; rfl, (Below.refl _ _).alloc (Nat.le_refl _) _⟩
        have HN' : Hid (∀ j, j < 3 + 1 → 0 ≤ nAt h j ∧ nAt h j ≤ 65535) := Lib.hid (fun j hj => by
          rcases Nat.lt_or_ge j 3 with hjk | hjk
          · exact HN.out j hjk
          · obtain rfl : j = 3 := by omega
            exact ⟨b1, b2⟩)
        go_wp2
        go_round
        case rel => exact ⟨3 + 1, rfl, by omega, HN'.out⟩
        case measure => simp [intOf]
    · obtain rfl : k = 4 := by omega
      have HC := Lib.hid (chkH_ok (h := h) ⟨⟨a1, a2⟩, ⟨a3, a4⟩, HN.out 0 (by omega), HN.out 1 (by omega), HN.out 2 (by omega), HN.out 3 (by omega)⟩)
      go_wp2
      go_ret
      exact ⟨by rw [HC.out]; rfl, (Below.refl _ _).alloc (Nat.le_refl _) _⟩
theorem tmod_16 (r : Int) : (r.tmod 16 < 0 → r.tmod 16 + 16 = r % 16) ∧ (¬ r.tmod 16 < 0 → r.tmod 16 = r % 16) := by
  have h := Int.tmod_eq_emod (a := r) (b := 16)
  rw [h]
  constructor <;> split <;> omega
theorem fReply_any (h : Hd) (r : Int) (w : World) :
    Calls Try.prog 17 #[hv h, .int .i64 r] w fun e w' => e = .returned (hv (repH h r)) ∧ Below w.heap.size w w' := by
  have h1 := Int.lt_tmod_of_pos r (show (0 : Int) < 16 by omega)
  have h2 := Int.tmod_lt_of_pos r (show (0 : Int) < 16 by omega)
  obtain ⟨X, hX⟩ : ∃ X, X = repH h r := ⟨_, rfl⟩
  rw [← hX]
  have HX := Lib.hid hX
  have HL : Hid (Lies ((w.alloc (.cells (hcs h) 26)).alloc (.cells (hcs X) 26)) (w.heap.size + 1) 26 (hcs X)) := Lib.hid (by
    have := Lies.new (w.alloc (.cells (hcs h) 26)) 26 (hcs X)
    rw [show (w.alloc (.cells (hcs h) 26)).heap.size = w.heap.size + 1 by simp] at this
    exact this)
  have HT := Lib.hid (tmod_16 r)
  clear hX
  by_cases hneg : r.tmod 16 < 0
  · have he := HT.out.1 hneg
    unfold hv
    go_enter Try.func17, Try.ntmps17
    go_wp2
    have hx := HX.out
    subst hx
    refine bodyPost_ret (hd_one rfl _ _ (w.heap.size + 1) (repH h r) rfl HL.out) rfl ⟨rfl, ?_⟩
    exact ((Below.refl _ _).alloc (Nat.le_refl _) _).alloc (by simp) _
  · have he := HT.out.2 hneg
    have hneg' : ¬ r % 16 < 0 := by omega
    unfold hv
    go_enter Try.func17, Try.ntmps17
    go_wp2
    have hx := HX.out
    subst hx
    refine bodyPost_ret (hd_one rfl _ _ (w.heap.size + 1) (repH h r) rfl HL.out) rfl ⟨rfl, ?_⟩
    exact ((Below.refl _ _).alloc (Nat.le_refl _) _).alloc (by simp) _
theorem flag_any (b : Bool) (i : Nat) (w : World) (hi : i < 32) :
    Calls Try.prog 26 #[.bool b, .int .u64 i] w fun e w' => e = .returned (.int .u32 (fl b (2 ^ i) : Nat)) ∧ w = w' := by
  cases b
  · go_enter Try.func26, Try.ntmps26
    go_wp2
    go_ret
    exact ⟨rfl, rfl⟩
  · have hp : 2 ^ i < 4294967296 := Nat.pow_lt_pow_right (a := 2) (by omega) hi
    have e0 : (2 : Int) ^ i = ((2 ^ i : Nat) : Int) := (Int.natCast_pow 2 i).symm
    have HE : Hid ((2 : Int) ^ i % 4294967296 = ((fl true (2 ^ i) : Nat) : Int)) := Lib.hid (by
      rw [e0]
      show _ = ((2 ^ i : Nat) : Int)
      generalize 2 ^ i = m at hp ⊢
      omega)
    clear e0 hp
    go_enter Try.func26, Try.ntmps26
    go_wp2
    go_ret
    exact ⟨by rw [← HE.out]; rfl, rfl⟩
end Go.Proofs.Ytjedfgflkhchiaa
