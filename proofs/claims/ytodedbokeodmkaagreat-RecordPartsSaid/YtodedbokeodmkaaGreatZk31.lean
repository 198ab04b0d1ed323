/-
  Rows that can be read, cut in parts; numbers' octets. Conditions: as each theorem names them.
-/
import Derived.Test.YtodedbokeodmkaaGreatZk30
namespace Go.Proofs.YtodedbokeodmkaaGreat
open Go.RowKit
set_option linter.unusedVariables false

section
variable {α : Type} {enc : α → Value} {w w' : World} {v : Value} {L : List α}
theorem add_offA (g off n : Nat) : (⟨g, off, none⟩ : Addr).add n = ⟨g, off + n, none⟩ := by unfold Addr.add; split <;> simp_all
/-- A row in a block, as it lies: what a part of it is. -/
structure At (enc : α → Value) (w : World) (g off cap : Nat) (L : List α) : Prop where
  lt : g < w.heap.size
  le : L.length ≤ cap
  fit : cap ≤ maxLen
  cell : ∀ j (h : j < L.length), w.cell? ⟨g, off + j, none⟩ = some (enc L[j])
theorem At.row {g off cap : Nat} (h : At enc w g off cap L) : RowE enc w (.slice (some ⟨g, off, none⟩) L.length cap) L := .inr ⟨g, off, cap, rfl, h.lt, h.le, h.fit, h.cell⟩
theorem At.take {g off cap : Nat} (h : At enc w g off cap L) {n : Nat} (hn : n ≤ L.length) : RowE enc w (.slice (some ⟨g, off, none⟩) n cap) (L.take n) := by
  have hl : (L.take n).length = n := by rw [List.length_take]; omega
  refine .inr ⟨g, off, cap, by rw [hl], h.lt, by rw [hl]; have := h.le; omega, h.fit, fun j hj => ?_⟩
  rw [hl] at hj
  rw [h.cell j (by omega), List.getElem_take]
theorem At.drop {g off cap : Nat} (h : At enc w g off cap L) {n : Nat} (hn : n ≤ L.length) : RowE enc w (.slice (some ⟨g, off + n, none⟩) (L.length - n) (cap - n)) (L.drop n) := by
  have hl : (L.drop n).length = L.length - n := List.length_drop
  refine .inr ⟨g, off + n, cap - n, by rw [hl], h.lt, by rw [hl]; have := h.le; omega, by have := h.fit; omega, fun j hj => ?_⟩
  rw [hl] at hj
  rw [Nat.add_assoc, h.cell (n + j) (by omega), List.getElem_drop]
theorem RowE.at' (h : RowE enc w v L) (hL : L ≠ []) : ∃ g off cap, v = .slice (some ⟨g, off, none⟩) L.length cap ∧ At enc w g off cap L := by
  rcases h with ⟨rfl, rfl⟩ | ⟨g, off, cap, h1, h2, h3, h4, h5⟩
  · exact absurd rfl hL
  · exact ⟨g, off, cap, h1, h2, h3, h4, h5⟩
theorem At.next {g off cap : Nat} (h : At enc w g off cap L) (hb : Below w.heap.size w w') : At enc w' g off cap L :=
  ⟨Nat.lt_of_lt_of_le h.lt hb.size, h.le, h.fit, fun j hj => (hb.cell (p := ⟨g, off + j, none⟩) h.lt).trans (h.cell j hj)⟩
theorem At.drewN {g off cap : Nat} (h : At enc w g off cap L) (n : Nat) : At enc (w.drewN n) g off cap L := ⟨h.lt, h.le, h.fit, h.cell⟩
theorem At.heap {g off cap : Nat} (h : At enc w g off cap L) (e : w'.heap = w.heap) : At enc w' g off cap L :=
  ⟨by rw [e]; exact h.lt, h.le, h.fit, fun j hj => (World.cell?_of_block (w := w) (w' := w') (by rw [e])).trans (h.cell j hj)⟩
theorem At.alloc {g off cap : Nat} (h : At enc w g off cap L) (o : Obj) : At enc (w.alloc o) g off cap L := h.next ((Below.refl _ _).alloc (Nat.le_refl _) o)
theorem At.of_own {base : Nat} {t : TypeId} {g cap : Nat} (h : w.ownsRow base t 1 (.slice (some ⟨g, 0, none⟩) L.length cap) L.length (L.map enc)) : At enc w g 0 cap L := by
  rcases h.2 with ⟨h', _⟩ | ⟨g', cap', cur, h', hb, hg, hnc, hcm, _⟩
  · simp at h'
  · simp only [Value.slice.injEq, Option.some.injEq, Addr.mk.injEq, and_true, true_and] at h'
    obtain ⟨rfl, rfl⟩ := h'
    refine ⟨?_, hnc, hcm, fun j hj => ?_⟩
    · rcases Nat.lt_or_ge g w.heap.size with hlt | hge
      · exact hlt
      · rw [Array.getElem?_eq_none hge] at hg; cases hg
    · have := World.ownsRow.cells h (g := g) rfl j (enc L[j]) (by rw [List.getElem?_map, List.getElem?_eq_getElem hj]; rfl)
      rw [add_offA] at this
      exact this
theorem At.of_row {g cap : Nat} {l : List UInt8} (h : Row w g l) (h1 : l.length ≤ cap) (h2 : cap ≤ maxLen) : At B w g 0 cap l := ⟨h.lt, h1, h2, fun j hj => by rw [Nat.zero_add]; exact h.cell j hj⟩
end

/-! ### cut -/
theorem made_ownA {w1 : World} {base n : Nat} {tb : TypeId} {v : Value} (h : w1.ownsRow base tb 1 v n (madeCells (Value.int .u8 0).cells (n * 1)).toList) : w1.ownsRow base tb 1 v n ((List.replicate n (0 : UInt8)).map B) := by
  have e : (madeCells (Value.int .u8 0).cells (n * 1)).toList = (List.replicate n (0 : UInt8)).map B := by
    rw [Nat.mul_one, List.map_replicate]
    exact toList_madeCells_one _ _
  rw [← e]
  exact h
theorem shr8A (v m : Nat) : (v : Int) / 2 ^ (8 * m) % 256 = ((UInt8.ofNat (v / 256 ^ m)).toNat : Int) := by
  have e : (2 : Int) ^ (8 * m) = ((256 ^ m : Nat) : Int) := by
    rw [show (256 : Nat) = 2 ^ 8 by decide, ← Nat.pow_mul]
    exact (Int.natCast_pow 2 (8 * m)).symm
  rw [ofNat_val, Int.natCast_emod, Int.natCast_ediv, e]
  rfl
def AcRel (v n : Nat) (w : World) (i : Value) (wr : World) : Prop :=
  ∃ k : Nat, i = .int .i64 k ∧ k ≤ n ∧ wr.ownsRow w.heap.size 5 1 (.slice (some ⟨w.heap.size, 0, none⟩) n n) n ((front v n k).map B) ∧ Below w.heap.size w wr
set_option maxHeartbeats 1000000 in
theorem acut_any (v n : Nat) (w : World) (hv : v < 18446744073709551616) (hn : n ≤ 8) :
    Calls Tryz.prog 219 #[.int .u64 v, .int .i64 n] w fun e w' => e = .returned (.slice (some ⟨w.heap.size, 0, none⟩) n n) ∧ Own 5 w' w.heap.size (.slice (some ⟨w.heap.size, 0, none⟩) n n) (octs v n) ∧ Below w.heap.size w w' := by
  obtain ⟨i0, hi, hz0, hz1, hz2⟩ := info_parts bt.info
  obtain ⟨w1, hmk, hown, hg⟩ := run_make_full w w.heap.size 128 5 i0 (.int .u8 0) 1 bt.us hi hz0 hz1 .i64 .i64 n (by rw [hz2]; omega) (by unfold maxLen; omega) (Nat.le_refl _)
  have HB1 := Lib.hid ((Below.refl w.heap.size w).grown hg (Nat.le_refl _) (by simp))
  have HO1 := Lib.hid (made_ownA hown)
  rw [← front_zero v n] at HO1
  have HR0 : Hid (AcRel v n w (.int .i64 0) w1) := Lib.hid ⟨0, rfl, Nat.zero_le _, HO1.out, HB1.out⟩
  clear hi hz0 hz1 hz2 hown hg HO1
  go_enter Tryz.func219, Tryz.ntmps219
  go_wp2
  clear hmk
  go_loopw [11] (fun i wr => AcRel v n w i wr) (fun i _ => n - (intOf i).toNat)
  case atStart => exact HR0.out
  case round =>
    clear HR0
    obtain ⟨k, rfl, hk, hown, hb⟩ := hrel
    rcases Nat.lt_or_ge k n with hlt | hge
    · obtain ⟨u, hcell⟩ : ∃ u, wr.cell? ⟨w.heap.size, k, none⟩ = some u := by
        have hfl := front_length (v := v) hk
        exact ⟨B ((front v n k)[k]'(by omega)), by rw [World.ownsRow.cellAt hown k (by omega), List.getElem?_map, List.getElem?_eq_getElem (by omega)]; rfl⟩
      have hfr : wr.frozen? ⟨w.heap.size, k, none⟩ = false := World.ownsRow.frozenAt hown k
      obtain ⟨m, hm⟩ : ∃ m, n - 1 - k = m := ⟨_, rfl⟩
      have HM : Hid ((n : Int) - 1 - k = (m : Int)) := Lib.hid (by omega)
      have HV : Hid (Value.int .u8 ((v : Int) / 2 ^ (8 * m) % 256) = B (UInt8.ofNat (v / 256 ^ (n - 1 - k)))) := Lib.hid (by
        rw [hm, shr8A]
        rfl)
      have HF := Lib.hid (front_step (v := v) hlt)
      have HO := Lib.hid hown
      clear hown
      go_wp2
      go_roundw
      case rel =>
        have h1 := (World.ownsRow.stored HO.out k (B (UInt8.ofNat (v / 256 ^ (n - 1 - k))))).1
        rw [← List.map_set, HF.out] at h1
        exact ⟨k + 1, by go_num, by omega, by rw [HV.out]; exact h1, hb.setCell (by simp) _⟩
      case measure => simp [intOf]; omega
    · obtain rfl : k = n := by omega
      rw [front_end] at hown
      have HO := Lib.hid hown
      clear hown
      go_wp2
      go_ret
      exact ⟨rfl, own_of (octs_length _ _) HO.out, hb⟩
end Go.Proofs.YtodedbokeodmkaaGreat
