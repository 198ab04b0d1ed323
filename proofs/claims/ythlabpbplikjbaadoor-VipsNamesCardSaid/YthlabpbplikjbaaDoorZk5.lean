/-
  What an address' octets are: the walks of addr.joined, elder, newer, cut. Conditions: as each theorem names them. Rows that can be read, cut in parts; numbers' octets. Conditions: as each theorem names them. Addresses of octets, and their octets: the walks of addr.elder, newer, Four, Check, allOctets, octetsOf, Octets, Of. Conditions: as each theorem names them.
-/
import Derived.Test.YthlabpbplikjbaaDoorZk2
import Derived.Test.YthlabpbplikjbaaDoorZk4
import Derived.Laws.BitsAllLaws
import Derived.Laws.Bits64
import Derived.Laws.ResultCell
import Derived.Laws.Rows
namespace Go.Proofs.YthlabpbplikjbaaDoor
open Go.RowKit
set_option linter.unusedVariables false

/-- A slice whose elements can be read. -/
def RowE {α : Type} (enc : α → Value) (w : World) (v : Value) (L : List α) : Prop :=
  (v = .slice none 0 0 ∧ L = []) ∨ ∃ g off cap, v = .slice (some ⟨g, off, none⟩) L.length cap ∧ g < w.heap.size ∧ L.length ≤ cap ∧ cap ≤ maxLen ∧ ∀ j (h : j < L.length), w.cell? ⟨g, off + j, none⟩ = some (enc L[j])
section
variable {α : Type} {enc : α → Value} {w w' : World} {v : Value} {L : List α}
theorem RowE.below {k : Nat} (h : RowE enc w v L) (hb : Below k w w') (hk : w.heap.size ≤ k) : RowE enc w' v L := by
  rcases h with h | ⟨g, off, cap, h1, h2, h3, h4, h5⟩
  · exact .inl h
  · exact .inr ⟨g, off, cap, h1, Nat.lt_of_lt_of_le h2 hb.size, h3, h4, fun j hj => (hb.cell (p := ⟨g, off + j, none⟩) (Nat.lt_of_lt_of_le h2 hk)).trans (h5 j hj)⟩
theorem RowE.next (h : RowE enc w v L) (hb : Below w.heap.size w w') : RowE enc w' v L := h.below hb (Nat.le_refl _)
theorem RowE.drew (h : RowE enc w v L) : RowE enc w.drew v L := h
theorem RowE.drewN (h : RowE enc w v L) (n : Nat) : RowE enc (w.drewN n) v L := h
theorem RowE.shape (h : RowE enc w v L) : ∃ A cap, v = .slice A L.length cap ∧ L.length ≤ cap ∧ cap ≤ maxLen := by
  rcases h with ⟨rfl, rfl⟩ | ⟨g, off, cap, h1, h2, h3, h4, h5⟩
  · exact ⟨none, 0, rfl, Nat.le_refl _, Nat.zero_le _⟩
  · exact ⟨_, cap, h1, h3, h4⟩
theorem RowE.of_own {base : Nat} {t : TypeId} (h : w.ownsRow base t 1 v L.length (L.map enc)) : RowE enc w v L := by
  rcases h.2 with ⟨rfl, hn⟩ | ⟨g, cap, cur, rfl, hb, hg, hnc, hcm, _⟩
  · exact .inl ⟨rfl, List.eq_nil_of_length_eq_zero hn⟩
  · refine .inr ⟨g, 0, cap, rfl, ?_, hnc, hcm, fun j hj => ?_⟩
    · rcases Nat.lt_or_ge g w.heap.size with hlt | hge
      · exact hlt
      · rw [Array.getElem?_eq_none hge] at hg; cases hg
    · have := World.ownsRow.cells h (g := g) rfl j (enc L[j]) (by rw [List.getElem?_map, List.getElem?_eq_getElem hj]; rfl)
      have e : (⟨g, 0, none⟩ : Addr).add j = ⟨g, 0 + j, none⟩ := by unfold Addr.add; split <;> simp_all
      rw [e] at this
      exact this
end

end Go.Proofs.YthlabpbplikjbaaDoor
namespace Go.Proofs.YthlabpbplikjbaaDoor
open Go.RowKit
set_option linter.unusedVariables false

section
variable {α : Type} {enc : α → Value} {w w' : World} {v : Value} {L : List α}
theorem add_offA (g off n : Nat) : (⟨g, off, none⟩ : Addr).add n = ⟨g, off + n, none⟩ := by unfold Addr.add; split <;> simp_all
/-- A row in a block, as it lies: what a part of it is. -/
structure At (enc : α → Value) (w : World) (g off cap : Nat) (L : List α) : Prop where
  lt : g < w.heap.size
  le : L.length ≤ cap
  fit : cap ≤ maxLen
  cell : ∀ j (h : j < L.length), w.cell? ⟨g, off + j, none⟩ = some (enc L[j])
theorem At.row {g off cap : Nat} (h : At enc w g off cap L) : RowE enc w (.slice (some ⟨g, off, none⟩) L.length cap) L := .inr ⟨g, off, cap, rfl, h.lt, h.le, h.fit, h.cell⟩
theorem At.take {g off cap : Nat} (h : At enc w g off cap L) {n : Nat} (hn : n ≤ L.length) : RowE enc w (.slice (some ⟨g, off, none⟩) n cap) (L.take n) := by
  have hl : (L.take n).length = n := by rw [List.length_take]; omega
  refine .inr ⟨g, off, cap, by rw [hl], h.lt, by rw [hl]; have := h.le; omega, h.fit, fun j hj => ?_⟩
  rw [hl] at hj
  rw [h.cell j (by omega), List.getElem_take]
theorem At.drop {g off cap : Nat} (h : At enc w g off cap L) {n : Nat} (hn : n ≤ L.length) : RowE enc w (.slice (some ⟨g, off + n, none⟩) (L.length - n) (cap - n)) (L.drop n) := by
  have hl : (L.drop n).length = L.length - n := List.length_drop
  refine .inr ⟨g, off + n, cap - n, by rw [hl], h.lt, by rw [hl]; have := h.le; omega, by have := h.fit; omega, fun j hj => ?_⟩
  rw [hl] at hj
  rw [Nat.add_assoc, h.cell (n + j) (by omega), List.getElem_drop]
theorem At.next {g off cap : Nat} (h : At enc w g off cap L) (hb : Below w.heap.size w w') : At enc w' g off cap L :=
  ⟨Nat.lt_of_lt_of_le h.lt hb.size, h.le, h.fit, fun j hj => (hb.cell (p := ⟨g, off + j, none⟩) h.lt).trans (h.cell j hj)⟩
theorem At.drewN {g off cap : Nat} (h : At enc w g off cap L) (n : Nat) : At enc (w.drewN n) g off cap L := ⟨h.lt, h.le, h.fit, h.cell⟩
theorem At.heap {g off cap : Nat} (h : At enc w g off cap L) (e : w'.heap = w.heap) : At enc w' g off cap L :=
  ⟨by rw [e]; exact h.lt, h.le, h.fit, fun j hj => (World.cell?_of_block (w := w) (w' := w') (by rw [e])).trans (h.cell j hj)⟩
theorem At.alloc {g off cap : Nat} (h : At enc w g off cap L) (o : Obj) : At enc (w.alloc o) g off cap L := h.next ((Below.refl _ _).alloc (Nat.le_refl _) o)
theorem At.of_own {base : Nat} {t : TypeId} {g cap : Nat} (h : w.ownsRow base t 1 (.slice (some ⟨g, 0, none⟩) L.length cap) L.length (L.map enc)) : At enc w g 0 cap L := by
  rcases h.2 with ⟨h', _⟩ | ⟨g', cap', cur, h', hb, hg, hnc, hcm, _⟩
  · simp at h'
  · simp only [Value.slice.injEq, Option.some.injEq, Addr.mk.injEq, and_true, true_and] at h'
    obtain ⟨rfl, rfl⟩ := h'
    refine ⟨?_, hnc, hcm, fun j hj => ?_⟩
    · rcases Nat.lt_or_ge g w.heap.size with hlt | hge
      · exact hlt
      · rw [Array.getElem?_eq_none hge] at hg; cases hg
    · have := World.ownsRow.cells h (g := g) rfl j (enc L[j]) (by rw [List.getElem?_map, List.getElem?_eq_getElem hj]; rfl)
      rw [add_offA] at this
      exact this
end

/-! ### cut -/
end Go.Proofs.YthlabpbplikjbaaDoor
namespace Go.Proofs.YthlabpbplikjbaaDoor
open Go.RowKit
set_option linter.unusedVariables false

theorem infoA : (Tryd.prog.info? 29).map (·.size) = some 3 := by kernel_rfl
/-- What a function hands back that holds its address in a block. -/
theorem ret_ad {fn : Func} {p : Tmp} (h : fn.results = #[.cell p 29]) (tmps : Array Value) (w : World) (g : Nat) (a : Ad) (hp : tmps.getD p undef = .pointer (some ⟨g, 0, none⟩))
    (hg : Lies w g 29 #[.bool a.1, .int .u64 (a.2.1 : Int), .int .u64 (a.2.2 : Int)]) : (results fn tmps).run Tryd.prog w = .ok (av a) w :=
  results_cell_row h tmps w g _ _ _ _ hp hg Tryd.underlying29 rfl infoA
theorem ret_ad2 {fn : Func} {p u : Tmp} (h : fn.results = #[.cell p 29, .tmp u]) (tmps : Array Value) (w : World) (g : Nat) (a : Ad) (hp : tmps.getD p undef = .pointer (some ⟨g, 0, none⟩))
    (hg : Lies w g 29 #[.bool a.1, .int .u64 (a.2.1 : Int), .int .u64 (a.2.2 : Int)]) : (results fn tmps).run Tryd.prog w = .ok (.tuple #[av a, tmps.getD u undef]) w := by
  rw [results_cell_tmp h, hp]
  simp only [asAddr, Sem.run_pure, Result.andThen_ok]
  rw [run_loadVar_row w g _ _ _ _ _ hg Tryd.underlying29 rfl infoA]
  rfl

theorem size1 (w : World) (o : Obj) : (w.alloc o).heap.size = w.heap.size + 1 := by simp
/-- A block that bears an address. -/
def AdB (w : World) (g : Nat) (six : Bool) (hi lo : Int) : Prop := Lies w g 29 #[.bool six, .int .u64 hi, .int .u64 lo]
theorem AdB.facts {w : World} {g : Nat} {six : Bool} {hi lo : Int} (h : AdB w g six hi lo) : (w.cell? ⟨g, 0, none⟩ = some (.bool six) ∧ w.cell? ⟨g, 1, none⟩ = some (.int .u64 hi) ∧ w.cell? ⟨g, 2, none⟩ = some (.int .u64 lo)) ∧ w.frozen? ⟨g, 0, none⟩ = false ∧ w.frozen? ⟨g, 1, none⟩ = false ∧ w.frozen? ⟨g, 2, none⟩ = false :=
  ⟨⟨Lies.cell h 0, Lies.cell h 1, Lies.cell h 2⟩, Lies.free h 0, Lies.free h 1, Lies.free h 2⟩
theorem AdB.put {w : World} {g : Nat} {six : Bool} {hi lo : Int} (h : AdB w g six hi lo) (six' : Bool) (hi' lo' : Int) : AdB (((w.setCell ⟨g, 0, none⟩ (.bool six')).setCell ⟨g, 1, none⟩ (.int .u64 hi')).setCell ⟨g, 2, none⟩ (.int .u64 lo')) g six' hi' lo' := by
  have := ((Lies.set h 0 (.bool six')).set 1 (.int .u64 hi')).set 2 (.int .u64 lo')
  simpa [AdB] using this
theorem AdB.of {w w' : World} (o : Obj) (hb : Below ((w.alloc (.cells #[.bool false, .int .u64 0, .int .u64 0] 29)).alloc o).heap.size ((w.alloc (.cells #[.bool false, .int .u64 0, .int .u64 0] 29)).alloc o) w') : AdB w' w.heap.size false 0 0 := ((Lies.new w _ _).alloc _).next hb
theorem below_dN {n : Nat} {w w' : World} (h : Below n w w') (k : Nat) : Below n w (w'.drewN k) := ⟨h.os, h.tape, h.output, h.size, h.block⟩
theorem put3 {n g : Nat} {w w' : World} (h : Below n w w') (hg : n ≤ g) (x y z : Value) : Below n w (((w'.setCell ⟨g, 0, none⟩ x).setCell ⟨g, 1, none⟩ y).setCell ⟨g, 2, none⟩ z) := ((h.setCell (p := ⟨g, 0, none⟩) hg x).setCell (p := ⟨g, 1, none⟩) hg y).setCell (p := ⟨g, 2, none⟩) hg z
theorem aCheck_any (six : Bool) (hi lo : Nat) (w : World) (h1 : hi < 18446744073709551616) (h2 : lo < 18446744073709551616) :
    Calls Tryd.prog 56 #[.agg #[.bool six, .int .u64 (hi : Int), .int .u64 (lo : Int)]] w fun e w' => e = .returned (.int .i64 (chkA (six, hi, lo))) ∧ Below w.heap.size w w' := by
  have hc : chkA (six, hi, lo) = if six = false ∧ (hi ≠ 0 ∨ 4294967295 < lo) then 2 else 0 := rfl
  rw [hc]
  clear hc
  cases six
  · by_cases h3 : hi = 0
    · subst h3
      by_cases h4 : 4294967295 < lo
      · rw [if_pos ⟨rfl, .inr h4⟩]
        go_enter Tryd.func56, Tryd.ntmps56
        go_wp2
        go_ret
        exact ⟨rfl, (Below.refl _ _).alloc (Nat.le_refl _) _⟩
      · rw [if_neg (by simp; omega)]
        go_enter Tryd.func56, Tryd.ntmps56
        go_wp2
        go_ret
        exact ⟨rfl, (Below.refl _ _).alloc (Nat.le_refl _) _⟩
    · rw [if_pos ⟨rfl, .inl h3⟩]
      go_enter Tryd.func56, Tryd.ntmps56
      go_wp2
      go_ret
      exact ⟨rfl, (Below.refl _ _).alloc (Nat.le_refl _) _⟩
  · rw [if_neg (by simp)]
    go_enter Tryd.func56, Tryd.ntmps56
    go_wp2
    go_ret
    exact ⟨rfl, (Below.refl _ _).alloc (Nat.le_refl _) _⟩

end Go.Proofs.YthlabpbplikjbaaDoor
