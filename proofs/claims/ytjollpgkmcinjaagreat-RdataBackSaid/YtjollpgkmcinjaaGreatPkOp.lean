/-
  What a packer's Begin and End answer, and its own begin, end: the walks. Conditions: as each theorem names them.
-/
import Derived.Test.YtjollpgkmcinjaaGreatPkOb
import Derived.IntWalk
namespace Go.Proofs.YtjollpgkmcinjaaGreat
open Go.RowKit Go.Maps
set_option linter.unusedVariables false

theorem infoI : (Tryz.prog.info? 3).map (fun i => (i.zero, i.size, i.bytes)) = some (some (.int .i64 0), 1, 8) := by kernel_rfl
theorem ownsRow_shape {w : World} {base : Nat} {t : TypeId} {size : Nat} {v : Value} {n : Nat} {xs : List Value} (h : w.ownsRow base t size v n xs) : ∃ A cap, v = .slice A n cap := by
  rcases h.2 with ⟨rfl, rfl⟩ | ⟨g, cap, _, rfl, _⟩
  · exact ⟨none, 0, rfl⟩
  · exact ⟨_, cap, rfl⟩
section
variable {w : World} {base g gw gm n M : Nat} {F : Nat → Prop} {sv : Value} {s : PS}
theorem add_off (q j : Nat) : (⟨q, 0, none⟩ : Addr).add j = ⟨q, j, none⟩ := by unfold Addr.add; split <;> simp_all
theorem Inv.opened (h : Inv M s) {a : Nat} (ha : a + 2 ≤ s.l.length) (hl : s.o.length + 1 ≤ s.l.length) : Inv M { s with o := s.o ++ [a] } :=
  ⟨h.le, h.most, h.mark, fun b hb => by
    rcases List.mem_append.1 hb with hb | hb
    · exact h.begun b hb
    · rw [List.mem_singleton.1 hb]; exact ha, by rw [List.length_append]; exact hl⟩
theorem getLast_take {l : List Nat} {b : Nat} (h : l.getLast? = some b) : l = l.dropLast ++ [b] ∧ l.dropLast = l.take (l.length - 1) ∧ l[l.length - 1]? = some b ∧ 1 ≤ l.length := by
  rw [List.getLast?_eq_some_iff] at h
  obtain ⟨ys, rfl⟩ := h
  simp
theorem Inv.closed (h : Inv M s) {b : Nat} (hb : s.o.getLast? = some b) : Inv M { s with o := s.o.dropLast } :=
  ⟨h.le, h.most, h.mark, fun a ha => h.begun a (List.dropLast_subset _ ha), by rw [List.length_dropLast]; have := h.olen; show s.o.length - 1 ≤ s.l.length; omega⟩
/-! ### Begin, End -/
theorem room02 : room 0 2 = true := by kernel_rfl
theorem num02 : numS M s 0 2 = putS M s [0, 0] ∨ s.f ≠ 0 := by
  by_cases hf : s.f = 0
  · left
    unfold numS putS
    rw [hf, numW_put room02]
    rfl
  · exact .inr hf
theorem begin_ok (h : Inv M s) (hz : (numS M s 0 2).1 = 0) : (numS M s 0 2).2 = { s with l := s.l ++ [0, 0] } := by
  rcases num02 (M := M) (s := s) with e | hf
  · rw [e] at hz ⊢
    exact (put_ok hz).2.2
  · unfold numS at hz
    rw [numW_err hf] at hz
    exact absurd hz hf
theorem over_len2 {l : List UInt8} {b : Nat} (h : b + 2 ≤ l.length) : (over l b (octs (l.length - b - 2) 2)).length = l.length := over_length _ _ _ (by rw [octs_length]; omega)
end
end Go.Proofs.YtjollpgkmcinjaaGreat
