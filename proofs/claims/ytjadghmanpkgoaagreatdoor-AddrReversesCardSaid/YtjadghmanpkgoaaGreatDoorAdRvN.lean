/-
  What the law AddrReverses asks: the digits of a reverse name as an address' text. Conditions: as each theorem names them. Nothing of any program is named here.
-/
import Derived.Test.YtjadghmanpkgoaaGreatDoorAdRvM
import Derived.KernelRfl
namespace Go.Proofs.YtjadghmanpkgoaaGreatDoor
open Go.RowKit
set_option linter.unusedVariables false

/-- The digits put together from the front on, a colon behind each fourth but the last. -/
def accD (L : List (List UInt8)) : Nat → List UInt8
  | 0 => []
  | j + 1 => accD L j ++ L.getD j [] ++ (if j % 4 = 3 ∧ j < 31 then [58] else [])
theorem sixteen {l : List UInt8} (h : l.length = 16) : ∃ c0 c1 c2 c3 c4 c5 c6 c7 c8 c9 c10 c11 c12 c13 c14 c15, l = [c0, c1, c2, c3, c4, c5, c6, c7, c8, c9, c10, c11, c12, c13, c14, c15] := by
  match l, h with
  | [c0, c1, c2, c3, c4, c5, c6, c7, c8, c9, c10, c11, c12, c13, c14, c15], _ => exact ⟨c0, c1, c2, c3, c4, c5, c6, c7, c8, c9, c10, c11, c12, c13, c14, c15, rfl⟩
theorem four_pair (c d : UInt8) : four (c.toNat * 256 + d.toNat) = [hexd (c.toNat / 16), hexd (c.toNat % 16), hexd (d.toNat / 16), hexd (d.toNat % 16)] := by
  have h1 := c.toNat_lt
  have h2 := d.toNat_lt
  unfold four
  rw [show (c.toNat * 256 + d.toNat) / 4096 = c.toNat / 16 by omega, show (c.toNat * 256 + d.toNat) / 256 % 16 = c.toNat % 16 by omega, show (c.toNat * 256 + d.toNat) / 16 % 16 = d.toNat / 16 by omega, show (c.toNat * 256 + d.toNat) % 16 = d.toNat % 16 by omega]
theorem hex_hi (c : UInt8) : hexT (c.toNat / 16) = [hexd (c.toNat / 16)] := hexT_one _ (by have := c.toNat_lt; omega)
theorem hex_lo (c : UInt8) : hexT (c.toNat % 16) = [hexd (c.toNat % 16)] := hexT_one _ (by omega)
theorem acc_flat (x0 x1 x2 x3 x4 x5 x6 x7 x8 x9 x10 x11 x12 x13 x14 x15 x16 x17 x18 x19 x20 x21 x22 x23 x24 x25 x26 x27 x28 x29 x30 x31 : UInt8) : accD [[x0], [x1], [x2], [x3], [x4], [x5], [x6], [x7], [x8], [x9], [x10], [x11], [x12], [x13], [x14], [x15], [x16], [x17], [x18], [x19], [x20], [x21], [x22], [x23], [x24], [x25], [x26], [x27], [x28], [x29], [x30], [x31]] 32 = [x0, x1, x2, x3, 58, x4, x5, x6, x7, 58, x8, x9, x10, x11, 58, x12, x13, x14, x15, 58, x16, x17, x18, x19, 58, x20, x21, x22, x23, 58, x24, x25, x26, x27, 58, x28, x29, x30, x31] := by kernel_rfl
theorem acc_join {l : List UInt8} (h : l.length = 16) : accD (digsT l) 32 = Lib.join ((pairs l).map four) [58] := by
  obtain ⟨c0, c1, c2, c3, c4, c5, c6, c7, c8, c9, c10, c11, c12, c13, c14, c15, rfl⟩ := sixteen h
  have e : digsT [c0, c1, c2, c3, c4, c5, c6, c7, c8, c9, c10, c11, c12, c13, c14, c15] = [[hexd (c0.toNat / 16)], [hexd (c0.toNat % 16)], [hexd (c1.toNat / 16)], [hexd (c1.toNat % 16)], [hexd (c2.toNat / 16)], [hexd (c2.toNat % 16)], [hexd (c3.toNat / 16)], [hexd (c3.toNat % 16)], [hexd (c4.toNat / 16)], [hexd (c4.toNat % 16)], [hexd (c5.toNat / 16)], [hexd (c5.toNat % 16)], [hexd (c6.toNat / 16)], [hexd (c6.toNat % 16)], [hexd (c7.toNat / 16)], [hexd (c7.toNat % 16)], [hexd (c8.toNat / 16)], [hexd (c8.toNat % 16)], [hexd (c9.toNat / 16)], [hexd (c9.toNat % 16)], [hexd (c10.toNat / 16)], [hexd (c10.toNat % 16)], [hexd (c11.toNat / 16)], [hexd (c11.toNat % 16)], [hexd (c12.toNat / 16)], [hexd (c12.toNat % 16)], [hexd (c13.toNat / 16)], [hexd (c13.toNat % 16)], [hexd (c14.toNat / 16)], [hexd (c14.toNat % 16)], [hexd (c15.toNat / 16)], [hexd (c15.toNat % 16)]] := by
    simp only [digsT, List.flatMap_cons, List.flatMap_nil, List.cons_append, List.nil_append, hex_hi, hex_lo]
  rw [e, acc_flat]
  simp only [pairs, List.map_cons, List.map_nil, four_pair, join2, Lib.join_one, List.cons_append, List.nil_append]
theorem acc_read {a : Ad} (hf : fitA a) (h : a.1 = true) : rdA (accD (digA a) 32) = (a, 0) := by
  obtain ⟨six, hi, lo⟩ := a
  simp only at h
  subst h
  have e : digA (true, hi, lo) = digsT (octA (true, hi, lo)) := rfl
  have hl : (octA (true, hi, lo)).length = 16 := by
    show (octs hi 8 ++ octs lo 8).length = 16
    rw [List.length_append, octs_length, octs_length]
  rw [e, acc_join hl]
  have hg := grpA_len (true, hi, lo)
  have hlt := grpA_lt (true, hi, lo)
  have e2 : grpA (true, hi, lo) = pairs (octA (true, hi, lo)) := rfl
  rw [e2] at hg hlt
  have he := eachO_map (f := hexO 4) (g := four) (e := id) (l := pairs (octA (true, hi, lo))) fun v hv => hexO_four (hlt v hv)
  rw [List.map_id] at he
  rw [read_parts (by rw [List.length_map, hg]) (fun x hx => by
    obtain ⟨v, hv, rfl⟩ := List.mem_map.1 hx
    exact four_ok (hlt v hv)) he, ← e2, newer_groups hf.1 hf.2]
theorem acc_len (L : List (List UInt8)) (h : ∀ x ∈ L, x.length ≤ 1) : ∀ j, (accD L j).length ≤ 2 * j
  | 0 => Nat.le_refl _
  | j + 1 => by
    have h1 := acc_len L h j
    have h2 : (L.getD j []).length ≤ 1 := by
      rw [List.getD_eq_getElem?_getD]
      cases e : L[j]? with
      | none => simp
      | some x => exact h x (List.mem_of_getElem? e)
    unfold accD
    rw [List.length_append, List.length_append]
    have h3 : (if j % 4 = 3 ∧ j < 31 then [58] else ([] : List UInt8)).length ≤ 1 := by split <;> decide
    omega
end Go.Proofs.YtjadghmanpkgoaaGreatDoor
