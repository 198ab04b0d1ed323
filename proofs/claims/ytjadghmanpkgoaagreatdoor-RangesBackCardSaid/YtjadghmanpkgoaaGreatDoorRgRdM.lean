/-
  Ranges' texts: what is read of a text, what is told: mathematics. Conditions: as each theorem names them. Nothing of any program is named here.
-/
import Derived.Test.YtjadghmanpkgoaaGreatDoorRgMth
import Derived.Test.YtjadghmanpkgoaaGreatDoorAdMth
namespace Go.Proofs.YtjadghmanpkgoaaGreatDoor
open Go.RowKit
set_option linter.unusedVariables false

/-- The number whose digits these are, three at most, written in one way. -/
def numG (s : List UInt8) : Option Nat := match Lib.parseUintB 16 s with
  | .ok v => if s.length ≤ 3 ∧ decT v = s then some v else none
  | _ => none
/-- What Read answers: an address, bits, an error. -/
def rdR (s : List UInt8) : Ad × Nat × Nat :=
  if (rdA (Lib.cut s [47]).1).2 ≠ 0 then (noA, 0, (rdA (Lib.cut s [47]).1).2) else match numG (Lib.cut s [47]).2.1 with
    | none => (noA, 0, 7)
    | some n => if chkR (rdA (Lib.cut s [47]).1).1 n ≠ 0 then (noA, 0, chkR (rdA (Lib.cut s [47]).1).1 n) else ((rdA (Lib.cut s [47]).1).1, n, 0)
/-- What Text answers. -/
def txR (r : Ad) (n : Int) : List UInt8 × Nat := if chkR r n ≠ 0 then ([], chkR r n) else ((txA r).1 ++ 47 :: decT n.toNat, 0)
theorem parseM_le' (M : Nat) : ∀ (l : List UInt8) (acc u : Nat), acc ≤ M → Lib.parseUintM M acc l = .ok u → u ≤ M
  | [], acc, u, h, e => by
    unfold Lib.parseUintM at e
    injection e with e
    omega
  | c :: r, acc, u, h, e => by
    unfold Lib.parseUintM at e
    split at e
    · split at e
      · cases e
      · split at e
        · cases e
        · exact parseM_le' M r _ u (by omega) e
    · cases e
theorem parse16_le {l : List UInt8} {u : Nat} (h : Lib.parseUintB 16 l = .ok u) : u ≤ 65535 := by
  unfold Lib.parseUintB at h
  split at h
  · cases h
  · exact parseM_le' (2 ^ 16 - 1) l 0 u (by decide) h
theorem parseM_small (M : Nat) : ∀ (l : List UInt8) (acc u : Nat), Lib.parseUintM M acc l = .ok u → u < (acc + 1) * 10 ^ l.length
  | [], acc, u, e => by
    unfold Lib.parseUintM at e
    injection e with e
    simp only [List.length_nil, Nat.pow_zero, Nat.mul_one]
    omega
  | c :: r, acc, u, e => by
    unfold Lib.parseUintM at e
    split at e
    · split at e
      · cases e
      · split at e
        · cases e
        · have h := parseM_small M r _ u e
          have h2 : acc * 10 + (c.toNat - 48) + 1 ≤ (acc + 1) * 10 := by omega
          rw [List.length_cons, Nat.pow_succ, Nat.mul_comm (10 ^ r.length) 10, ← Nat.mul_assoc]
          exact Nat.lt_of_lt_of_le h (Nat.mul_le_mul_right _ h2)
    · cases e
theorem parse_small {l : List UInt8} {u : Nat} (h : Lib.parseUintB 16 l = .ok u) (hl : l.length ≤ 3) : u < 1000 := by
  unfold Lib.parseUintB at h
  split at h
  · cases h
  · have h1 := parseM_small _ l 0 u h
    have h2 : 10 ^ l.length ≤ 10 ^ 3 := Nat.pow_le_pow_right (by decide) hl
    omega
theorem numG_dec : ∀ n : Fin 129, numG (decT n.val) = some n.val := by decide +kernel
theorem dec_len : ∀ n : Fin 129, (decT n.val).length ≤ 3 ∧ (47 : UInt8) ∉ decT n.val := by decide +kernel
example : rdR [49, 48, 46, 48, 46, 48, 46, 48, 47, 51, 48] = ((false, 0, 167772160), 30, 0) := by decide +kernel
example : rdR [49, 48, 46, 48, 46, 48, 46, 49, 47, 51, 48] = (noA, 0, 2) := by decide +kernel
end Go.Proofs.YtjadghmanpkgoaaGreatDoor
