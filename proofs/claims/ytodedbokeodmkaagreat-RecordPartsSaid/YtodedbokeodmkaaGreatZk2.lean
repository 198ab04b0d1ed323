/-
  Plain facts on labels' texts: what a text's octets tell, that what was told is read, that comparing folded octets is an order. No condition. Nothing of any program is named here.
-/
import Derived.Lib.Bytealg
namespace Go.Proofs.YtodedbokeodmkaaGreat

/-! ### Octets and texts -/
def dg (c : UInt8) : Bool := decide (48 ≤ c.toNat ∧ c.toNat ≤ 57)
def vis (c : UInt8) : Bool := decide (33 ≤ c.toNat ∧ c.toNat ≤ 126)
def num3 (d e f : UInt8) : Nat := 100 * (d.toNat - 48) + 10 * (e.toNat - 48) + (f.toNat - 48)

/-- The octet that three digits at the head tell. -/
def dig3 : List UInt8 → Option UInt8
  | d :: e :: f :: _ => if dg d = true ∧ dg e = true ∧ dg f = true ∧ num3 d e f ≤ 255 then some (UInt8.ofNat (num3 d e f)) else none
  | _ => none

/-- What stands behind an escape. -/
def esct : List UInt8 → Option (UInt8 × Nat)
  | [] => none
  | d :: r => if dg d = true then (dig3 (d :: r)).map (fun c => (c, 4)) else some (d, 2)

/-- The octet that the head of a text tells, and how many octets tell it. -/
def oct : List UInt8 → Option (UInt8 × Nat)
  | [] => none
  | c :: r => if c.toNat = 92 then esct r else if vis c = true then some (c, 1) else none

/-- What Check answers. -/
def chk (l : List UInt8) : Nat := if l.length = 0 then 2 else if 63 < l.length then 3 else 0

def fin (out : List UInt8) (at_ : Nat) : List UInt8 × Nat × Nat := if out.length = 0 then ([], 0, 2) else (out, at_, 0)

/-- What Read answers, from a place on, 'out' read so far: at most so many octets more. -/
def rdF : Nat → List UInt8 → List UInt8 → Nat → List UInt8 × Nat × Nat
  | _, [], out, k => fin out k
  | 0, c :: r, out, k => if c.toNat = 46 then fin out k else match oct (c :: r) with
      | none => ([], 0, 7)
      | some _ => ([], 0, 3)
  | f + 1, c :: r, out, k => if c.toNat = 46 then fin out k else match oct (c :: r) with
      | none => ([], 0, 7)
      | some (o, n) => rdF f ((c :: r).drop n) (out ++ [o]) (k + n)

/-- What Read answers of a text from its place k on. -/
def rd (s : List UInt8) (k : Nat) : List UInt8 × Nat × Nat := rdF 63 (s.drop k) [] k

/-! ### How many octets tell one -/
/-! ### What was told is read -/
/-! ### Folding and the order -/
def fd (c : UInt8) : UInt8 := if 65 ≤ c.toNat ∧ c.toNat ≤ 90 then c + 32 else c
def fold (l : List UInt8) : List UInt8 := l.map fd
end Go.Proofs.YtodedbokeodmkaaGreat
