/-
  Plain facts on labels' texts: what a text's octets tell, that what was told is read, that comparing folded octets is an order. No condition. Nothing of any program is named here. Plain facts on names: labels put one behind the other and cut again, texts of names read back, canonical order, who is under whom. No condition. Nothing of any program is named here.
-/
import Derived.Lib.Bytealg
namespace Go.Proofs.YtpmlldgjbmingaaGreatDoor

/-! ### Octets and texts -/
/-- What Check answers. -/
def chk (l : List UInt8) : Nat := if l.length = 0 then 2 else if 63 < l.length then 3 else 0

def fin (out : List UInt8) (at_ : Nat) : List UInt8 × Nat × Nat := if out.length = 0 then ([], 0, 2) else (out, at_, 0)

/-! ### How many octets tell one -/
/-! ### What was told is read -/
/-- Behind a text there is nothing, or a dot. -/
def Stop (r : List UInt8) : Prop := r = [] ∨ ∃ c t, r = c :: t ∧ c.toNat = 46

/-! ### Folding and the order -/
def fd (c : UInt8) : UInt8 := if 65 ≤ c.toNat ∧ c.toNat ≤ 90 then c + 32 else c
def fold (l : List UInt8) : List UInt8 := l.map fd
end Go.Proofs.YtpmlldgjbmingaaGreatDoor
namespace Go.Proofs.YtpmlldgjbmingaaGreatDoor

/-! ### Labels, one behind the other -/
def cutL : List UInt8 → Option (List UInt8 × List UInt8)
  | [] => none
  | c :: r => if 1 ≤ c.toNat ∧ c.toNat ≤ 63 ∧ c.toNat ≤ r.length then some (r.take c.toNat, r.drop c.toNat) else none
def labsF : Nat → List UInt8 → List (List UInt8)
  | 0, _ => []
  | f + 1, l => match cutL l with
    | none => []
    | some x => x.1 :: labsF f x.2
/-- The labels that octets begin with. -/
def labs (l : List UInt8) : List (List UInt8) := labsF l.length l
def enc1 (x : List UInt8) : List UInt8 := UInt8.ofNat x.length :: x
def enc (L : List (List UInt8)) : List UInt8 := L.flatMap enc1
/-- What Check answers. -/
def chkN (l : List UInt8) : Nat := if 254 < l.length then 3 else if (enc (labs l)).length = l.length then 0 else 4
/-- What Labels answers. -/
def nlabs (l : List UInt8) : List (List UInt8) := if chkN l = 0 then labs l else []
/-! ### A name of labels -/
def named (o : List UInt8) : List UInt8 × Nat := if 254 < o.length then ([], 3) else (o, 0)
/-- The first error of labels. -/
def badL : List (List UInt8) → Nat
  | [] => 0
  | x :: L => if chk x = 0 then badL L else chk x
def mkN (L : List (List UInt8)) : List UInt8 × Nat := if badL L = 0 then named (enc L) else ([], badL L)

/-! ### Texts -/
/-! ### Folding -/
/-! ### Canonical order -/
/-- A name's folded labels from the root's side on. -/
def rows (l : List UInt8) : List (List UInt8) := ((nlabs l).map fold).reverse
/-! ### Parents, joins, wildcards -/
end Go.Proofs.YtpmlldgjbmingaaGreatDoor
