/-
  Addresses as plain data: their octets, groups, texts, reverse names, and what is read of a text: the mathematics that the contracts of layer 4 name. No condition. Nothing of any program is named here.
-/
import Derived.Test.YtodedbokeodmkaaGreatZk3
import Derived.Test.YtodedbokeodmkaaGreatZk1
import Derived.Lib.Split
import Derived.Lib.CutLaws
import Derived.Lib.LastIndexLaws
import Derived.Lib.Join
import Derived.Lib.Itoa
import Derived.Lib.ItoaNum
import Derived.Lib.ParseIntB
namespace Go.Proofs.YtodedbokeodmkaaGreat
open Go.RowKit
set_option linter.unusedVariables false

/-- An address: is it of the newer kind; the higher half; the lower one. -/
abbrev Ad := Bool × Nat × Nat
/-- As the program holds it. -/
def av (a : Ad) : Value := .agg #[.bool a.1, .int .u64 (a.2.1 : Int), .int .u64 (a.2.2 : Int)]
def noA : Ad := (false, 0, 0)
/-- What Check answers. -/
def chkA (a : Ad) : Nat := if a.1 = false ∧ (a.2.1 ≠ 0 ∨ 4294967295 < a.2.2) then 2 else 0

/-- Parts put together, the highest first, to the base m. -/
def jn (m : Nat) (l : List Nat) : Nat := l.foldl (fun v p => v * m + p) 0
def nats (l : List UInt8) : List Nat := l.map (·.toNat)
def elderA (l : List Nat) : Ad := (false, 0, jn 256 l)
def newerA (m : Nat) (l : List Nat) : Ad := (true, jn m (l.take (l.length / 2)), jn m (l.drop (l.length / 2)))
def allO (a : Ad) : List UInt8 := octs a.2.1 8 ++ octs a.2.2 8
/-- What Octets answers of one that may be. -/
def octA (a : Ad) : List UInt8 := if a.1 then allO a else octs a.2.2 4
def pairs : List UInt8 → List Nat
  | x :: y :: r => (x.toNat * 256 + y.toNat) :: pairs r
  | _ => []
/-- The eight groups. -/
def grpA (a : Ad) : List Nat := pairs (allO a)

/-! ### Digits -/
def hexd (d : Nat) : UInt8 := if d < 10 then UInt8.ofNat (48 + d) else UInt8.ofNat (87 + d)
def hexF : Nat → Nat → List UInt8
  | 0, _ => []
  | f + 1, v => if v < 16 then [hexd v] else hexF f (v / 16) ++ [hexd (v % 16)]
/-- A number's digits by sixteen. -/
def hexT (v : Nat) : List UInt8 := hexF 16 v
/-- A number's digits by ten. -/
def decT (v : Nat) : List UInt8 := Lib.itoa (v : Int)
def hxv (c : UInt8) : Option Nat :=
  if 48 ≤ c.toNat ∧ c.toNat ≤ 57 then some (c.toNat - 48) else if 97 ≤ c.toNat ∧ c.toNat ≤ 102 then some (c.toNat - 87) else if 65 ≤ c.toNat ∧ c.toNat ≤ 70 then some (c.toNat - 55) else none
def hxF : Nat → List UInt8 → Option Nat
  | acc, [] => some acc
  | acc, c :: r => match hxv c with
    | none => none
    | some d => hxF (acc * 16 + d) r
/-- The number whose digits by sixteen these are, at most so many. -/
def hexO (most : Nat) (s : List UInt8) : Option Nat := if most < s.length ∨ s = [] then none else hxF 0 s
/-- The octet whose digits by ten these are. -/
def numO (s : List UInt8) : Option Nat := match Lib.parseUintB 8 s with
  | .ok v => if decT v = s then some v else none
  | _ => none
def eachO (f : List UInt8 → Option Nat) : List (List UInt8) → Option (List Nat)
  | [] => some []
  | x :: L => match f x with
    | none => none
    | some v => match eachO f L with
      | none => none
      | some l => some (v :: l)

/-! ### What is read -/
def splitA (s : List UInt8) (by' : UInt8) (n : Nat) : List (List UInt8) := if s = [] then [] else Lib.splitN s [by'] (n + 1)
def ofNumO (L : List (List UInt8)) : Option Ad := match eachO numO L with
  | none => none
  | some l => if l.length = 4 then some (elderA l) else none
def eldO (s : List UInt8) : Option Ad := ofNumO (splitA s 46 4)
/-- Groups with : between. -/
def grpT (g : List Nat) : List UInt8 := Lib.join (g.map hexT) [58]
/-- The place behind the last colon. -/
def lastK (s : List UInt8) : Nat := (Lib.lastIndex s [58] + 1).toNat
def withO (s : List UInt8) : Option (List UInt8) :=
  if Lib.contains (s.drop (lastK s)) [46] = false then some s
  else match eldO (s.drop (lastK s)) with
    | none => none
    | some a => some (s.take (lastK s) ++ grpT ((grpA a).drop 6))
def gapG (a b : List Nat) : List Nat := a ++ List.replicate (8 - a.length - b.length) 0 ++ b
def newO (s : List UInt8) : Option Ad := match withO s with
  | none => none
  | some p => match eachO (hexO 4) (splitA (Lib.cut p [58, 58]).1 58 8) with
    | none => none
    | some a => match eachO (hexO 4) (splitA (Lib.cut p [58, 58]).2.1 58 8) with
      | none => none
      | some b => if 8 < a.length + b.length ∨ (Lib.cut p [58, 58]).2.2 ≠ decide (a.length + b.length < 8) then none else some (newerA 65536 (gapG a b))
def readO (s : List UInt8) : Option Ad := if Lib.contains s [58] then newO s else eldO s
/-- What Read answers. -/
def rdA (s : List UInt8) : Ad × Nat := match readO s with
  | some a => (a, 0)
  | none => (noA, 7)

/-! ### What is told -/
def noF : List Nat → Nat → Nat → Nat → Nat → Nat × Nat
  | [], _, _, f, t => (f, t)
  | c :: r, e, s, f, t => if max (t - f) 1 < e - (if c ≠ 0 then e else s) then noF r (e + 1) (if c ≠ 0 then e else s) (if c ≠ 0 then e else s) e else noF r (e + 1) (if c ≠ 0 then e else s) f t
/-- Where the longest run of noughts begins, and ends. -/
def noughts (g : List Nat) : Nat × Nat := noF g 1 0 0 0
def text6 (g : List Nat) : List UInt8 := if (noughts g).1 = (noughts g).2 then grpT g else grpT (g.take (noughts g).1) ++ [58, 58] ++ grpT (g.drop (noughts g).2)
def numsT (l : List UInt8) : List (List UInt8) := l.map fun c => decT c.toNat
def digsT (l : List UInt8) : List (List UInt8) := l.flatMap fun c => [hexT (c.toNat / 16), hexT (c.toNat % 16)]
/-- What Text answers. -/
def txA (a : Ad) : List UInt8 × Nat := if chkA a ≠ 0 then ([], chkA a) else if a.1 then (text6 (grpA a), 0) else (Lib.join (numsT (octA a)) [46], 0)
/-- What Octets answers. -/
def ocA (a : Ad) : List UInt8 × Nat := if chkA a ≠ 0 then ([], chkA a) else (octA a, 0)
/-- What Of answers. -/
def ofA (s : List UInt8) : Ad × Nat := if s.length = 4 then (elderA (nats s), 0) else if s.length = 16 then (newerA 256 (nats s), 0) else (noA, 2)
def inaddr : List UInt8 := [105, 110, 45, 97, 100, 100, 114]
def ip6 : List UInt8 := [105, 112, 54]
def arpa : List UInt8 := [97, 114, 112, 97]
/-- The labels of the reverse name. -/
def revL (a : Ad) : List (List UInt8) := if a.1 then (digsT (octA a)).reverse ++ [ip6, arpa] else (numsT (octA a)).reverse ++ [inaddr, arpa]
/-- What Reverse answers. -/
def revA (a : Ad) : List UInt8 × Nat := if chkA a ≠ 0 then ([], chkA a) else mkN (revL a)
example : rdA [49, 58, 48, 58, 48, 58, 50, 58, 48, 58, 48, 58, 48, 58, 51] = ((true, 281474976710658, 3), 0) := by decide +kernel
example : txA (true, 281474976710658, 3) = ([49, 58, 48, 58, 48, 58, 50, 58, 58, 51], 0) := by decide +kernel
example : revA (elderA [1, 2, 3, 4]) = ([1, 52, 1, 51, 1, 50, 1, 49, 7, 105, 110, 45, 97, 100, 100, 114, 4, 97, 114, 112, 97], 0) := by decide +kernel
end Go.Proofs.YtodedbokeodmkaaGreat
