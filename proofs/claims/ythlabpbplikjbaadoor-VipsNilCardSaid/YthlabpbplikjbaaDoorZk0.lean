/-
  Plain facts on labels' texts: what a text's octets tell, that what was told is read, that comparing folded octets is an order. No condition. Nothing of any program is named here.
-/
import Derived.Lib.Bytealg
namespace Go.Proofs.YthlabpbplikjbaaDoor

/-! ### Octets and texts -/
def vis (c : UInt8) : Bool := decide (33 ≤ c.toNat ∧ c.toNat ≤ 126)
/-- The text of an octet by its number. -/
def esc3 (c : UInt8) : List UInt8 := [92, 48 + c / 100, 48 + c / 10 % 10, 48 + c % 10]
/-- The text of an octet. -/
def esc1 (c : UInt8) : List UInt8 := if vis c = true then (if c.toNat = 46 ∨ c.toNat = 92 then [92, c] else [c]) else esc3 c

def tx (l : List UInt8) : List UInt8 := l.flatMap esc1
/-- What Check answers. -/
def chk (l : List UInt8) : Nat := if l.length = 0 then 2 else if 63 < l.length then 3 else 0

/-! ### How many octets tell one -/
/-! ### What was told is read -/
theorem forall_u8 {p : UInt8 → Prop} (h : ∀ n, n < 256 → p (UInt8.ofNat n)) (c : UInt8) : p c := by
  have := h c.toNat c.toNat_lt
  simpa using this

/-- Behind a text there is nothing, or a dot. -/
def Stop (r : List UInt8) : Prop := r = [] ∨ ∃ c t, r = c :: t ∧ c.toNat = 46

/-! ### Folding and the order -/
def fd (c : UInt8) : UInt8 := if 65 ≤ c.toNat ∧ c.toNat ≤ 90 then c + 32 else c
def fold (l : List UInt8) : List UInt8 := l.map fd
theorem fd_all : ∀ n, n < 256 → fd (fd (UInt8.ofNat n)) = fd (UInt8.ofNat n) := by decide +kernel
theorem fd_fd (c : UInt8) : fd (fd c) = fd c := forall_u8 (p := fun c => fd (fd c) = fd c) fd_all c
theorem fold_fold (l : List UInt8) : fold (fold l) = fold l := by simp [fold, fd_fd]
theorem fold_length (l : List UInt8) : (fold l).length = l.length := by simp [fold]

end Go.Proofs.YthlabpbplikjbaaDoor
