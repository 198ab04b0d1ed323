/-
  A reader and a writer that a law holds side by side. Conditions: as each theorem names them.
-/
import Derived.Test.YthdkceodoflnkaaOcPat
import Derived.Test.YthdkceodoflnkaaOcLives
namespace Go.Proofs.Ythdkceodoflnkaa
open Go.RowKit
set_option linter.unusedVariables false

theorem WR.grown {w w' : World} {base g M : Nat} {l : List UInt8} {f k : Nat} {t : TypeId} {cs : Array Value} (h : WR w base g M l f) (hg : w.grownBy w' (some k)) (hL : Lies w k t cs) (hne : k ≠ g) (ht : t ≠ 5) : WR w' base g M l f := by
  obtain ⟨v, hG, hown⟩ := h
  refine ⟨v, hG.grown hg (fun e => hne (by injection e with e; exact e.symm)), hown.grown hg ?_⟩
  have := hown.ne_lies hL ht
  exact .inr this.symm
theorem below_obj {w0 w w' : World} {g : Nat} (hb : Below w0.heap.size w0 w) (hg : w.grownBy w' (some g)) (hBg : w0.heap.size ≤ g) : Below w0.heap.size w0 w' :=
  hb.grown hg hb.size fun k hk => by injection hk with hk; omega

/-- A reader of S at the place k, block gr; a writer of at most M octets, block gw; what lay when the law began is as it was. -/
structure Two (w0 w : World) (gr : Nat) (S : ByteArray) (k gw M : Nat) (l : List UInt8) (f : Nat) : Prop where
  rd : RD w gr S k
  wr : WR w gw gw M l f
  below : Below w0.heap.size w0 w
  r0 : w0.heap.size ≤ gr
  w0 : w0.heap.size ≤ gw
  ne : gr ≠ gw
theorem Two.read {w0 w w' : World} {gr k gw M : Nat} {S : ByteArray} {l : List UInt8} {f k' : Nat} (h : Two w0 w gr S k gw M l f) (hr : RD w' gr S k') (hg : w.grownBy w' (some gr)) : Two w0 w' gr S k' gw M l f :=
  ⟨hr, h.wr.grown hg h.rd h.ne (by decide), below_obj h.below hg h.r0, h.r0, h.w0, h.ne⟩
theorem Two.write {w0 w w' : World} {gr k gw M : Nat} {S : ByteArray} {l l' : List UInt8} {f f' : Nat} (h : Two w0 w gr S k gw M l f) (hw : WR w' gw gw M l' f') (hk : Kp gw gw w w') : Two w0 w' gr S k gw M l' f' :=
  ⟨hk.lies h.wr h.rd h.ne (by decide), hw, h.below.trans (hk.below.mono h.w0), h.r0, h.w0, h.ne⟩
theorem Two.drewN {w0 w : World} {gr k gw M : Nat} {S : ByteArray} {l : List UInt8} {f : Nat} (h : Two w0 w gr S k gw M l f) (n : Nat) : Two w0 (w.drewN n) gr S k gw M l f :=
  ⟨h.rd, h.wr, below_drewN h.below n, h.r0, h.w0, h.ne⟩
end Go.Proofs.Ythdkceodoflnkaa
