/-
  What label's readers of one octet answer: the walks. Condition: the string is no longer than Go's own limit.
-/
import Derived.Test.YtmjhofgcfolelaaBt
import Derived.Test.YtmjhofgcfolelaaLabMath
import Derived.Handy
namespace Go.Proofs.Ytmjhofgcfolelaa
open Go.RowKit

theorem dg_yes {c : UInt8} (h : dg c = true) : 48 ≤ c.toNat ∧ c.toNat ≤ 57 := by simpa [dg] using h
theorem dg_no {c : UInt8} (h : dg c = false) : 48 ≤ c.toNat → 57 < c.toNat := by simpa [dg] using h
theorem vis_yes {c : UInt8} (h : vis c = true) : 33 ≤ c.toNat ∧ c.toNat ≤ 126 := by simpa [vis] using h
theorem vis_no {c : UInt8} (h : vis c = false) : 33 ≤ c.toNat → 126 < c.toNat := by simpa [vis] using h

/-- What a reader of one octet answers. -/
def Oct (w : World) (c : Int) (n : Int) (er : Int) (e : Ending) (w' : World) : Prop := e = .returned (.tuple #[.int .u8 c, .int .i64 n, .int .i64 er]) ∧ Below w.heap.size w w'

theorem oct_ret {w w' : World} {c c' n n' er : Int} (hc : c = c') (hn : n = n') (hb : Below w.heap.size w w') : Oct w c' n' er (.returned (.tuple #[.int .u8 c, .int .i64 n, .int .i64 er])) w' := by
  subst hc; subst hn; exact ⟨rfl, hb⟩

theorem extract3 (s : ByteArray) (k : Nat) (h : k + 3 ≤ s.size) : bs (s.extract k (k + 3)) = [s[k], s[k + 1], s[k + 2]] := by
  have h1 := drop_at s k (by omega)
  have h2 := drop_at s (k + 1) (by omega)
  have h3 := drop_at s (k + 2) (by omega)
  rw [bs_extract, h1, h2, h3]
  simp
theorem row3 {w : World} {g : Nat} {s : ByteArray} {d e f : UInt8} (h : Row w g (bs s)) (hs : bs s = [d, e, f]) :
    w.cell? ⟨g, 0, none⟩ = some (.int .u8 d.toNat) ∧ w.cell? ⟨g, 1, none⟩ = some (.int .u8 e.toNat) ∧ w.cell? ⟨g, 2, none⟩ = some (.int .u8 f.toNat) := by
  rw [hs] at h
  exact ⟨h.cell 0 (by simp), h.cell 1 (by simp), h.cell 2 (by simp)⟩

theorem take3 (s : ByteArray) (k : Nat) (h : k + 3 ≤ s.size) : ∃ d e f r, (bs s).drop k = d :: e :: f :: r ∧ bs (s.extract k (k + 3)) = [d, e, f] := by
  refine ⟨s[k], s[k + 1], s[k + 2], (bs s).drop (k + 3), ?_, extract3 s k h⟩
  rw [drop_at s k (by omega), drop_at s (k + 1) (by omega), drop_at s (k + 2) (by omega)]

theorem dig3_short {l : List UInt8} (h : l.length < 3) : dig3 l = none := by
  rcases l with _ | ⟨d, _ | ⟨e, _ | ⟨f, r⟩⟩⟩
  · rfl
  · rfl
  · rfl
  · simp at h; omega

end Go.Proofs.Ytmjhofgcfolelaa
