/-
  The seventh stage's own example (lives) comes out true, whatever the memory; two packers beside one another: the walk. No condition.
-/
import Derived.Test.YtbbglpjhblhkdaaGreatPkNa
namespace Go.Proofs.YtbbglpjhblhkdaaGreat
open Go.RowKit Go.Maps
set_option linter.unusedVariables false
set_option maxRecDepth 100000

section
variable {w w' : World} {base g gw gm n M : Nat} {F F' F2 : Nat → Prop} {sv : Value} {s : PS}
/-- The packer's own blocks are not turned. -/
theorem PK.kept (h : PK w base F g M s) (hsz : w.heap.size ≤ w'.heap.size) (hs : ∀ k, F k → w'.heap[k]? = w.heap[k]?) : PK w' base F g M s := by
  obtain ⟨gw, gm, n, sv, h⟩ := h
  have hw : WR w' base gw M s.l s.f := by
    have hr : ∀ k, rowOf w gw = some k → w'.heap[k]? = w.heap[k]? := fun k hk => hs k (h.Fr k hk)
    obtain ⟨v, hL, hown⟩ := h.wr
    refine ⟨v, lies_same hL (hs gw h.Fw), hown.1, hown.2.imp id fun ⟨g', cap, cur, h1, h2, h3, h4⟩ => ⟨g', cap, cur, h1, h2, ?_, h4⟩⟩
    rw [hr g' (by rw [rowOf_lies hL rfl, h1]; rfl)]
    exact h3
  refine ⟨gw, gm, n, sv, lies_same h.lies (hs g h.Fg), hw, h.op.same fun k hk => hs k (h.Fo k hk), h.mp.same (hs gm h.Fm), h.hn, h.inv, h.bg, h.bw, h.bm, h.Fg, h.Fw, h.Fm, h.Fo, fun k hk => h.Fr k ?_, fun k hk => ⟨(h.Fl k hk).1, Nat.lt_of_lt_of_le (h.Fl k hk).2 hsz⟩⟩
  rwa [rowOf_same (hs gw h.Fw)] at hk
/-- Another packer is written. -/
theorem PK.other {b2 : Nat} {F2' : Nat → Prop} (h : PK w base F g M s) (hk : Kf b2 F2 F2' w w') (hd : ∀ k, F k → ¬ F2 k) : PK w' base F g M s :=
  h.kept hk.below.size fun k hF => hk.rest k (h.lt hF).2 (hd k hF)
theorem apart_next {b b2 g2 M2 : Nat} {s2 : PS} (hd : ∀ k, F k → ¬ F2 k) (hk : Kf b F F' w w') (h2 : PK w b2 F2 g2 M2 s2) : ∀ k, F' k → ¬ F2 k := fun k hF' hF2 =>
  (hk.sub k hF').elim (fun h => hd k h hF2) (fun h => by have := (h2.lt hF2).2; omega)
theorem apart_symm (hd : ∀ k, F k → ¬ F2 k) : ∀ k, F2 k → ¬ F k := fun k h2 h => hd k h h2
theorem apart_new {b b2 g2 M2 : Nat} {s2 : PS} (h : PK w b F g M s) (h2 : PK w' b2 F2 g2 M2 s2) (hb : w.heap.size ≤ b2) : ∀ k, F k → ¬ F2 k := fun k hF hF2 => by
  have := (h.lt hF).2
  have := (h2.lt hF2).1
  omega
end

def lvA : List UInt8 := [1, 97, 1, 98]
def lvC : List UInt8 := [1, 99, 1, 98]
def lv1 : PS := (nameS 99 ps0 lvA).2
def lv2 : PS := (nameS 99 lv1 lvC).2
def lv3 : PS := (nameS 99 lv2 lvA).2
theorem lv3_e : (nameS 99 lv2 lvA).1 = 0 := by kernel_rfl
theorem lv3_l : lv3.l = [1, 97, 1, 98, 0, 1, 99, 192, 2, 192, 0] := by kernel_rfl

end Go.Proofs.YtbbglpjhblhkdaaGreat
