/-
  A walk along a name, as the program's block; what its calls do; append of a string as a step of a region that draws. Conditions: those that each theorem names.
-/
import Derived.Test.YtodedbokeodmkaaGreatZk25
import Derived.Deep.RegionLaw
import Derived.Deep.RegionHeld3
namespace Go.Proofs.YtodedbokeodmkaaGreat
open Go.RowKit
set_option linter.unusedVariables false

/-- Block g is a walk along S, that has s. -/
def WK (w : World) (base g : Nat) (S : ByteArray) (s : US) : Prop :=
  ∃ v R P T, Lies w g 252 #[v, .int .i64 s.e, .int .i64 s.j, .int .i64 s.f, .string S, R, P, T] ∧ Own 5 w base v s.l ∧ (s.f = 0 → R = .int .i64 s.r ∧ P = .int .i64 s.p ∧ T = .string ⟨s.t.toArray⟩)
/-- A walk's call: it hands back v; the walk has s' then. -/
def Wlk (w : World) (base g : Nat) (S : ByteArray) (s' : US) (v : Value) (e : Ending) (w' : World) : Prop := e = .returned v ∧ WK w' base g S s' ∧ Kp base g w w'
theorem WK.drewN {w : World} {base g : Nat} {S : ByteArray} {s : US} (h : WK w base g S s) (m : Nat) : WK (w.drewN m) base g S s := h
theorem WK.lt {w : World} {base g : Nat} {S : ByteArray} {s : US} (h : WK w base g S s) : g < w.heap.size := let ⟨_, _, _, _, hL, _⟩ := h; hL.lt
theorem Wlk.keep {w : World} {base g : Nat} {S : ByteArray} {s : US} {v : Value} (h : WK w base g S s) : Wlk w base g S s v (.returned v) w := ⟨rfl, h, Kp.refl _ _ _⟩
abbrev wp_ (g : Nat) : Value := .pointer (some ⟨g, 0, none⟩)

section
variable {P : Program} {tb ts tt : TypeId}
/-- append of a string onto bytes that the call owns, as one step of a region that draws. -/
theorem step_appendL (T : BT P tb ts tt) {ops : Array Oper} {o : Oper} {a : Act} {w : World} {K : Act → World → Prop} {Q : Exit → Act → World → Prop} {E : Prop} (hgd : o.guard = none) (s x : Operand)
    (ho : o.op = .call { callee := .builtin .append, args := #[s, x], argTypes := #[ts, tt] })
    (base : Nat) (v : Value) (l : List UInt8) (hs : a.eval s = v) (hown : Own tb w base v l)
    (t : ByteArray) (hx : a.eval x = .string t) (hlen : l.length + t.size ≤ 70368744177664) (hbase : base ≤ w.heap.size) (L : List UInt8) (hL : l ++ bs t = L)
    (h : ∀ A' cap' w', Own tb w' base (.slice A' L.length cap') L → w.grownBy w' v.ownBlock → ((Value.slice A' L.length cap').ownBlock = v.ownBlock ∨ (Value.slice A' L.length cap').ownBlock = some w.heap.size) → K (a.put o.dst (.slice A' L.length cap')) w') :
    if Region.wanted o (yielded ops a.tmps) = true then Oper.wp P o a w K Q else E := by
  subst hL
  have hw : Region.wanted o (yielded ops a.tmps) = true := by simp [Region.wanted, hgd]
  rw [if_pos hw]
  obtain ⟨i, hi, hz, hsz, hby⟩ := info_parts T.info
  obtain ⟨v', w', hr, h2, h3, h4⟩ := Lib.run_append_own_string (P := P) w base ts tt o.type tb i T.us T.ut hi hz hsz hby v l.length (l.map B) hown t (by unfold maxLen; omega) (by omega) hbase
  have h5 := run_append_where T w o.type base v l hown t hlen v' w' hr h4
  have h6 : Own tb w' base v' (l ++ bs t) := own_of (by rw [List.length_append, bs_length]) (by rw [List.map_append]; exact h2)
  obtain ⟨A', cap', rfl⟩ := h6.shape
  unfold Oper.wp execOp
  simp only [ho, resolve, invoke, builtin, Sem.run_bind, Sem.run_pure, Result.andThen_ok, List.map_toArray, List.map_cons, List.map_nil, hs, hx, hr]
  exact h A' cap' w' h6 h3 h5
end
end Go.Proofs.YtodedbokeodmkaaGreat
