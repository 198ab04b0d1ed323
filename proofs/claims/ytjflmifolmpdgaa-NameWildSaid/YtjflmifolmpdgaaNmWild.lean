/-
  NameWild: a wildcard matches just what is under its parent, and longer than that; a label more ahead matters not: the walk. Condition: the strings are no longer than Go's own limit.
-/
import Derived.Test.YtjflmifolmpdgaaNmLives
namespace Go.Proofs.Ytjflmifolmpdgaa
open Go.RowKit
set_option linter.unusedVariables false

/-- The ways of the guard. -/
def OutW (p n l : ByteArray) (Ep En : Nat) : Prop := 400 < p.size ∨ (p.size ≤ 400 ∧ 400 < n.size) ∨ (p.size ≤ 400 ∧ n.size ≤ 400 ∧ 63 < l.size) ∨ (p.size ≤ 400 ∧ n.size ≤ 400 ∧ l.size ≤ 63 ∧ ((Ep : Int) != 0) = true) ∨
      (p.size ≤ 400 ∧ n.size ≤ 400 ∧ l.size ≤ 63 ∧ ((Ep : Int) != 0) = false ∧ ((En : Int) != 0) = true)
theorem outW (p n l : ByteArray) (Ep En : Nat) : OutW p n l Ep En ∨ (Ep = 0 ∧ En = 0 ∧ l.size ≤ 63) := by
  unfold OutW
  simp only [bne_iff_ne, bne_eq_false_iff_eq]
  omega

set_option maxRecDepth 100000 in
set_option maxHeartbeats 4000000 in
theorem nwild_out (p n l : ByteArray) (Ep En : Nat) (w : World) (hp : p.size ≤ maxLen) (hn : n.size ≤ maxLen) (hl : l.size ≤ maxLen)
    (h1 : Gives 17 #[.string p] (.int .i64 Ep)) (h2 : Gives 17 #[.string n] (.int .i64 En)) (h : OutW p n l Ep En) :
    Calls Try.prog 8 #[.string p, .string n, .string l] w fun e w' => e = .returned (.bool true) ∧ Below w.heap.size w w' := by
  unfold maxLen at hp hn hl
  rcases h with h | ⟨k1, k2⟩ | ⟨k1, k2, k3⟩ | ⟨k1, k2, k3, k4⟩ | ⟨k1, k2, k3, k4, k5⟩
  all_goals
    go_enter Try.func8, Try.ntmps8
    go_wp2_with (first | (go_at_call 11; ((with_reducible refine (lives2 _).mono ?_); rintro e w' ⟨rfl, hb'⟩; have hbb := hb')) | (go_at_call 17; (first | ((with_reducible refine (h1 _).mono ?_); rintro e w' ⟨rfl, hb'⟩; replace hbb := next hbb hb') | ((with_reducible refine (h2 _).mono ?_); rintro e w' ⟨rfl, hb'⟩; replace hbb := next hbb hb'))))
    go_ret
    exact ⟨rfl, hbb⟩

set_option maxRecDepth 100000 in
set_option maxHeartbeats 4000000 in
/-- What the law's call of Join does not make. -/
theorem nwild_none (p n l q : ByteArray) (Ej : Nat) (w : World) (hp : p.size ≤ 254) (hn : n.size ≤ 254) (hl : l.size ≤ 63)
    (c1 : Gives 17 #[.string p] (.int .i64 0)) (c2 : Gives 17 #[.string n] (.int .i64 0))
    (j1 : Gives 16 #[.string ⟨#[1, 42]⟩, .string p] (.tuple #[.string q, .int .i64 Ej])) (h : ((Ej : Int) != 0) = true) :
    Calls Try.prog 8 #[.string p, .string n, .string l] w fun e w' => e = .returned (.bool true) ∧ Below w.heap.size w w' := by
  go_enter Try.func8, Try.ntmps8
  go_wp2_with (first | (go_at_call 11; ((with_reducible refine (lives2 _).mono ?_); rintro e w' ⟨rfl, hb'⟩; have hbb := hb')) | (go_at_call 17; (first | ((with_reducible refine (c1 _).mono ?_); rintro e w' ⟨rfl, hb'⟩; replace hbb := next hbb hb') | ((with_reducible refine (c2 _).mono ?_); rintro e w' ⟨rfl, hb'⟩; replace hbb := next hbb hb'))) | (go_at_call 16; ((with_reducible refine (j1 _).mono ?_); rintro e w' ⟨rfl, hb'⟩; replace hbb := next hbb hb')))
  go_ret
  exact ⟨rfl, hbb⟩

/-- A row of one string in a new block. -/
theorem srow_one (W : World) (l : ByteArray) (t : TypeId) : SRow (W.alloc (.cells #[.string l] t)) (.slice (some ⟨W.heap.size, 0, none⟩) 1 1) [l] := by
  refine .inr ⟨W.heap.size, 0, 1, rfl, by simp, Nat.le_refl _, by decide, fun j hj => ?_⟩
  have : j = 0 := by simpa using hj
  subst this
  exact (Boxed.new W t (.string l)).cell

set_option maxRecDepth 100000 in
set_option maxHeartbeats 8000000 in
theorem nwild_core (p n l q o x : ByteArray) (U S M P Wp R : Bool) (Ef Eg : Nat) (w : World) (hp : p.size ≤ 254) (hn : n.size ≤ 254) (hl : l.size ≤ 63)
    (c1 : Gives 17 #[.string p] (.int .i64 0)) (c2 : Gives 17 #[.string n] (.int .i64 0))
    (j1 : Gives 16 #[.string ⟨#[1, 42]⟩, .string p] (.tuple #[.string q, .int .i64 0]))
    (m1 : Gives 38 #[.string q, .string n] (.bool M)) (w1 : Gives 22 #[.string q] (.bool true)) (u1 : Gives 21 #[.string n, .string p] (.bool U)) (s1 : Gives 19 #[.string n, .string p] (.bool S))
    (m2 : Gives 38 #[.string p, .string n] (.bool P)) (w2 : Gives 22 #[.string p] (.bool Wp)) (m3 : Gives 38 #[.string q, .string q] (.bool true)) (m4 : Gives 38 #[.string q, .string p] (.bool false))
    (mk : ∀ (wx : World) (t : TypeId), Calls Try.prog 23 #[.slice (some ⟨wx.heap.size, 0, none⟩) 1 1] (wx.alloc (.cells #[.string l] t)) fun e w' => e = .returned (.tuple #[.string o, .int .i64 Ef]) ∧ Below (wx.alloc (.cells #[.string l] t)).heap.size (wx.alloc (.cells #[.string l] t)) w')
    (j2 : Gives 16 #[.string o, .string n] (.tuple #[.string x, .int .i64 Eg])) (m5 : Gives 38 #[.string q, .string x] (.bool R))
    (hU : (U = false ∧ S = false ∧ M = false) ∨ (U = true ∧ S = true ∧ M = false) ∨ (U = true ∧ S = false ∧ M = true)) (hP : P = false ∨ (P = true ∧ Wp = true))
    (hE : ((Ef : Int) != 0) = true ∨ (((Ef : Int) != 0) = false ∧ ((Eg : Int) != 0) = true) ∨ (((Ef : Int) != 0) = false ∧ ((Eg : Int) != 0) = false ∧ R = (M || S))) :
    Calls Try.prog 8 #[.string p, .string n, .string l] w fun e w' => e = .returned (.bool true) ∧ Below w.heap.size w w' := by
  rcases hE with k1 | ⟨k1, k2⟩ | ⟨k1, k2, rfl⟩
  all_goals
    rcases hU with ⟨rfl, rfl, rfl⟩ | ⟨rfl, rfl, rfl⟩ | ⟨rfl, rfl, rfl⟩
    all_goals
      rcases hP with rfl | ⟨rfl, rfl⟩
      all_goals
        go_enter Try.func8, Try.ntmps8
        go_wp2_with (first | (go_at_call 11; ((with_reducible refine (lives2 _).mono ?_); rintro e w' ⟨rfl, hb'⟩; have hbb := hb')) | (go_at_call 17; (first | ((with_reducible refine (c1 _).mono ?_); rintro e w' ⟨rfl, hb'⟩; replace hbb := next hbb hb') | ((with_reducible refine (c2 _).mono ?_); rintro e w' ⟨rfl, hb'⟩; replace hbb := next hbb hb'))) | (go_at_call 16; (first | ((with_reducible refine (j1 _).mono ?_); rintro e w' ⟨rfl, hb'⟩; replace hbb := next hbb hb') | ((with_reducible refine (j2 _).mono ?_); rintro e w' ⟨rfl, hb'⟩; replace hbb := next hbb hb'))) | (go_at_call 38; (first | ((with_reducible refine (m1 _).mono ?_); rintro e w' ⟨rfl, hb'⟩; replace hbb := next hbb hb') | ((with_reducible refine (m2 _).mono ?_); rintro e w' ⟨rfl, hb'⟩; replace hbb := next hbb hb') | ((with_reducible refine (m3 _).mono ?_); rintro e w' ⟨rfl, hb'⟩; replace hbb := next hbb hb') | ((with_reducible refine (m4 _).mono ?_); rintro e w' ⟨rfl, hb'⟩; replace hbb := next hbb hb') | ((with_reducible refine (m5 _).mono ?_); rintro e w' ⟨rfl, hb'⟩; replace hbb := next hbb hb'))) | (go_at_call 22; (first | ((with_reducible refine (w1 _).mono ?_); rintro e w' ⟨rfl, hb'⟩; replace hbb := next hbb hb') | ((with_reducible refine (w2 _).mono ?_); rintro e w' ⟨rfl, hb'⟩; replace hbb := next hbb hb'))) | (go_at_call 21; ((with_reducible refine (u1 _).mono ?_); rintro e w' ⟨rfl, hb'⟩; replace hbb := next hbb hb')) | (go_at_call 19; ((with_reducible refine (s1 _).mono ?_); rintro e w' ⟨rfl, hb'⟩; replace hbb := next hbb hb')) | (go_at_call 23; ((with_reducible refine (mk _ _).mono ?_); rintro e w' ⟨rfl, hb'⟩; replace hbb := next (next hbb ((Below.refl _ _).alloc (Nat.le_refl _) _)) hb')))
        go_ret
        exact ⟨by simp, hbb⟩
end Go.Proofs.Ytjflmifolmpdgaa
