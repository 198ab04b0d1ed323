/-
  What a packer puts is what stood, and more behind; a name that was put is read where it stands: plain mathematics. No condition beyond those that each theorem names. What texts come to when they are put, and raw octets: plain mathematics. Conditions as stated. Unlike data have unlike octets where nothing stands ahead: plain mathematics. Conditions as stated. Unlike data have unlike octets where nothing stands ahead: the parts, the kinds: plain mathematics. Conditions as stated. Unlike data have unlike octets where nothing stands ahead: the kinds, the types: plain mathematics. Conditions as stated. The ninth stage's own example (lives) comes out true, whatever the memory. No condition. The kit's LightData tells something, whatever the data. Conditions: the data can be read. Names that stand where they are read, by labels, pointers, the nought: what reading them answers: plain mathematics. No condition beyond those that each theorem names. A name that is put is read where it stands, by the reader's own rules (a pointer leads ahead of its run): plain mathematics. Conditions as stated. What is put of a part is read back: plain mathematics. Conditions as stated. What is put of data is read back, one octet less is not, one more leaves one: plain mathematics. Conditions as stated. Data of a type that are put are read back; one octet more, one less: plain mathematics. Conditions as stated. The kit's LightData, of data that may be: just if there are no more than 2,000 octets. Conditions: the data can be read; few octets in all. The seventh stage's own example (lives) comes out true, whatever the memory; two packers beside one another: the walk. No condition.
-/
import Derived.Test.YtadeflehdfmilaaGreatZk2
import Derived.Test.YtadeflehdfmilaaGreatZk32
import Derived.Deep.RegionHeld3
import Derived.Test.YtadeflehdfmilaaGreatZk1
import Derived.Test.YtadeflehdfmilaaGreatZk17
namespace Go.Proofs.YtadeflehdfmilaaGreat
open Go.RowKit
set_option linter.unusedVariables false

/-- At place a of l the name r is read by n steps; it ends at e. -/
inductive Rds (l : List UInt8) : Nat → List UInt8 → Nat → Nat → Prop
  | nil {a : Nat} (h : l[a]? = some 0) : Rds l a [] (a + 1) 1
  | lab {a : Nat} {c : UInt8} {x r : List UInt8} {e n : Nat} (h : l[a]? = some c) (h1 : 1 ≤ c.toNat) (h2 : c.toNat ≤ 63) (hx : (l.drop a).take (1 + c.toNat) = x) (hl : x.length = 1 + c.toNat) (hr : Rds l (a + (1 + c.toNat)) r e n) : Rds l a (x ++ r) e (n + 1)
  | ptr {a : Nat} {c d : UInt8} {r : List UInt8} {e n : Nat} (h : l[a]? = some c) (h1 : 192 ≤ c.toNat) (hd : l[a + 1]? = some d) (ht : 256 * (c.toNat - 192) + d.toNat < a) (hr : Rds l (256 * (c.toNat - 192) + d.toNat) r e n) : Rds l a r (a + 2) (n + 1)
theorem Rds.lt {l : List UInt8} {a : Nat} {r : List UInt8} {e n : Nat} (h : Rds l a r e n) : a < l.length := by
  cases h with
  | nil h => exact (List.getElem?_eq_some_iff.1 h).1
  | lab h => exact (List.getElem?_eq_some_iff.1 h).1
  | ptr h => exact (List.getElem?_eq_some_iff.1 h).1
theorem get_app {l y : List UInt8} {a : Nat} {c : UInt8} (h : l[a]? = some c) : (l ++ y)[a]? = some c := by
  rw [List.getElem?_append_left (List.getElem?_eq_some_iff.1 h).1]
  exact h
theorem Rds.app {l : List UInt8} (y : List UInt8) {a : Nat} {r : List UInt8} {e n : Nat} (h : Rds l a r e n) : Rds (l ++ y) a r e n := by
  induction h with
  | nil h => exact .nil (get_app h)
  | @lab a c x r e n h h1 h2 hx hl hr ih =>
    refine .lab (get_app h) h1 h2 ?_ hl ih
    have hlt : a ≤ l.length := Nat.le_of_lt (List.getElem?_eq_some_iff.1 h).1
    rw [List.drop_append_of_le_length hlt, List.take_append_of_le_length ?_]
    · exact hx
    · have := congrArg List.length hx
      rw [List.length_take, hl] at this
      omega
  | ptr h h1 hd ht hr ih => exact .ptr (get_app h) h1 (get_app hd) ht ih

/-- What a name that is put, and its marks, come to. -/
structure Put (M : Nat) (s : PS) (r : List UInt8) (q : Nat × PS) : Prop where
  ok : q.1 = 0
  f : q.2.f = 0
  o : q.2.o = s.o
  l : ∃ y, q.2.l = s.l ++ y ∧ 1 ≤ y.length ∧ y.length ≤ r.length + 1
  read : ∃ n, Rds q.2.l s.l.length r q.2.l.length n ∧ n ≤ r.length + 1
/-- A packer without an error, each of whose marks is read. -/
structure GoodP (s : PS) : Prop where
  f : s.f = 0
  marks : ∀ q a, s.m q = some a → ∃ e n, Rds s.l a q e n ∧ n ≤ q.length
theorem GoodP.app {s : PS} (h : GoodP s) (y : List UInt8) : GoodP { s with l := s.l ++ y } := ⟨h.f, fun q a hq => by
  obtain ⟨e, n, h1, h2⟩ := h.marks q a hq
  exact ⟨e, n, h1.app y, h2⟩⟩
end Go.Proofs.YtadeflehdfmilaaGreat
namespace Go.Proofs.YtadeflehdfmilaaGreat
open Go.RowKit
set_option linter.unusedVariables false

end Go.Proofs.YtadeflehdfmilaaGreat
namespace Go.Proofs.YtadeflehdfmilaaGreat
open Go.RowKit
set_option linter.unusedVariables false

/-- A name that is read by steps is one name. -/
theorem Rds.one {l : List UInt8} {a e n : Nat} {r : List UInt8} (h : Rds l a r e n) : ∀ {r' : List UInt8} {e' n' : Nat}, Rds l a r' e' n' → r = r' := by
  induction h with
  | nil h =>
    intro r' e' n' h'
    cases h' with
    | nil _ => rfl
    | lab g g1 g2 => rw [h] at g; injection g with g; rw [← g] at g1; simp at g1
    | ptr g g1 => rw [h] at g; injection g with g; rw [← g] at g1; simp at g1
  | @lab a c x r e n h h1 h2 hx hl hr ih =>
    intro r' e' n' h'
    cases h' with
    | nil g => rw [h] at g; injection g with g; rw [g] at h1; simp at h1
    | lab g g1 g2 gx gl gr =>
      rw [h] at g
      injection g with g
      subst g
      rw [← hx, ← gx, ih gr]
    | ptr g g1 => rw [h] at g; injection g with g; rw [← g] at g1; omega
  | @ptr a c d r e n h h1 hd ht hr ih =>
    intro r' e' n' h'
    cases h' with
    | nil g => rw [h] at g; injection g with g; rw [g] at h1; simp at h1
    | lab g g1 g2 gx gl gr => rw [h] at g; injection g with g; rw [← g] at g2; omega
    | ptr g g1 gd gt gr =>
      rw [h] at g
      injection g with g
      subst g
      rw [hd] at gd
      injection gd with gd
      subst gd
      exact ih gr

/-! ### Numbers -/
/-! ### Addresses -/
end Go.Proofs.YtadeflehdfmilaaGreat
namespace Go.Proofs.YtadeflehdfmilaaGreat
open Go.RowKit
set_option linter.unusedVariables false

end Go.Proofs.YtadeflehdfmilaaGreat
namespace Go.Proofs.YtadeflehdfmilaaGreat
open Go.RowKit
set_option linter.unusedVariables false

/-! ### What is the same -/
/-! ### By type -/
end Go.Proofs.YtadeflehdfmilaaGreat
namespace Go.Proofs.YtadeflehdfmilaaGreat
open Go.RowKit Go.Maps
set_option linter.unusedVariables false

end Go.Proofs.YtadeflehdfmilaaGreat
namespace Go.Proofs.YtadeflehdfmilaaGreat
open Go.RowKit
set_option linter.unusedVariables false

end Go.Proofs.YtadeflehdfmilaaGreat
namespace Go.Proofs.YtadeflehdfmilaaGreat
set_option linter.unusedVariables false

/-- At place p, the run having begun at r, the name n is read by c pointers; the place behind is e. -/
inductive Ru (x : List UInt8) : Nat → Nat → List UInt8 → Nat → Nat → Prop
  | nil {r p : Nat} (h : x[p]? = some 0) : Ru x r p [] (p + 1) 0
  | lab {r p : Nat} {y n : List UInt8} {e c : Nat} (hy : ok1 y) (h : (x.drop p).take (1 + y.length) = enc1 y) (hr : Ru x r (p + (1 + y.length)) n e c) : Ru x r p (enc1 y ++ n) e c
  | ptr {r p : Nat} {a d : UInt8} {n : List UInt8} {e c : Nat} (h : x[p]? = some a) (h1 : 192 ≤ a.toNat) (hd : x[p + 1]? = some d) (ht : 256 * (a.toNat - 192) + d.toNat < r) (hr : Ru x (256 * (a.toNat - 192) + d.toNat) (256 * (a.toNat - 192) + d.toNat) n e c) : Ru x r p n (p + 2) (c + 1)

theorem drop_one {x : List UInt8} {p : Nat} {a : UInt8} (h : x[p]? = some a) : x.drop p = a :: x.drop (p + 1) := by
  obtain ⟨hp, rfl⟩ := List.getElem?_eq_some_iff.1 h
  exact List.drop_eq_getElem_cons hp
theorem partU_nil {x : List UInt8} {p : Nat} (h : x[p]? = some 0) : partU (x.drop p) = (1, 0) ∧ (x.drop p).take 1 = [0] := by
  rw [drop_one h, partU_cons]
  exact ⟨by simp, by simp⟩
theorem partU_lab {x : List UInt8} {p : Nat} {y : List UInt8} (hy : ok1 y) (h : (x.drop p).take (1 + y.length) = enc1 y) : partU (x.drop p) = (1 + y.length, 0) ∧ isPtr (enc1 y) = false ∧ enc1 y ≠ [0] := by
  have hy' := hy
  unfold ok1 at hy'
  have hn : (UInt8.ofNat y.length).toNat = y.length := UInt8.toNat_ofNat_of_lt' (by show _ < 256; omega)
  refine ⟨?_, ?_, ?_⟩
  · rcases hx : x.drop p with _ | ⟨a, t⟩
    · rw [hx] at h; simp [enc1] at h
    · have hl := congrArg List.length h
      rw [hx, Nat.add_comm, List.take_succ_cons] at h
      unfold enc1 at h
      injection h with h1 h2
      rw [hx, List.length_take, List.length_cons, enc1_length] at hl
      rw [partU_cons, h1, hn, if_neg (by omega), if_neg (by omega), if_neg (by omega)]
  · unfold isPtr enc1
    rw [List.headD_cons, hn]
    exact decide_eq_false (by omega)
  · intro e
    have := congrArg List.length e
    rw [enc1_length, List.length_singleton] at this
    omega
theorem partU_ptr {x : List UInt8} {p : Nat} {a d : UInt8} (h : x[p]? = some a) (h1 : 192 ≤ a.toNat) (hd : x[p + 1]? = some d) : partU (x.drop p) = (2, 0) ∧ (x.drop p).take 2 = [a, d] := by
  have e := drop_one h
  rw [drop_one hd] at e
  rw [e, partU_cons, if_pos h1, if_neg (by simp)]
  exact ⟨rfl, rfl⟩

theorem keep_eq {u : US} {z : List UInt8} (h : u.t = z) (hl : u.l.length + z.length ≤ 254) : keepU u = { u with l := u.l ++ z } := by
  subst h
  exact if_neg (by omega)
theorem Ru.mono {x : List UInt8} {r p e c : Nat} {n : List UInt8} (h : Ru x r p n e c) : ∀ {r' : Nat}, r ≤ r' → Ru x r' p n e c := by
  induction h with
  | nil h => exact fun _ => .nil h
  | lab hy h hr ih => exact fun hle => .lab hy h (ih hle)
  | ptr h h1 hd ht hr ih => exact fun hle => .ptr h h1 hd (by omega) hr
theorem take_app {x y z : List UInt8} {p k : Nat} (h : (x.drop p).take k = z) (hl : z.length = k) (hk : 0 < k) : ((x ++ y).drop p).take k = z := by
  have h2 := congrArg List.length h
  rw [List.length_take, List.length_drop, hl] at h2
  rw [List.drop_append_of_le_length (by omega), List.take_append_of_le_length (by rw [List.length_drop]; omega)]
  exact h
theorem at_app' {x y : List UInt8} {p : Nat} {a : UInt8} (h : x[p]? = some a) : (x ++ y)[p]? = some a := by
  rw [List.getElem?_append_left (List.getElem?_eq_some_iff.1 h).1]
  exact h
/-- Octets behind do not matter. -/
theorem Ru.app {x : List UInt8} (y : List UInt8) {r p e c : Nat} {n : List UInt8} (h : Ru x r p n e c) : Ru (x ++ y) r p n e c := by
  induction h with
  | nil h => exact .nil (at_app' h)
  | @lab r p z n e c hz h hr ih => exact .lab hz (take_app h (by rw [enc1_length]; omega) (by omega)) ih
  | ptr h h1 hd ht hr ih => exact .ptr (at_app' h) h1 (at_app' hd) ht ih

/-- Reading answers as the name stands. -/
theorem Ru.run {x : List UInt8} {r p e c : Nat} {n : List UInt8} (h : Ru x r p n e c) : ∀ (k : Nat) (s : US), s.f = 0 → s.p = p → s.r = r → s.l.length + n.length ≤ 254 → InvU x.length s → muU x s ≤ k →
    (runU x k s).f = 0 ∧ (runU x k s).l = s.l ++ n ∧ (runU x k s).e = (if s.j = 0 then e else s.e) ∧ (runU x k s).j = s.j + c := by
  induction h with
  | @nil r p h =>
    intro k s hf hp hr hl hi hm
    subst hp
    obtain ⟨h1, h2⟩ := partU_nil h
    rcases k with _ | k
    · rw [show muU x s = _ from if_neg (by omega)] at hm; omega
    have ht : (overU x s (partU (x.drop s.p)).1).t = [0] := by rw [h1]; exact h2
    rw [runU_end hf (by rw [h1]) ht]
    refine ⟨hf, by simp [overU], ?_, by simp [overU]⟩
    show (if s.j = 0 then _ else _) = _
    rw [h1]
  | @lab r p y n e c hy h hr ih =>
    intro k s hf hp hr' hl hi hm
    subst hp
    obtain ⟨h1, h2, h3⟩ := partU_lab hy h
    rcases k with _ | k
    · rw [show muU x s = _ from if_neg (by omega)] at hm; omega
    have he : (partU (x.drop s.p)).2 = 0 := by rw [h1]
    have et : (overU x s (partU (x.drop s.p)).1).t = enc1 y := by rw [h1]; exact h
    have hmk := mu_keep hi he hf hm
    rw [runU_lab hf he (by rw [et]; exact h3) (by rw [et]; exact h2)]
    rw [List.length_append, enc1_length] at hl
    have ek : keepU (overU x s (partU (x.drop s.p)).1) = { overU x s (partU (x.drop s.p)).1 with l := s.l ++ enc1 y } := keep_eq et (by rw [enc1_length]; simp only [overU]; omega)
    have hi3 := keepU_inv (overU_inv hi he)
    rw [ek] at hmk hi3 ⊢
    obtain ⟨a1, a2, a3, a4⟩ := ih k { overU x s (partU (x.drop s.p)).1 with l := s.l ++ enc1 y } hf (by rw [h1]; rfl) hr' (by simp only [List.length_append, enc1_length]; omega) hi3 hmk
    refine ⟨a1, by rw [a2]; simp, ?_, a4⟩
    rw [a3]
    show (if s.j = 0 then e else (if s.j = 0 then _ else s.e)) = _
    split <;> rfl
  | @ptr r p a d n e c h h1 hd ht hr ih =>
    intro k s hf hp hr' hl hi hm
    subst hp
    obtain ⟨g1, g2⟩ := partU_ptr h h1 hd
    rcases k with _ | k
    · rw [show muU x s = _ from if_neg (by omega)] at hm; omega
    have he : (partU (x.drop s.p)).2 = 0 := by rw [g1]
    have et : (overU x s (partU (x.drop s.p)).1).t = [a, d] := by rw [g1]; exact g2
    have hmf := mu_follow hi he hf hm
    rw [runU_ptr hf he (by rw [et]; simp) (by rw [et]; simpa [isPtr] using h1)]
    have hto : toU (overU x s (partU (x.drop s.p)).1).t = 256 * (a.toNat - 192) + d.toNat := by rw [et]; rfl
    have ek : followU (overU x s (partU (x.drop s.p)).1) = { overU x s (partU (x.drop s.p)).1 with r := 256 * (a.toNat - 192) + d.toNat, p := 256 * (a.toNat - 192) + d.toNat, j := s.j + 1 } := by
      unfold followU
      rw [hto, if_neg (by simp only [overU]; omega)]
      rfl
    have hi3 := followU_inv (overU_inv hi he)
    rw [ek] at hmf hi3 ⊢
    obtain ⟨a1, a2, a3, a4⟩ := ih k { overU x s (partU (x.drop s.p)).1 with r := 256 * (a.toNat - 192) + d.toNat, p := 256 * (a.toNat - 192) + d.toNat, j := s.j + 1 } hf rfl rfl hl hi3 hmf
    refine ⟨a1, a2, ?_, by rw [a4]; simp only; omega⟩
    rw [a3]
    simp only [Nat.add_eq_zero_iff]
    rw [if_neg (by omega)]
    show (if s.j = 0 then s.p + (partU (x.drop s.p)).1 else s.e) = _
    rw [g1]
theorem Ru.read {x : List UInt8} {p e c : Nat} {n : List UInt8} (h : Ru x p p n e c) (hn : n.length ≤ 254) (hp : p ≤ x.length) : (readU x p p).f = 0 ∧ (readU x p p).l = n ∧ (readU x p p).e = e ∧ (readU x p p).j = c := by
  have e1 : readU x (p : Int) (p : Int) = runU x (muU x (begU p p)) (begU p p) := if_neg (by omega)
  rw [e1]
  obtain ⟨a1, a2, a3, a4⟩ := h.run (muU x (begU p p)) (begU p p) rfl rfl rfl (by simpa [begU] using hn) (begU_inv hp hp) (Nat.le_refl _)
  exact ⟨a1, a2, a3, a4.trans (Nat.zero_add _)⟩
/-- Labels, and behind them a pointer that leads to no place ahead of its run. -/
inductive Rb (x : List UInt8) : Nat → Nat → List UInt8 → Prop
  | ptr {r p : Nat} {a d : UInt8} (h : x[p]? = some a) (h1 : 192 ≤ a.toNat) (hd : x[p + 1]? = some d) (ht : r ≤ 256 * (a.toNat - 192) + d.toNat) : Rb x r p []
  | lab {r p : Nat} {y n : List UInt8} (hy : ok1 y) (h : (x.drop p).take (1 + y.length) = enc1 y) (hr : Rb x r (p + (1 + y.length)) n) : Rb x r p (enc1 y ++ n)
theorem Rb.run {x : List UInt8} {r p : Nat} {n : List UInt8} (h : Rb x r p n) : ∀ (k : Nat) (s : US), s.f = 0 → s.p = p → s.r = r → s.l.length + n.length ≤ 254 → InvU x.length s → muU x s ≤ k → (runU x k s).f = 4 := by
  induction h with
  | @ptr p a d h h1 hd ht =>
    intro k s hf hp hr' hl hi hm
    subst hp
    obtain ⟨g1, g2⟩ := partU_ptr h h1 hd
    rcases k with _ | k
    · rw [show muU x s = _ from if_neg (by omega)] at hm; omega
    have he : (partU (x.drop s.p)).2 = 0 := by rw [g1]
    have et : (overU x s (partU (x.drop s.p)).1).t = [a, d] := by rw [g1]; exact g2
    rw [runU_ptr hf he (by rw [et]; simp) (by rw [et]; simpa [isPtr] using h1)]
    have hto : toU (overU x s (partU (x.drop s.p)).1).t = 256 * (a.toNat - 192) + d.toNat := by rw [et]; rfl
    have ek : followU (overU x s (partU (x.drop s.p)).1) = failU (overU x s (partU (x.drop s.p)).1) 4 := by
      unfold followU
      rw [hto, if_pos (by simp only [overU]; omega)]
    rw [ek, runU_stop (by simp [failU])]
    rfl
  | @lab p y n hy h hr ih =>
    intro k s hf hp hr' hl hi hm
    subst hp
    obtain ⟨h1, h2, h3⟩ := partU_lab hy h
    rcases k with _ | k
    · rw [show muU x s = _ from if_neg (by omega)] at hm; omega
    have he : (partU (x.drop s.p)).2 = 0 := by rw [h1]
    have et : (overU x s (partU (x.drop s.p)).1).t = enc1 y := by rw [h1]; exact h
    have hmk := mu_keep hi he hf hm
    rw [runU_lab hf he (by rw [et]; exact h3) (by rw [et]; exact h2)]
    rw [List.length_append, enc1_length] at hl
    have ek : keepU (overU x s (partU (x.drop s.p)).1) = { overU x s (partU (x.drop s.p)).1 with l := s.l ++ enc1 y } := keep_eq et (by rw [enc1_length]; simp only [overU]; omega)
    have hi3 := keepU_inv (overU_inv hi he)
    rw [ek] at hmk hi3 ⊢
    exact ih k { overU x s (partU (x.drop s.p)).1 with l := s.l ++ enc1 y } hf (by rw [h1]; rfl) hr' (by simp only [List.length_append, enc1_length]; omega) hi3 hmk
/-- Labels that stand, and what stands behind them. -/
theorem Ru.labs {x : List UInt8} {r e c : Nat} {n : List UInt8} : ∀ (L : List (List UInt8)) (a z : List UInt8), okN L → x = a ++ (enc L ++ z) → Ru x r (a.length + (enc L).length) n e c → Ru x r a.length (enc L ++ n) e c
  | [], a, z, _, hx, h => by simpa [enc] using h
  | y :: L, a, z, hL, hx, h => by
    obtain ⟨hy, hL'⟩ := okN_cons.1 hL
    rw [enc_cons, List.append_assoc] at hx ⊢
    have hl : (a ++ enc1 y).length = a.length + (1 + y.length) := by rw [List.length_append, enc1_length]; omega
    have ih := Ru.labs (x := x) L (a ++ enc1 y) z hL' (by rw [hx]; simp) (by rw [hl]; rw [enc_cons, List.length_append, enc1_length] at h; rw [show a.length + (1 + y.length) + (enc L).length = a.length + (y.length + 1 + (enc L).length) by omega]; exact h)
    rw [hl] at ih
    refine .lab hy ?_ ih
    rw [hx, List.drop_left' rfl, List.take_left' (by rw [enc1_length]; omega)]
theorem Rb.labs {x : List UInt8} {r : Nat} {n : List UInt8} : ∀ (L : List (List UInt8)) (a z : List UInt8), okN L → x = a ++ (enc L ++ z) → Rb x r (a.length + (enc L).length) n → Rb x r a.length (enc L ++ n)
  | [], a, z, _, hx, h => by simpa [enc] using h
  | y :: L, a, z, hL, hx, h => by
    obtain ⟨hy, hL'⟩ := okN_cons.1 hL
    rw [enc_cons, List.append_assoc] at hx ⊢
    have hl : (a ++ enc1 y).length = a.length + (1 + y.length) := by rw [List.length_append, enc1_length]; omega
    have ih := Rb.labs (x := x) L (a ++ enc1 y) z hL' (by rw [hx]; simp) (by rw [hl]; rw [enc_cons, List.length_append, enc1_length] at h; rw [show a.length + (1 + y.length) + (enc L).length = a.length + (y.length + 1 + (enc L).length) by omega]; exact h)
    rw [hl] at ih
    refine .lab hy ?_ ih
    rw [hx, List.drop_left' rfl, List.take_left' (by rw [enc1_length]; omega)]
end Go.Proofs.YtadeflehdfmilaaGreat
namespace Go.Proofs.YtadeflehdfmilaaGreat
open Go.RowKit
set_option linter.unusedVariables false

/-- A packer without an error, each of whose marks is read by the reader. -/
structure GoodR (s : PS) : Prop where
  good : GoodP s
  inv : Inv 65535 s
  marks : ∀ q a, s.m q = some a → a < s.l.length ∧ ∃ e c, Ru s.l a a q e c
theorem GoodR.app {s : PS} (h : GoodR s) {y : List UInt8} (hM : s.l.length + y.length ≤ 65535) : GoodR { s with l := s.l ++ y } :=
  ⟨h.good.app y, by
    have hg := h.inv.grow (l' := s.l ++ y) s.f (by simp) (by simp; omega)
    exact hg, fun q a hq => by
    obtain ⟨h1, e, c, h2⟩ := h.marks q a hq
    exact ⟨by show a < (s.l ++ y).length; rw [List.length_append]; omega, e, c, h2.app y⟩⟩
end Go.Proofs.YtadeflehdfmilaaGreat
namespace Go.Proofs.YtadeflehdfmilaaGreat
open Go.RowKit
set_option linter.unusedVariables false

/-! ### Addresses -/
/-! ### Octets that stand -/
/-! ### Numbers -/
/-! ### Names -/
end Go.Proofs.YtadeflehdfmilaaGreat
namespace Go.Proofs.YtadeflehdfmilaaGreat
open Go.RowKit
set_option linter.unusedVariables false

/-! ### A lower end -/
end Go.Proofs.YtadeflehdfmilaaGreat
namespace Go.Proofs.YtadeflehdfmilaaGreat
open Go.RowKit
set_option linter.unusedVariables false

end Go.Proofs.YtadeflehdfmilaaGreat
namespace Go.Proofs.YtadeflehdfmilaaGreat
open Go.RowKit
set_option linter.unusedVariables false

end Go.Proofs.YtadeflehdfmilaaGreat
namespace Go.Proofs.YtadeflehdfmilaaGreat
open Go.RowKit Go.Maps
set_option linter.unusedVariables false
set_option maxRecDepth 100000

section
variable {w w' : World} {base g gw gm n M : Nat} {F F' F2 : Nat → Prop} {sv : Value} {s : PS}
/-- The packer's own blocks are not turned. -/
theorem PK.kept (h : PK w base F g M s) (hsz : w.heap.size ≤ w'.heap.size) (hs : ∀ k, F k → w'.heap[k]? = w.heap[k]?) : PK w' base F g M s := by
  obtain ⟨gw, gm, n, sv, h⟩ := h
  have hw : WR w' base gw M s.l s.f := by
    have hr : ∀ k, rowOf w gw = some k → w'.heap[k]? = w.heap[k]? := fun k hk => hs k (h.Fr k hk)
    obtain ⟨v, hL, hown⟩ := h.wr
    refine ⟨v, lies_same hL (hs gw h.Fw), hown.1, hown.2.imp id fun ⟨g', cap, cur, h1, h2, h3, h4⟩ => ⟨g', cap, cur, h1, h2, ?_, h4⟩⟩
    rw [hr g' (by rw [rowOf_lies hL rfl, h1]; rfl)]
    exact h3
  refine ⟨gw, gm, n, sv, lies_same h.lies (hs g h.Fg), hw, h.op.same fun k hk => hs k (h.Fo k hk), h.mp.same (hs gm h.Fm), h.hn, h.inv, h.bg, h.bw, h.bm, h.Fg, h.Fw, h.Fm, h.Fo, fun k hk => h.Fr k ?_, fun k hk => ⟨(h.Fl k hk).1, Nat.lt_of_lt_of_le (h.Fl k hk).2 hsz⟩⟩
  rwa [rowOf_same (hs gw h.Fw)] at hk
/-- Another packer is written. -/
theorem PK.other {b2 : Nat} {F2' : Nat → Prop} (h : PK w base F g M s) (hk : Kf b2 F2 F2' w w') (hd : ∀ k, F k → ¬ F2 k) : PK w' base F g M s :=
  h.kept hk.below.size fun k hF => hk.rest k (h.lt hF).2 (hd k hF)
end

end Go.Proofs.YtadeflehdfmilaaGreat
