/-
  What a packer of names answers, call by call: plain mathematics. No condition beyond those that each theorem names.
-/
import Derived.Test.YtodedbokeodmkaaGreatZk1
import Derived.Test.YtodedbokeodmkaaGreatZk3
namespace Go.Proofs.YtodedbokeodmkaaGreat
open Go.RowKit
set_option linter.unusedVariables false

/-- What a packer has: its octets, its error, where each rest stands, the lengths that were begun. -/
structure PS where
  l : List UInt8
  f : Nat
  m : List UInt8 → Option Nat
  o : List Nat
def ps0 : PS := ⟨[], 0, fun _ => none, []⟩
def upd (m : List UInt8 → Option Nat) (k : List UInt8) (a : Nat) : List UInt8 → Option Nat := fun x => if x = k then some a else m x
def putS (M : Nat) (s : PS) (x : List UInt8) : Nat × PS := ((putW M s.l s.f x).e, { s with l := (putW M s.l s.f x).l, f := (putW M s.l s.f x).f })
def numS (M : Nat) (s : PS) (v : Nat) (n : Int) : Nat × PS := ((numW M s.l s.f v n).e, { s with l := (numW M s.l s.f v n).l, f := (numW M s.l s.f v n).f })
def headN (r : List UInt8) : List UInt8 := r.take (1 + (r.headD 0).toNat)
def restN (r : List UInt8) : List UInt8 := r.drop (1 + (r.headD 0).toNat)
def keepS (s : PS) (r : List UInt8) (a : Nat) : PS := if a < 16384 then { s with m := upd s.m r a } else s
def nameF (M : Nat) : Nat → List UInt8 → PS → Nat × PS
  | 0, _, s => (0, s)
  | k + 1, r, s => if r = [] then putS M s [0] else match s.m r with
    | some a => numS M s (49152 + a) 2
    | none => if (putS M s (headN r)).1 = 0 then nameF M k (restN r) (keepS (putS M s (headN r)).2 r s.l.length) else putS M s (headN r)
def nameS (M : Nat) (s : PS) (n : List UInt8) : Nat × PS := if s.f ≠ 0 then (s.f, s) else if chkN n ≠ 0 then (chkN n, s) else nameF M (n.length + 1) n s
def plainF (M : Nat) : Nat → List UInt8 → PS → Nat × PS
  | 0, _, s => (0, s)
  | k + 1, r, s => if r = [] then putS M s [0] else if (putS M s (headN r)).1 = 0 then plainF M k (restN r) (putS M s (headN r)).2 else putS M s (headN r)
def plainS (M : Nat) (s : PS) (n : List UInt8) : Nat × PS := if s.f ≠ 0 then (s.f, s) else if chkN n ≠ 0 then (chkN n, s) else plainF M (n.length + 1) n s
def beginS (M : Nat) (s : PS) : Nat × Nat × PS := if (numS M s 0 2).1 = 0 then (s.l.length, 0, { (numS M s 0 2).2 with o := s.o ++ [s.l.length] }) else (0, (numS M s 0 2).1, (numS M s 0 2).2)
def endS (s : PS) (a : Int) : Nat × PS :=
  if s.f ≠ 0 then (s.f, s) else match s.o.getLast? with
    | none => (9, s)
    | some b => if (b : Int) = a then (0, { s with l := over s.l b (octs (s.l.length - b - 2) 2), o := s.o.dropLast }) else (9, s)
def sizeN (n : List UInt8) : Nat := if chkN n = 0 then n.length + 1 else 0

/-- What always holds of a packer. -/
structure Inv (M : Nat) (s : PS) : Prop where
  le : s.l.length ≤ M
  most : M ≤ 65535
  mark : ∀ k a, s.m k = some a → a < 16384
  begun : ∀ a ∈ s.o, a + 2 ≤ s.l.length
  olen : s.o.length ≤ s.l.length
theorem inv0 {M : Nat} (h : M ≤ 65535) : Inv M ps0 := ⟨Nat.zero_le _, h, (fun _ _ h => nomatch h), (fun _ h => nomatch h), Nat.zero_le _⟩
theorem putW_grow (M : Nat) (l : List UInt8) (f : Nat) (s : List UInt8) : l.length ≤ (putW M l f s).l.length := by
  unfold putW
  split
  · exact Nat.le_refl _
  · split
    · exact Nat.le_refl _
    · rw [List.length_append]; exact Nat.le_add_right _ _
theorem numW_grow (M : Nat) (l : List UInt8) (f v : Nat) (n : Int) : l.length ≤ (numW M l f v n).l.length := by
  unfold numW
  split
  · exact Nat.le_refl _
  · split
    · exact Nat.le_refl _
    · exact putW_grow ..
theorem numW_le' {M : Nat} {l : List UInt8} (f v : Nat) (n : Int) (h : l.length ≤ M) : (numW M l f v n).l.length ≤ M := by
  unfold numW
  split
  · exact h
  · split
    · exact h
    · exact putW_le _ _ h
theorem Inv.grow {M : Nat} {s : PS} (h : Inv M s) {l' : List UInt8} (f' : Nat) (h1 : s.l.length ≤ l'.length) (h2 : l'.length ≤ M) : Inv M { s with l := l', f := f' } :=
  ⟨h2, h.most, h.mark, fun a ha => Nat.le_trans (h.begun a ha) h1, Nat.le_trans h.olen h1⟩
theorem Inv.put {M : Nat} {s : PS} (h : Inv M s) (x : List UInt8) : Inv M (putS M s x).2 := h.grow _ (putW_grow ..) (putW_le _ _ h.le)
theorem Inv.num {M : Nat} {s : PS} (h : Inv M s) (v : Nat) (n : Int) : Inv M (numS M s v n).2 := h.grow _ (numW_grow ..) (numW_le' _ _ _ h.le)
theorem Inv.upd {M : Nat} {s : PS} (h : Inv M s) (r : List UInt8) {a : Nat} (ha : a < 16384) : Inv M { s with m := upd s.m r a } :=
  ⟨h.le, h.most, fun k b hb => by
    unfold Go.Proofs.YtodedbokeodmkaaGreat.upd at hb
    simp only at hb
    split at hb
    · cases hb; exact ha
    · exact h.mark _ _ hb, h.begun, h.olen⟩
theorem Inv.keep {M : Nat} {s : PS} (h : Inv M s) (r : List UInt8) (a : Nat) : Inv M (keepS s r a) := by
  unfold keepS
  split
  · rename_i ha
    exact h.upd r ha
  · exact h
theorem put_ok {M : Nat} {s : PS} {x : List UInt8} (h : (putS M s x).1 = 0) : s.f = 0 ∧ s.l.length + x.length ≤ M ∧ (putS M s x).2 = { s with l := s.l ++ x } := by
  unfold putS putW at h ⊢
  by_cases hf : s.f = 0
  · by_cases hl : M < s.l.length + x.length
    · simp [hf, hl] at h
    · refine ⟨hf, by omega, ?_⟩
      simp [hf, hl]
  · simp [hf] at h
theorem putW_fits {M : Nat} {l x : List UInt8} (h : l.length + x.length ≤ M) : putW M l 0 x = ⟨0, l ++ x, 0⟩ := by
  unfold putW
  rw [if_neg (by omega), if_neg (by omega)]
theorem put_room {M : Nat} {s : PS} {x : List UInt8} (hf : s.f = 0) (h : s.l.length + x.length ≤ M) : putS M s x = (0, { s with l := s.l ++ x }) := by
  unfold putS
  rw [hf, putW_fits h]
theorem headN_cons (c : UInt8) (t : List UInt8) : headN (c :: t) = c :: t.take c.toNat := by
  unfold headN
  rw [List.headD_cons, Nat.add_comm]
  rfl
theorem restN_cons (c : UInt8) (t : List UInt8) : restN (c :: t) = t.drop c.toNat := by
  unfold restN
  rw [List.headD_cons, Nat.add_comm]
  rfl
theorem head_rest (r : List UInt8) : headN r ++ restN r = r := List.take_append_drop _ _
theorem enc1_head {x : List UInt8} (hx : ok1 x) (r : List UInt8) : headN (enc1 x ++ r) = enc1 x ∧ restN (enc1 x ++ r) = r := by
  unfold ok1 at hx
  have hn : (UInt8.ofNat x.length).toNat = x.length := UInt8.toNat_ofNat_of_lt' (by show _ < 256; omega)
  unfold enc1
  rw [List.cons_append, headN_cons, restN_cons, hn]
  exact ⟨by rw [List.take_left' rfl], List.drop_left' rfl⟩
/-- Octets that are labels, one behind the other. -/
def Labs (r : List UInt8) : Prop := ∃ L, okN L ∧ r = enc L
theorem labs_of_chk {n : List UInt8} (h : chkN n = 0) : Labs n := ⟨labs n, labs_ok n, (chkN_iff.1 h).2.symm⟩
theorem Labs.step {r : List UInt8} (h : Labs r) (hr : r ≠ []) : ∃ c t, r = c :: t ∧ 1 ≤ c.toNat ∧ c.toNat ≤ 63 ∧ c.toNat ≤ t.length ∧ Labs (restN r) := by
  obtain ⟨L, hL, rfl⟩ := h
  rcases L with _ | ⟨x, L⟩
  · exact absurd rfl hr
  · obtain ⟨hx, hL'⟩ := okN_cons.1 hL
    obtain ⟨h1, h2⟩ := enc1_head hx (enc L)
    have hx' := hx
    unfold ok1 at hx'
    have hn : (UInt8.ofNat x.length).toNat = x.length := UInt8.toNat_ofNat_of_lt' (by show _ < 256; omega)
    refine ⟨UInt8.ofNat x.length, x ++ enc L, rfl, by omega, by omega, by rw [hn, List.length_append]; omega, ?_⟩
    rw [enc_cons, h2]
    exact ⟨L, hL', rfl⟩
theorem rest_lt {r : List UInt8} (hr : r ≠ []) : (restN r).length < r.length := by
  unfold restN
  have : 0 < r.length := List.length_pos_iff.2 hr
  rw [List.length_drop]
  omega
theorem nameF_nil {M k : Nat} {s : PS} : nameF M (k + 1) [] s = putS M s [0] := if_pos rfl
theorem nameF_some {M k a : Nat} {r : List UInt8} {s : PS} (hr : r ≠ []) (h : s.m r = some a) : nameF M (k + 1) r s = numS M s (49152 + a) 2 := by
  unfold nameF
  rw [if_neg hr, h]
theorem nameF_long {M k : Nat} {r : List UInt8} {s : PS} (hr : r ≠ []) (h : s.m r = none) (hp : (putS M s (headN r)).1 ≠ 0) : nameF M (k + 1) r s = putS M s (headN r) := by
  conv => lhs; unfold nameF
  rw [if_neg hr, h]
  simp only [hp, if_false]
theorem nameF_next {M k : Nat} {r : List UInt8} {s : PS} (hr : r ≠ []) (h : s.m r = none) (hp : (putS M s (headN r)).1 = 0) : nameF M (k + 1) r s = nameF M k (restN r) (keepS (putS M s (headN r)).2 r s.l.length) := by
  conv => lhs; unfold nameF
  rw [if_neg hr, h]
  simp only [hp, if_true]
theorem plainF_nil {M k : Nat} {s : PS} : plainF M (k + 1) [] s = putS M s [0] := if_pos rfl
theorem plainF_long {M k : Nat} {r : List UInt8} {s : PS} (hr : r ≠ []) (hp : (putS M s (headN r)).1 ≠ 0) : plainF M (k + 1) r s = putS M s (headN r) := by
  conv => lhs; unfold plainF
  rw [if_neg hr, if_neg hp]
theorem plainF_next {M k : Nat} {r : List UInt8} {s : PS} (hr : r ≠ []) (hp : (putS M s (headN r)).1 = 0) : plainF M (k + 1) r s = plainF M k (restN r) (putS M s (headN r)).2 := by
  conv => lhs; unfold plainF
  rw [if_neg hr, if_pos hp]
end Go.Proofs.YtodedbokeodmkaaGreat
