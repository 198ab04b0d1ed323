/-
  What PackBack goes through: names put once or twice, read where they stand: mathematics; the relations of its loops. Conditions: as each theorem names them.
-/
import Derived.Test.YtkjekibbacdbaaaPkBkK
namespace Go.Proofs.Ytkjekibbacdbaaa
open Go.RowKit Go.Maps
set_option linter.unusedVariables false

/-- Each name is read at its place, up to its end. -/
structure Row3 (l : List UInt8) (o1 o2 : List Nat) (D : List ByteArray) : Prop where
  l1 : o1.length = D.length
  l2 : o2.length = D.length
  rd : ∀ (j : Nat) (d : ByteArray), D[j]? = some d → ∃ a e n, o1[j]? = some a ∧ o2[j]? = some e ∧ Rds l a (bs d) e n ∧ n ≤ 400
theorem Row3.nil (l : List UInt8) : Row3 l [] [] [] := ⟨rfl, rfl, fun j d h => by simp at h⟩
theorem Row3.app {l : List UInt8} {o1 o2 : List Nat} {D : List ByteArray} (h : Row3 l o1 o2 D) (y : List UInt8) : Row3 (l ++ y) o1 o2 D := ⟨h.l1, h.l2, fun j d hd => by
  obtain ⟨a, e, n, h1, h2, h3, h4⟩ := h.rd j d hd
  exact ⟨a, e, n, h1, h2, h3.app y, h4⟩⟩
theorem Row3.snoc {l : List UInt8} {o1 o2 : List Nat} {D : List ByteArray} (h : Row3 l o1 o2 D) {d : ByteArray} {a e n : Nat} (hr : Rds l a (bs d) e n) (hn : n ≤ 400) : Row3 l (o1 ++ [a]) (o2 ++ [e]) (D ++ [d]) := by
  refine ⟨by simp [h.l1], by simp [h.l2], fun j d' hd => ?_⟩
  rcases Nat.lt_or_ge j D.length with hlt | hge
  · rw [List.getElem?_append_left hlt] at hd
    obtain ⟨a', e', n', h1, h2, h3, h4⟩ := h.rd j d' hd
    exact ⟨a', e', n', by rw [List.getElem?_append_left (by rw [h.l1]; exact hlt)]; exact h1, by rw [List.getElem?_append_left (by rw [h.l2]; exact hlt)]; exact h2, h3, h4⟩
  · have hj : j < (D ++ [d]).length := (List.getElem?_eq_some_iff.1 hd).1
    rw [List.length_append, List.length_singleton] at hj
    obtain rfl : j = D.length := by omega
    rw [List.getElem?_append_right (Nat.le_refl _), Nat.sub_self] at hd
    simp only [List.getElem?_cons_zero, Option.some.injEq] at hd
    subst hd
    refine ⟨a, e, n, ?_, ?_, hr, hn⟩
    · rw [List.getElem?_append_right (by rw [h.l1]; exact Nat.le_refl _), h.l1, Nat.sub_self]; rfl
    · rw [List.getElem?_append_right (by rw [h.l2]; exact Nat.le_refl _), h.l2, Nat.sub_self]; rfl

theorem Row3.stay {l l' : List UInt8} {o1 o2 : List Nat} {D : List ByteArray} (h : Row3 l o1 o2 D) (ha : ∃ y, l' = l ++ y) : Row3 l' o1 o2 D := by
  obtain ⟨y, rfl⟩ := ha
  exact h.app y
theorem Row3.more {l l' : List UInt8} {o1 o2 : List Nat} {D : List ByteArray} {x : ByteArray} {m e : Nat} (h : Row3 l o1 o2 D) (ha : ∃ y, l' = l ++ y) (hr : ∃ n, Rds l' m (bs x) e n ∧ n ≤ 400) : Row3 l' (o1 ++ [m]) (o2 ++ [e]) (D ++ [x]) := by
  obtain ⟨n, h1, h2⟩ := hr
  exact (h.stay ha).snoc h1 h2
theorem nameF_inv {M : Nat} : ∀ (k : Nat) (r : List UInt8) (s : PS), Inv M s → Inv M (nameF M k r s).2
  | 0, _, _, h => h
  | k + 1, r, s, h => by
    unfold nameF
    split
    · exact h.put _
    · split
      · exact h.num _ _
      · split
        · exact nameF_inv k _ _ ((h.put _).keep _ _)
        · exact h.put _
theorem nameS_inv {M : Nat} {s : PS} (h : Inv M s) (x : List UInt8) : Inv M (nameS M s x).2 := by
  unfold nameS
  split
  · exact h
  · split
    · exact h
    · exact nameF_inv _ _ _ h
/-- What a round has come to ahead of its tests. -/
structure PbMid (s : PS) (k : Nat) (x : ByteArray) (m : Nat) (s' : PS) (c : Nat) : Prop where
  good : GoodP s'
  len : s'.l.length ≤ 300 + 257 * (k + 1)
  app : ∃ y, s'.l = s.l ++ y
  err : c = chkN (bs x)
  le : m ≤ s'.l.length
  yes : c = 0 → s'.l.length - m ≤ (bs x).length + 1 ∧ ∃ n, Rds s'.l m (bs x) s'.l.length n ∧ n ≤ 400
theorem pb_plain {s : PS} (h : GoodP s) {k : Nat} (hl : s.l.length ≤ 300 + 257 * k) (hk : k < 60) (x : ByteArray) : PbMid s k x s.l.length (plainS 65535 s (bs x)).2 (plainS 65535 s (bs x)).1 := by
  by_cases hc : chkN (bs x) = 0
  · have hx := (chkN_iff.1 hc).1
    obtain ⟨h1, h2⟩ := plainS_good (M := 65535) h hc (by omega)
    obtain ⟨y, hy, hy1, hy2⟩ := h1.l
    have hlen := congrArg List.length hy
    rw [List.length_append] at hlen
    obtain ⟨n, hr, hn⟩ := h1.read
    exact ⟨h2, by omega, ⟨y, hy⟩, by rw [h1.ok, hc], by omega, fun _ => ⟨by omega, n, hr, by omega⟩⟩
  · rw [(nameS_bad h.f hc).2]
    exact ⟨h, by simp only; omega, ⟨[], by simp⟩, rfl, Nat.le_refl _, fun e => absurd e hc⟩
theorem pb_name {s : PS} (h : GoodP s) (hi : Inv 65535 s) {k : Nat} (hl : s.l.length ≤ 300 + 257 * k) (hk : k < 60) (x : ByteArray) (q1 q2 : Nat × PS) (e1 : nameS 65535 s (bs x) = q1) (hi1 : Inv 65535 q1.2) (e2 : nameS 65535 q1.2 (bs x) = q2) :
    q1.1 = chkN (bs x) ∧ PbMid s k x q1.2.l.length q2.2 q2.1 ∧ (q1.1 = 0 → bs x ≠ [] → q2.2.l.length = q1.2.l.length + 2) := by
  have hb : s.l.length + 257 ≤ 300 + 257 * (k + 1) := by omega
  by_cases hc : chkN (bs x) = 0
  · have hx := (chkN_iff.1 hc).1
    obtain ⟨h1, h2, h3⟩ := nameS_good (M := 65535) h hi hc (by omega)
    rw [e1] at h1 h2 h3
    obtain ⟨y, hy, hy1, hy2⟩ := h1.l
    have hlen := congrArg List.length hy
    rw [List.length_append] at hlen
    obtain ⟨g1, g2, _⟩ := nameS_good (M := 65535) (x := bs x) h2 hi1 hc (by omega)
    rw [e2] at g1 g2
    obtain ⟨z, hz, hz1, hz2⟩ := g1.l
    have hlen2 := congrArg List.length hz
    rw [List.length_append] at hlen2
    obtain ⟨n, hr, hn⟩ := g1.read
    have hag : bs x ≠ [] → q2.2.l.length = q1.2.l.length + 2 := fun hne => by
      obtain ⟨a, ha⟩ := h3 (by omega) hne
      have := nameS_again (M := 65535) (x := bs x) h2 hi1 hc hne ha (by omega)
      rw [e2] at this
      rw [this, List.length_append, octs_length]
    have h257 : q2.2.l.length ≤ s.l.length + 257 := by
      by_cases hne : bs x = []
      · rw [hne] at hy2 hz2
        simp only [List.length_nil] at hy2 hz2
        omega
      · have := hag hne
        omega
    refine ⟨by rw [h1.ok, hc], ⟨g2, Nat.le_trans h257 hb, ⟨y ++ z, by rw [hz, hy, List.append_assoc]⟩, by rw [g1.ok, hc], by omega, fun _ => ⟨by omega, n, hr, by omega⟩⟩, fun _ => hag⟩
  · have hb1 := (nameS_bad (M := 65535) h.f hc).1
    rw [e1] at hb1
    subst hb1
    have hb2 := (nameS_bad (M := 65535) h.f hc).1
    simp only at e2
    rw [hb2] at e2
    subst e2
    exact ⟨rfl, ⟨h, by simp only; omega, ⟨[], by simp⟩, rfl, Nat.le_refl _, fun e => absurd e hc⟩, fun e => absurd e hc⟩

/-- The relation of the law's first loop. -/
def PbRel (L0 : List ByteArray) (w : World) (b g : Nat) (v1 v2 v3 vi : Value) (wr : World) : Prop :=
  ∃ k F s o1 o2 D, vi = .int .i64 (k : Nat) ∧ k ≤ L0.length ∧ PK wr b F g 65535 s ∧ GoodP s ∧ s.l.length ≤ 300 + 257 * k ∧ D.length ≤ k ∧ Row3 s.l o1 o2 D ∧ OwnI wr b v1 o1 ∧ OwnI wr b v2 o2 ∧ TOwn 32 wr b v3 D ∧
    (∀ q, v1.ownBlock = some q → ¬ F q) ∧ (∀ q, v2.ownBlock = some q → ¬ F q) ∧ (∀ q, v3.ownBlock = some q → ¬ F q) ∧ (∀ q, v1.ownBlock = some q → v2.ownBlock ≠ some q) ∧ Below w.heap.size w wr
theorem PbRel.mk' {L0 : List ByteArray} {w : World} {b g k : Nat} {v1 v2 v3 : Value} {wr : World} {F : Nat → Prop} {s : PS} {q0 o0 : Nat} {x : ByteArray} {o1 o2 : List Nat} {D : List ByteArray} (h : B3 w wr b g F s q0 o0 x v1 o1 v2 o2 v3 D) (hk : k ≤ L0.length) (hg : GoodP s) (hl : s.l.length ≤ 300 + 257 * k) (hD : D.length ≤ k) (hr : Row3 s.l o1 o2 D) (vi : Value) (hv : vi = .int .i64 (k : Nat)) :
    PbRel L0 w b g v1 v2 v3 vi wr := ⟨k, F, s, o1, o2, D, hv, hk, h.pk, hg, hl, hD, hr, h.r1, h.r2, h.r3, h.d1, h.d2, h.d3, h.d12, h.bel⟩
/-- What holds ahead of a round's tests. -/
def PbCut (L0 : List ByteArray) (w : World) (b g : Nat) (s : PS) (k q0 o0 : Nat) (x : ByteArray) (v1 : Value) (o1 : List Nat) (v2 : Value) (o2 : List Nat) (v3 : Value) (D : List ByteArray) (vm va ve : Value) (wc : World) : Prop :=
  ∃ m s' c F', vm = .int .i64 (m : Nat) ∧ va = .bool false ∧ ve = .int .i64 (c : Nat) ∧ PbMid s k x m s' c ∧ B3 w wc b g F' s' q0 o0 x v1 o1 v2 o2 v3 D
/-- The relation of the second loop. -/
def PcRel (n : Nat) (wE : World) (vi : Value) (wr : World) : Prop := ∃ p m : Nat, vi = .int .i64 (p : Nat) ∧ p ≤ n ∧ wr = wE.drewN m
end Go.Proofs.Ytkjekibbacdbaaa
