/-
  HeaderBack: the mathematics and the walk. The header's ID is one that its type bears.
-/
import Derived.Test.YtjedfgflkhchiaaHdRd
import Derived.Test.YtjedfgflkhchiaaHdOpen
import Derived.Test.YtjedfgflkhchiaaQui
namespace Go.Proofs.Ytjedfgflkhchiaa
open Go.RowKit
set_option linter.unusedVariables false

/-! ### Octets put are read, octets read are put -/
theorem octs_two (v : Nat) : octs v 2 = [UInt8.ofNat (v / 256), UInt8.ofNat v] := by
  simp [octs]
theorem num_pair (x y : UInt8) : num [x, y] = x.toNat * 256 + y.toNat := by simp [num]
theorem octs_pair (x y : UInt8) : octs (x.toNat * 256 + y.toNat) 2 = [x, y] := by
  have h1 := x.toNat_lt
  have h2 := y.toNat_lt
  rw [octs_two]
  have e1 : UInt8.ofNat ((x.toNat * 256 + y.toNat) / 256) = x := by
    apply UInt8.toNat_inj.1
    rw [ofNat_val]
    omega
  have e2 : UInt8.ofNat (x.toNat * 256 + y.toNat) = y := by
    apply UInt8.toNat_inj.1
    rw [ofNat_val]
    omega
  rw [e1, e2]
theorem num_two_octs {v : Nat} (h : v < 65536) : num (octs v 2) = v := num_octs 2 v (by simpa using h)
theorem twelve {l : List UInt8} (h : 12 ≤ l.length) : ∃ a0 a1 b0 b1 c0 c1 d0 d1 e0 e1 f0 f1 t, l = a0 :: a1 :: b0 :: b1 :: c0 :: c1 :: d0 :: d1 :: e0 :: e1 :: f0 :: f1 :: t := by
  match l, h with
  | a0 :: a1 :: b0 :: b1 :: c0 :: c1 :: d0 :: d1 :: e0 :: e1 :: f0 :: f1 :: t, _ => exact ⟨a0, a1, b0, b1, c0, c1, d0, d1, e0, e1, f0, f1, t, rfl⟩
theorem words_of {a0 a1 b0 b1 c0 c1 d0 d1 e0 e1 f0 f1 : UInt8} {t : List UInt8} : 
    wdAt (a0 :: a1 :: b0 :: b1 :: c0 :: c1 :: d0 :: d1 :: e0 :: e1 :: f0 :: f1 :: t) 0 = num [a0, a1] ∧
    wdAt (a0 :: a1 :: b0 :: b1 :: c0 :: c1 :: d0 :: d1 :: e0 :: e1 :: f0 :: f1 :: t) 1 = num [b0, b1] ∧
    wdAt (a0 :: a1 :: b0 :: b1 :: c0 :: c1 :: d0 :: d1 :: e0 :: e1 :: f0 :: f1 :: t) 2 = num [c0, c1] ∧
    wdAt (a0 :: a1 :: b0 :: b1 :: c0 :: c1 :: d0 :: d1 :: e0 :: e1 :: f0 :: f1 :: t) 3 = num [d0, d1] ∧
    wdAt (a0 :: a1 :: b0 :: b1 :: c0 :: c1 :: d0 :: d1 :: e0 :: e1 :: f0 :: f1 :: t) 4 = num [e0, e1] ∧
    wdAt (a0 :: a1 :: b0 :: b1 :: c0 :: c1 :: d0 :: d1 :: e0 :: e1 :: f0 :: f1 :: t) 5 = num [f0, f1] := ⟨rfl, rfl, rfl, rfl, rfl, rfl⟩
/-- The words of a header's octets, whatever is behind. -/
theorem ocH_words {h : Hd} (m : h.may) (hid : h.id < 65536) (t : List UInt8) : wdAt (ocH h ++ t) 0 = h.id ∧ wdAt (ocH h ++ t) 1 = fwd h ∧ wdAt (ocH h ++ t) 2 = h.n0.toNat ∧ wdAt (ocH h ++ t) 3 = h.n1.toNat ∧ wdAt (ocH h ++ t) 4 = h.n2.toNat ∧ wdAt (ocH h ++ t) 5 = h.n3.toNat := by
  have h1 := fW_lt m 7
  obtain ⟨_, _, ⟨_, _⟩, ⟨_, _⟩, ⟨_, _⟩, ⟨_, _⟩⟩ := m
  have e : ocH h ++ t = UInt8.ofNat (h.id / 256) :: UInt8.ofNat h.id :: UInt8.ofNat (fwd h / 256) :: UInt8.ofNat (fwd h) :: UInt8.ofNat (h.n0.toNat / 256) :: UInt8.ofNat h.n0.toNat :: UInt8.ofNat (h.n1.toNat / 256) :: UInt8.ofNat h.n1.toNat :: UInt8.ofNat (h.n2.toNat / 256) :: UInt8.ofNat h.n2.toNat :: UInt8.ofNat (h.n3.toNat / 256) :: UInt8.ofNat h.n3.toNat :: t := by
    unfold ocH
    simp only [octs_two, List.cons_append, List.nil_append]
  rw [e]
  obtain ⟨p0, p1, p2, p3, p4, p5⟩ := words_of (a0 := UInt8.ofNat (h.id / 256)) (a1 := UInt8.ofNat h.id) (b0 := UInt8.ofNat (fwd h / 256)) (b1 := UInt8.ofNat (fwd h)) (c0 := UInt8.ofNat (h.n0.toNat / 256)) (c1 := UInt8.ofNat h.n0.toNat) (d0 := UInt8.ofNat (h.n1.toNat / 256)) (d1 := UInt8.ofNat h.n1.toNat) (e0 := UInt8.ofNat (h.n2.toNat / 256)) (e1 := UInt8.ofNat h.n2.toNat) (f0 := UInt8.ofNat (h.n3.toNat / 256)) (f1 := UInt8.ofNat h.n3.toNat) (t := t)
  rw [p0, p1, p2, p3, p4, p5, ← octs_two, ← octs_two, ← octs_two, ← octs_two, ← octs_two, ← octs_two]
  exact ⟨num_two_octs hid, num_two_octs h1, num_two_octs (by omega), num_two_octs (by omega), num_two_octs (by omega), num_two_octs (by omega)⟩
theorem put_read {h : Hd} (m : h.may) (hid : h.id < 65536) (t : List UInt8) : rdE (ocH h ++ t) = 0 ∧ rdV (ocH h ++ t) = h := by
  obtain ⟨w0, w1, w2, w3, w4, w5⟩ := ocH_words m hid t
  have he : rdE (ocH h ++ t) = 0 := by
    refine rdE_ok (by rw [List.length_append, ocH_length]; omega) ?_
    rw [w1]
    have := fwd_64 m
    simp [bit]
    omega
  refine ⟨he, ?_⟩
  unfold rdV
  rw [if_pos he, w0, w1, w2, w3, w4, w5]
  exact ofW_fwd m
theorem read_put {l : List UInt8} (h : rdE l = 0) : (rdV l).may ∧ (rdV l).id < 65536 ∧ 12 ≤ l.length ∧ ocH (rdV l) = l.take 12 := by
  have hl : 12 ≤ l.length := by
    rcases Nat.lt_or_ge l.length 12 with hh | hh
    · rw [rdE_more hh] at h; cases h
    · exact hh
  have hb : bit (wdAt l 1) 64 = false := by
    cases hb : bit (wdAt l 1) 64
    · rfl
    · rw [rdE_bad hl hb] at h; cases h
  have k0 := wdAt_lt l 0
  have k1 := wdAt_lt l 1
  have k2 := wdAt_lt l 2
  have k3 := wdAt_lt l 3
  have k4 := wdAt_lt l 4
  have k5 := wdAt_lt l 5
  have hv : rdV l = ofW (wdAt l 0) (wdAt l 1) (wdAt l 2) (wdAt l 3) (wdAt l 4) (wdAt l 5) := by unfold rdV; rw [if_pos h]
  have h6 : wdAt l 1 / 64 % 2 = 0 := by
    have : ¬ wdAt l 1 / 64 % 2 = 1 := by simpa [bit] using hb
    omega
  rw [hv]
  refine ⟨ofW_may k2 k3 k4 k5, k0, hl, ?_⟩
  have hf := fwd_ofW (wdAt l 0) (wdAt l 1) (wdAt l 2) (wdAt l 3) (wdAt l 4) (wdAt l 5) k1 h6
  unfold ocH
  rw [hf]
  obtain ⟨a0, a1, b0, b1, c0, c1, d0, d1, e0, e1, f0, f1, t, rfl⟩ := twelve hl
  obtain ⟨p0, p1, p2, p3, p4, p5⟩ := words_of (a0 := a0) (a1 := a1) (b0 := b0) (b1 := b1) (c0 := c0) (c1 := c1) (d0 := d0) (d1 := d1) (e0 := e0) (e1 := e1) (f0 := f0) (f1 := f1) (t := t)
  simp only [ofW, Int.toNat_natCast, p0, p1, p2, p3, p4, p5, num_pair, octs_pair]
  rfl
end Go.Proofs.Ytjedfgflkhchiaa
