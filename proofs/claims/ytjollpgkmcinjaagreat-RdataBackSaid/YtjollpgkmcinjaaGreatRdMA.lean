/-
  Names that stand where they are read, by labels, pointers, the nought: what reading them answers: plain mathematics. No condition beyond those that each theorem names. A name that is put is read where it stands, by the reader's own rules (a pointer leads ahead of its run): plain mathematics. Conditions as stated. What is put of a part is read back: plain mathematics. Conditions as stated. What is put of data is read back, one octet less is not, one more leaves one: plain mathematics. Conditions as stated. Data of a type that are put are read back; one octet more, one less: plain mathematics. Conditions as stated. The kit's LightData, of data that may be: just if there are no more than 2,000 octets. Conditions: the data can be read; few octets in all.
-/
import Derived.Test.YtjollpgkmcinjaaGreatUpMath
import Derived.Test.YtjollpgkmcinjaaGreatRdM8
import Derived.Test.YtjollpgkmcinjaaGreatRdM9
namespace Go.Proofs.YtjollpgkmcinjaaGreat
set_option linter.unusedVariables false

/-- At place p, the run having begun at r, the name n is read by c pointers; the place behind is e. -/
inductive Ru (x : List UInt8) : Nat → Nat → List UInt8 → Nat → Nat → Prop
  | nil {r p : Nat} (h : x[p]? = some 0) : Ru x r p [] (p + 1) 0
  | lab {r p : Nat} {y n : List UInt8} {e c : Nat} (hy : ok1 y) (h : (x.drop p).take (1 + y.length) = enc1 y) (hr : Ru x r (p + (1 + y.length)) n e c) : Ru x r p (enc1 y ++ n) e c
  | ptr {r p : Nat} {a d : UInt8} {n : List UInt8} {e c : Nat} (h : x[p]? = some a) (h1 : 192 ≤ a.toNat) (hd : x[p + 1]? = some d) (ht : 256 * (a.toNat - 192) + d.toNat < r) (hr : Ru x (256 * (a.toNat - 192) + d.toNat) (256 * (a.toNat - 192) + d.toNat) n e c) : Ru x r p n (p + 2) (c + 1)

theorem drop_one {x : List UInt8} {p : Nat} {a : UInt8} (h : x[p]? = some a) : x.drop p = a :: x.drop (p + 1) := by
  obtain ⟨hp, rfl⟩ := List.getElem?_eq_some_iff.1 h
  exact List.drop_eq_getElem_cons hp
theorem partU_nil {x : List UInt8} {p : Nat} (h : x[p]? = some 0) : partU (x.drop p) = (1, 0) ∧ (x.drop p).take 1 = [0] := by
  rw [drop_one h, partU_cons]
  exact ⟨by simp, by simp⟩
theorem partU_lab {x : List UInt8} {p : Nat} {y : List UInt8} (hy : ok1 y) (h : (x.drop p).take (1 + y.length) = enc1 y) : partU (x.drop p) = (1 + y.length, 0) ∧ isPtr (enc1 y) = false ∧ enc1 y ≠ [0] := by
  have hy' := hy
  unfold ok1 at hy'
  have hn : (UInt8.ofNat y.length).toNat = y.length := UInt8.toNat_ofNat_of_lt' (by show _ < 256; omega)
  refine ⟨?_, ?_, ?_⟩
  · rcases hx : x.drop p with _ | ⟨a, t⟩
    · rw [hx] at h; simp [enc1] at h
    · have hl := congrArg List.length h
      rw [hx, Nat.add_comm, List.take_succ_cons] at h
      unfold enc1 at h
      injection h with h1 h2
      rw [hx, List.length_take, List.length_cons, enc1_length] at hl
      rw [partU_cons, h1, hn, if_neg (by omega), if_neg (by omega), if_neg (by omega)]
  · unfold isPtr enc1
    rw [List.headD_cons, hn]
    exact decide_eq_false (by omega)
  · intro e
    have := congrArg List.length e
    rw [enc1_length, List.length_singleton] at this
    omega
theorem partU_ptr {x : List UInt8} {p : Nat} {a d : UInt8} (h : x[p]? = some a) (h1 : 192 ≤ a.toNat) (hd : x[p + 1]? = some d) : partU (x.drop p) = (2, 0) ∧ (x.drop p).take 2 = [a, d] := by
  have e := drop_one h
  rw [drop_one hd] at e
  rw [e, partU_cons, if_pos h1, if_neg (by simp)]
  exact ⟨rfl, rfl⟩

theorem keep_eq {u : US} {z : List UInt8} (h : u.t = z) (hl : u.l.length + z.length ≤ 254) : keepU u = { u with l := u.l ++ z } := by
  subst h
  exact if_neg (by omega)
theorem Ru.mono {x : List UInt8} {r p e c : Nat} {n : List UInt8} (h : Ru x r p n e c) : ∀ {r' : Nat}, r ≤ r' → Ru x r' p n e c := by
  induction h with
  | nil h => exact fun _ => .nil h
  | lab hy h hr ih => exact fun hle => .lab hy h (ih hle)
  | ptr h h1 hd ht hr ih => exact fun hle => .ptr h h1 hd (by omega) hr
theorem take_app {x y z : List UInt8} {p k : Nat} (h : (x.drop p).take k = z) (hl : z.length = k) (hk : 0 < k) : ((x ++ y).drop p).take k = z := by
  have h2 := congrArg List.length h
  rw [List.length_take, List.length_drop, hl] at h2
  rw [List.drop_append_of_le_length (by omega), List.take_append_of_le_length (by rw [List.length_drop]; omega)]
  exact h
theorem at_app' {x y : List UInt8} {p : Nat} {a : UInt8} (h : x[p]? = some a) : (x ++ y)[p]? = some a := by
  rw [List.getElem?_append_left (List.getElem?_eq_some_iff.1 h).1]
  exact h
/-- Octets behind do not matter. -/
theorem Ru.app {x : List UInt8} (y : List UInt8) {r p e c : Nat} {n : List UInt8} (h : Ru x r p n e c) : Ru (x ++ y) r p n e c := by
  induction h with
  | nil h => exact .nil (at_app' h)
  | @lab r p z n e c hz h hr ih => exact .lab hz (take_app h (by rw [enc1_length]; omega) (by omega)) ih
  | ptr h h1 hd ht hr ih => exact .ptr (at_app' h) h1 (at_app' hd) ht ih

/-- Reading answers as the name stands. -/
theorem Ru.run {x : List UInt8} {r p e c : Nat} {n : List UInt8} (h : Ru x r p n e c) : ∀ (k : Nat) (s : US), s.f = 0 → s.p = p → s.r = r → s.l.length + n.length ≤ 254 → InvU x.length s → muU x s ≤ k →
    (runU x k s).f = 0 ∧ (runU x k s).l = s.l ++ n ∧ (runU x k s).e = (if s.j = 0 then e else s.e) ∧ (runU x k s).j = s.j + c := by
  induction h with
  | @nil r p h =>
    intro k s hf hp hr hl hi hm
    subst hp
    obtain ⟨h1, h2⟩ := partU_nil h
    rcases k with _ | k
    · rw [show muU x s = _ from if_neg (by omega)] at hm; omega
    have ht : (overU x s (partU (x.drop s.p)).1).t = [0] := by rw [h1]; exact h2
    rw [runU_end hf (by rw [h1]) ht]
    refine ⟨hf, by simp [overU], ?_, by simp [overU]⟩
    show (if s.j = 0 then _ else _) = _
    rw [h1]
  | @lab r p y n e c hy h hr ih =>
    intro k s hf hp hr' hl hi hm
    subst hp
    obtain ⟨h1, h2, h3⟩ := partU_lab hy h
    rcases k with _ | k
    · rw [show muU x s = _ from if_neg (by omega)] at hm; omega
    have he : (partU (x.drop s.p)).2 = 0 := by rw [h1]
    have et : (overU x s (partU (x.drop s.p)).1).t = enc1 y := by rw [h1]; exact h
    have hmk := mu_keep hi he hf hm
    rw [runU_lab hf he (by rw [et]; exact h3) (by rw [et]; exact h2)]
    rw [List.length_append, enc1_length] at hl
    have ek : keepU (overU x s (partU (x.drop s.p)).1) = { overU x s (partU (x.drop s.p)).1 with l := s.l ++ enc1 y } := keep_eq et (by rw [enc1_length]; simp only [overU]; omega)
    have hi3 := keepU_inv (overU_inv hi he)
    rw [ek] at hmk hi3 ⊢
    obtain ⟨a1, a2, a3, a4⟩ := ih k { overU x s (partU (x.drop s.p)).1 with l := s.l ++ enc1 y } hf (by rw [h1]; rfl) hr' (by simp only [List.length_append, enc1_length]; omega) hi3 hmk
    refine ⟨a1, by rw [a2]; simp, ?_, a4⟩
    rw [a3]
    show (if s.j = 0 then e else (if s.j = 0 then _ else s.e)) = _
    split <;> rfl
  | @ptr r p a d n e c h h1 hd ht hr ih =>
    intro k s hf hp hr' hl hi hm
    subst hp
    obtain ⟨g1, g2⟩ := partU_ptr h h1 hd
    rcases k with _ | k
    · rw [show muU x s = _ from if_neg (by omega)] at hm; omega
    have he : (partU (x.drop s.p)).2 = 0 := by rw [g1]
    have et : (overU x s (partU (x.drop s.p)).1).t = [a, d] := by rw [g1]; exact g2
    have hmf := mu_follow hi he hf hm
    rw [runU_ptr hf he (by rw [et]; simp) (by rw [et]; simpa [isPtr] using h1)]
    have hto : toU (overU x s (partU (x.drop s.p)).1).t = 256 * (a.toNat - 192) + d.toNat := by rw [et]; rfl
    have ek : followU (overU x s (partU (x.drop s.p)).1) = { overU x s (partU (x.drop s.p)).1 with r := 256 * (a.toNat - 192) + d.toNat, p := 256 * (a.toNat - 192) + d.toNat, j := s.j + 1 } := by
      unfold followU
      rw [hto, if_neg (by simp only [overU]; omega)]
      rfl
    have hi3 := followU_inv (overU_inv hi he)
    rw [ek] at hmf hi3 ⊢
    obtain ⟨a1, a2, a3, a4⟩ := ih k { overU x s (partU (x.drop s.p)).1 with r := 256 * (a.toNat - 192) + d.toNat, p := 256 * (a.toNat - 192) + d.toNat, j := s.j + 1 } hf rfl rfl hl hi3 hmf
    refine ⟨a1, a2, ?_, by rw [a4]; simp only; omega⟩
    rw [a3]
    simp only [Nat.add_eq_zero_iff]
    rw [if_neg (by omega)]
    show (if s.j = 0 then s.p + (partU (x.drop s.p)).1 else s.e) = _
    rw [g1]
theorem Ru.read {x : List UInt8} {p e c : Nat} {n : List UInt8} (h : Ru x p p n e c) (hn : n.length ≤ 254) (hp : p ≤ x.length) : (readU x p p).f = 0 ∧ (readU x p p).l = n ∧ (readU x p p).e = e ∧ (readU x p p).j = c := by
  have e1 : readU x (p : Int) (p : Int) = runU x (muU x (begU p p)) (begU p p) := if_neg (by omega)
  rw [e1]
  obtain ⟨a1, a2, a3, a4⟩ := h.run (muU x (begU p p)) (begU p p) rfl rfl rfl (by simpa [begU] using hn) (begU_inv hp hp) (Nat.le_refl _)
  exact ⟨a1, a2, a3, a4.trans (Nat.zero_add _)⟩
/-- Labels, and behind them a pointer that leads to no place ahead of its run. -/
inductive Rb (x : List UInt8) : Nat → Nat → List UInt8 → Prop
  | ptr {r p : Nat} {a d : UInt8} (h : x[p]? = some a) (h1 : 192 ≤ a.toNat) (hd : x[p + 1]? = some d) (ht : r ≤ 256 * (a.toNat - 192) + d.toNat) : Rb x r p []
  | lab {r p : Nat} {y n : List UInt8} (hy : ok1 y) (h : (x.drop p).take (1 + y.length) = enc1 y) (hr : Rb x r (p + (1 + y.length)) n) : Rb x r p (enc1 y ++ n)
theorem Rb.run {x : List UInt8} {r p : Nat} {n : List UInt8} (h : Rb x r p n) : ∀ (k : Nat) (s : US), s.f = 0 → s.p = p → s.r = r → s.l.length + n.length ≤ 254 → InvU x.length s → muU x s ≤ k → (runU x k s).f = 4 := by
  induction h with
  | @ptr p a d h h1 hd ht =>
    intro k s hf hp hr' hl hi hm
    subst hp
    obtain ⟨g1, g2⟩ := partU_ptr h h1 hd
    rcases k with _ | k
    · rw [show muU x s = _ from if_neg (by omega)] at hm; omega
    have he : (partU (x.drop s.p)).2 = 0 := by rw [g1]
    have et : (overU x s (partU (x.drop s.p)).1).t = [a, d] := by rw [g1]; exact g2
    rw [runU_ptr hf he (by rw [et]; simp) (by rw [et]; simpa [isPtr] using h1)]
    have hto : toU (overU x s (partU (x.drop s.p)).1).t = 256 * (a.toNat - 192) + d.toNat := by rw [et]; rfl
    have ek : followU (overU x s (partU (x.drop s.p)).1) = failU (overU x s (partU (x.drop s.p)).1) 4 := by
      unfold followU
      rw [hto, if_pos (by simp only [overU]; omega)]
    rw [ek, runU_stop (by simp [failU])]
    rfl
  | @lab p y n hy h hr ih =>
    intro k s hf hp hr' hl hi hm
    subst hp
    obtain ⟨h1, h2, h3⟩ := partU_lab hy h
    rcases k with _ | k
    · rw [show muU x s = _ from if_neg (by omega)] at hm; omega
    have he : (partU (x.drop s.p)).2 = 0 := by rw [h1]
    have et : (overU x s (partU (x.drop s.p)).1).t = enc1 y := by rw [h1]; exact h
    have hmk := mu_keep hi he hf hm
    rw [runU_lab hf he (by rw [et]; exact h3) (by rw [et]; exact h2)]
    rw [List.length_append, enc1_length] at hl
    have ek : keepU (overU x s (partU (x.drop s.p)).1) = { overU x s (partU (x.drop s.p)).1 with l := s.l ++ enc1 y } := keep_eq et (by rw [enc1_length]; simp only [overU]; omega)
    have hi3 := keepU_inv (overU_inv hi he)
    rw [ek] at hmk hi3 ⊢
    exact ih k { overU x s (partU (x.drop s.p)).1 with l := s.l ++ enc1 y } hf (by rw [h1]; rfl) hr' (by simp only [List.length_append, enc1_length]; omega) hi3 hmk
/-- Labels that stand, and what stands behind them. -/
theorem Ru.labs {x : List UInt8} {r e c : Nat} {n : List UInt8} : ∀ (L : List (List UInt8)) (a z : List UInt8), okN L → x = a ++ (enc L ++ z) → Ru x r (a.length + (enc L).length) n e c → Ru x r a.length (enc L ++ n) e c
  | [], a, z, _, hx, h => by simpa [enc] using h
  | y :: L, a, z, hL, hx, h => by
    obtain ⟨hy, hL'⟩ := okN_cons.1 hL
    rw [enc_cons, List.append_assoc] at hx ⊢
    have hl : (a ++ enc1 y).length = a.length + (1 + y.length) := by rw [List.length_append, enc1_length]; omega
    have ih := Ru.labs (x := x) L (a ++ enc1 y) z hL' (by rw [hx]; simp) (by rw [hl]; rw [enc_cons, List.length_append, enc1_length] at h; rw [show a.length + (1 + y.length) + (enc L).length = a.length + (y.length + 1 + (enc L).length) by omega]; exact h)
    rw [hl] at ih
    refine .lab hy ?_ ih
    rw [hx, List.drop_left' rfl, List.take_left' (by rw [enc1_length]; omega)]
theorem Rb.labs {x : List UInt8} {r : Nat} {n : List UInt8} : ∀ (L : List (List UInt8)) (a z : List UInt8), okN L → x = a ++ (enc L ++ z) → Rb x r (a.length + (enc L).length) n → Rb x r a.length (enc L ++ n)
  | [], a, z, _, hx, h => by simpa [enc] using h
  | y :: L, a, z, hL, hx, h => by
    obtain ⟨hy, hL'⟩ := okN_cons.1 hL
    rw [enc_cons, List.append_assoc] at hx ⊢
    have hl : (a ++ enc1 y).length = a.length + (1 + y.length) := by rw [List.length_append, enc1_length]; omega
    have ih := Rb.labs (x := x) L (a ++ enc1 y) z hL' (by rw [hx]; simp) (by rw [hl]; rw [enc_cons, List.length_append, enc1_length] at h; rw [show a.length + (1 + y.length) + (enc L).length = a.length + (y.length + 1 + (enc L).length) by omega]; exact h)
    rw [hl] at ih
    refine .lab hy ?_ ih
    rw [hx, List.drop_left' rfl, List.take_left' (by rw [enc1_length]; omega)]
end Go.Proofs.YtjollpgkmcinjaaGreat
namespace Go.Proofs.YtjollpgkmcinjaaGreat
open Go.RowKit
set_option linter.unusedVariables false

/-- Each mark is read where it stands. -/
def MarkR (s : PS) (B n : Nat) : Prop := ∀ q a, s.m q = some a → q.length ≤ n → a < B ∧ ∃ e c, Ru s.l a a q e c
theorem head_lab {r : List UInt8} {c : UInt8} {t : List UInt8} (hr : r = c :: t) (h1 : 1 ≤ c.toNat) (h2 : c.toNat ≤ 63) (h3 : c.toNat ≤ t.length) : ∃ y, ok1 y ∧ headN r = enc1 y := by
  refine ⟨t.take c.toNat, ⟨by rw [List.length_take]; omega, by rw [List.length_take]; omega⟩, ?_⟩
  have hl : (t.take c.toNat).length = c.toNat := by rw [List.length_take]; omega
  rw [hr, headN_cons]
  unfold enc1
  rw [hl]
  congr 1
  exact (UInt8.ofNat_toNat).symm
theorem ru_ptr {l : List UInt8} {a B e c : Nat} {r : List UInt8} (ha : a < 16384) (hB : a < B) (h : Ru l a a r e c) : Ru (l ++ octs (49152 + a) 2) B l.length r (l.length + 2) (c + 1) := by
  have h1 : (UInt8.ofNat ((49152 + a) / 256)).toNat = 192 + a / 256 := by rw [UInt8.toNat_ofNat']; omega
  have h2 : (UInt8.ofNat (49152 + a)).toNat = a % 256 := by rw [UInt8.toNat_ofNat']; omega
  have h3 : 256 * ((UInt8.ofNat ((49152 + a) / 256)).toNat - 192) + (UInt8.ofNat (49152 + a)).toNat = a := by rw [h1, h2]; omega
  refine Ru.ptr (e := e) (a := UInt8.ofNat ((49152 + a) / 256)) (d := UInt8.ofNat (49152 + a)) ?_ (by rw [h1]; omega) ?_ (by rw [h3]; exact hB) ?_
  · rw [octs2]; simp
  · rw [octs2]; simp
  · rw [h3]; exact h.app _
theorem nameF_ru (M : Nat) : ∀ (k : Nat) (r : List UInt8) (s : PS) (B : Nat), r.length < k → Labs r → s.f = 0 → s.l.length + r.length + 1 ≤ M → (∀ q a, s.m q = some a → a < 16384) → MarkR s B r.length → B ≤ s.l.length →
    (∃ c, Ru (nameF M k r s).2.l B s.l.length r (nameF M k r s).2.l.length c) ∧ (∃ y, (nameF M k r s).2.l = s.l ++ y) ∧ (∀ q a, (nameF M k r s).2.m q = some a → s.m q = some a ∨ (a < (nameF M k r s).2.l.length ∧ ∃ e c, Ru (nameF M k r s).2.l a a q e c))
  | 0, r, s, B, h, _, _, _, _, _, _ => by omega
  | k + 1, r, s, B, hk, hL, hf, hM, hma, hmk, hB => by
    by_cases hr : r = []
    · subst hr
      rw [nameF_nil, put_room hf (by simpa using hM)]
      exact ⟨⟨0, by simpa using (Ru.nil (x := s.l ++ [0]) (r := B) (p := s.l.length) (by simp))⟩, ⟨[0], rfl⟩, fun q a h => .inl h⟩
    · obtain ⟨c, t, hct, hc1, hc2, hc3, hL'⟩ := hL.step hr
      have hrl : 2 ≤ r.length := by rw [hct, List.length_cons]; omega
      rcases hm : s.m r with _ | a
      · have hh : (headN r).length = 1 + c.toNat := by rw [hct, headN_cons, List.length_cons, List.length_take]; omega
        have hsum : (headN r).length + (restN r).length = r.length := by rw [← List.length_append, head_rest]
        have hp := put_room (x := headN r) hf (show s.l.length + (headN r).length ≤ M by omega)
        have hz : (putS M s (headN r)).1 = 0 := by rw [hp]
        rw [nameF_next hr hm hz, hp]
        simp only
        obtain ⟨s1, hs1⟩ : ∃ s1, s1 = keepS { s with l := s.l ++ headN r } r s.l.length := ⟨_, rfl⟩
        have hl1 : s1.l = s.l ++ headN r := by rw [hs1]; exact (keepS_l _ _ _).1
        have hf1 : s1.f = 0 := by rw [hs1]; exact (keepS_l _ _ _).2.1.trans hf
        have hm1 : ∀ q b, s1.m q = some b → (q = r ∧ b = s.l.length ∧ s.l.length < 16384) ∨ s.m q = some b := fun q b h => keepS_m (s := { s with l := s.l ++ headN r }) (by rw [hs1] at h; exact h)
        have hll : s1.l.length = s.l.length + (headN r).length := by rw [hl1, List.length_append]
        rw [← hs1]
        clear hs1
        have hma1 : ∀ q b, s1.m q = some b → b < 16384 := fun q b hb => by
          rcases hm1 q b hb with ⟨_, rfl, hbig⟩ | h
          · exact hbig
          · exact hma q b h
        have hold : ∀ q b, s1.m q = some b → q.length ≤ (restN r).length → s.m q = some b := fun q b hb hq => by
          rcases hm1 q b hb with ⟨rfl, _⟩ | h
          · omega
          · exact h
        obtain ⟨⟨c1, k1⟩, ⟨y, k2⟩, k3⟩ := nameF_ru M k (restN r) s1 B (by omega) hL' hf1 (by omega) hma1 (fun q b hb hq => by
          obtain ⟨h1, e, n, h2⟩ := hmk q b (hold q b hb hq) (by omega)
          exact ⟨h1, e, n, by rw [hl1]; exact h2.app _⟩) (by omega)
        obtain ⟨yl, hy1, hy2⟩ := head_lab hct hc1 hc2 hc3
        have hyl : 1 + yl.length = (headN r).length := by rw [hy2, enc1_length]; omega
        have hd : ((nameF M k (restN r) s1).2.l.drop s.l.length).take (1 + yl.length) = enc1 yl := by
          rw [k2, hl1, List.append_assoc, List.drop_left' rfl, hyl, List.take_left' rfl, hy2]
        have hrd : ∀ R, B ≤ R → Ru (nameF M k (restN r) s1).2.l R s.l.length r (nameF M k (restN r) s1).2.l.length c1 := fun R hR => by
          have h0 := k1.mono hR
          rw [hll, ← hyl] at h0
          have h1 := Ru.lab hy1 hd h0
          rwa [← hy2, head_rest] at h1
        refine ⟨⟨c1, hrd B (Nat.le_refl _)⟩, ⟨headN r ++ y, by rw [k2, hl1, List.append_assoc]⟩, fun q b hb => ?_⟩
        rcases k3 q b hb with h | h
        · rcases hm1 q b h with ⟨rfl, rfl, _⟩ | h'
          · refine .inr ⟨?_, _, _, hrd _ hB⟩
            rw [k2, hl1, List.length_append, List.length_append]
            omega
          · exact .inl h'
        · exact .inr h
      · have ha := hma r a hm
        rw [nameF_some hr hm, num_room hf ha (by omega)]
        obtain ⟨h1, e, n, h2⟩ := hmk r a hm (Nat.le_refl _)
        refine ⟨⟨n + 1, ?_⟩, ⟨_, rfl⟩, fun q a h => .inl h⟩
        simp only [List.length_append, octs_length]
        exact ru_ptr ha h1 h2
/-- A packer without an error, each of whose marks is read by the reader. -/
structure GoodR (s : PS) : Prop where
  good : GoodP s
  inv : Inv 65535 s
  marks : ∀ q a, s.m q = some a → a < s.l.length ∧ ∃ e c, Ru s.l a a q e c
theorem goodR0 : GoodR ps0 := ⟨good0, inv0 (by decide), fun _ _ h => nomatch h⟩
theorem GoodR.app {s : PS} (h : GoodR s) {y : List UInt8} (hM : s.l.length + y.length ≤ 65535) : GoodR { s with l := s.l ++ y } :=
  ⟨h.good.app y, by
    have hg := h.inv.grow (l' := s.l ++ y) s.f (by simp) (by simp; omega)
    exact hg, fun q a hq => by
    obtain ⟨h1, e, c, h2⟩ := h.marks q a hq
    exact ⟨by show a < (s.l ++ y).length; rw [List.length_append]; omega, e, c, h2.app y⟩⟩
/-- A name that is put: it is read behind the place where it began, and ends where the octets end. -/
theorem nam_back {s : PS} {x : List UInt8} (h : GoodR s) (hc : chkN x = 0) (hM : s.l.length + 255 ≤ 65535) :
    GoodR (nameS 65535 s x).2 ∧ ∃ c, Ru (nameS 65535 s x).2.l s.l.length s.l.length x (nameS 65535 s x).2.l.length c := by
  have hx := chkN_len hc
  have hk := uqNam h.good h.inv hc hM
  rw [(nameS_run' h.good.f hc).1] at hk ⊢
  obtain ⟨h1, ⟨y, h2⟩, h3⟩ := nameF_ru 65535 (x.length + 1) x s s.l.length (by omega) (labs_of_chk hc) h.good.f (by omega) h.inv.mark (fun q a hq _ => h.marks q a hq) (Nat.le_refl _)
  refine ⟨⟨hk.good, hk.inv, fun q a hq => ?_⟩, h1⟩
  rcases h3 q a hq with h' | h'
  · obtain ⟨g1, e, c, g2⟩ := h.marks q a h'
    rw [h2]
    exact ⟨by rw [List.length_append]; omega, e, c, g2.app y⟩
  · exact h'
end Go.Proofs.YtjollpgkmcinjaaGreat
namespace Go.Proofs.YtjollpgkmcinjaaGreat
open Go.RowKit
set_option linter.unusedVariables false

/-! ### Addresses -/
theorem jn_natsB (l : List UInt8) : jn 256 (nats l) = num l := by
  unfold jn nats num
  rw [List.foldl_map]
theorem ofA_back {a : Ad} (ca : chkA a = 0) (fa : a.2.1 < 2 ^ 64 ∧ a.2.2 < 2 ^ 64) : ofA (octA a) = (a, 0) := by
  obtain ⟨six, hi, lo⟩ := a
  unfold ofA
  rw [octA_size]
  cases six
  · obtain ⟨h1, h2⟩ := chkA_lo ca rfl
    simp only at h1 h2
    subst h1
    simp only [Bool.false_eq_true, if_false, if_true]
    have : elderA (nats (octA (false, 0, lo))) = (false, 0, lo) := by
      show elderA (nats (octs lo 4)) = _
      unfold elderA
      rw [jn_natsB, num_octs 4 lo h2]
    rw [this]
  · simp only [if_true]
    rw [if_neg (by decide)]
    simp only at fa
    have : newerA 256 (nats (octA (true, hi, lo))) = (true, hi, lo) := by
      unfold newerA
      have e : nats (octA (true, hi, lo)) = nats (octs hi 8) ++ nats (octs lo 8) := by simp [nats, octA, allO]
      have l1 : (nats (octs hi 8)).length = 8 := by rw [nats, List.length_map, octs_length]
      have l2 : (nats (octs lo 8)).length = 8 := by rw [nats, List.length_map, octs_length]
      rw [e, List.length_append, l1, l2, List.take_left' l1, List.drop_left' l1, jn_natsB, jn_natsB, num_octs 8 hi (by omega), num_octs 8 lo (by omega)]
    rw [this]
/-! ### Octets that stand -/
theorem take_at {A x z : List UInt8} {E : Nat} (h : A.length + x.length ≤ E) : (((A ++ x ++ z).take E).drop A.length).take x.length = x := by
  rw [List.append_assoc, List.take_append, show List.take E A = A from List.take_of_length_le (by omega), List.drop_left' rfl, List.take_take, show min x.length (E - A.length) = x.length from by omega, List.take_left' rfl]
theorem takR_back {A x z : List UInt8} {E : Nat} (h : A.length + x.length ≤ E) (hE : E ≤ (A ++ x ++ z).length) : takR ((A ++ x ++ z).take E) A.length (x.length : Nat) = ⟨x, 0, A.length + x.length⟩ := by
  have hl : ((A ++ x ++ z).take E).length = E := by rw [List.length_take]; omega
  unfold takR
  rw [hl, if_neg (by omega), if_neg (by omega)]
  rw [show ((x.length : Nat) : Int).toNat = x.length from by simp, take_at h]
/-! ### Numbers -/
theorem nums_back : ∀ (vs ns : List Nat) (A z : List UInt8) (E : Nat), vs.length = ns.length → (∀ n ∈ ns, n ≤ 4) → chkW vs ns = 0 → A.length + (numsB vs ns).length ≤ E → E ≤ (A ++ numsB vs ns ++ z).length →
    rdNums ((A ++ numsB vs ns ++ z).take E) ns A.length = ⟨vs, 0, A.length + (numsB vs ns).length⟩
  | [], [], A, z, E, _, _, _, _, _ => by simp [rdNums, numsB]
  | [], _ :: _, _, _, _, h, _, _, _, _ => by simp at h
  | _ :: _, [], _, _, _, h, _, _, _, _ => by simp at h
  | v :: vs, n :: ns, A, z, E, hl, h4, hc, h1, h2 => by
    obtain ⟨hv, hc'⟩ := chkW_two hc
    have hn4 := h4 n List.mem_cons_self
    simp only [List.length_cons] at hl
    have h4' : ∀ n ∈ ns, n ≤ 4 := fun m hm => h4 m (List.mem_cons_of_mem _ hm)
    have hB : numsB (v :: vs) (n :: ns) = octs v n ++ numsB vs ns := rfl
    have hBl : (numsB (v :: vs) (n :: ns)).length = n + (numsB vs ns).length := by rw [hB, List.length_append, octs_length]
    have hT : A ++ numsB (v :: vs) (n :: ns) ++ z = (A ++ octs v n) ++ numsB vs ns ++ z := by rw [hB]; simp
    have ih := nums_back vs ns (A ++ octs v n) z E (by omega) h4' hc' (by rw [List.length_append, octs_length]; omega) (by rw [← hT]; exact h2)
    rw [← hT, List.length_append, octs_length] at ih
    unfold rdNums
    by_cases h0 : n = 0
    · subst h0
      rw [if_pos rfl]
      have hv0 : v = 0 := by simpa using hv
      have ih' : rdNums (List.take E (A ++ numsB (v :: vs) (0 :: ns) ++ z)) ns A.length = ⟨vs, 0, A.length + 0 + (numsB vs ns).length⟩ := ih
      rw [ih', hBl, hv0]
      simp
    · rw [if_neg h0]
      have hT2 : A ++ numsB (v :: vs) (n :: ns) ++ z = A ++ octs v n ++ (numsB vs ns ++ z) := by rw [hB]; simp
      have hr : numR (List.take E (A ++ numsB (v :: vs) (n :: ns) ++ z)) A.length n = ⟨octs v n, 0, A.length + n⟩ := by
        unfold numR
        rw [show isW (n : Int) = true from by simp [isW]; omega]
        simp only [Bool.true_eq_false, if_false]
        rw [hT2]
        have := takR_back (A := A) (x := octs v n) (z := numsB vs ns ++ z) (E := E) (by rw [octs_length]; omega) (by rw [← hT2]; exact h2)
        rw [octs_length] at this
        exact this
      rw [hr]
      simp only [ne_eq, not_true_eq_false, if_false]
      rw [ih, hBl, num_octs n v hv]
      simp
      omega
/-! ### Names -/
theorem ru_read {x : List UInt8} {p r e c : Nat} {n : List UInt8} (h : Ru x r p n e c) (hn : n.length ≤ 254) (hp : p ≤ x.length) (hr : r ≤ x.length) : (readU x p r).f = 0 ∧ (readU x p r).l = n ∧ (readU x p r).e = e := by
  have e1 : readU x (p : Int) (r : Int) = runU x (muU x (begU p r)) (begU p r) := if_neg (by omega)
  rw [e1]
  obtain ⟨a1, a2, a3, a4⟩ := h.run (muU x (begU p r)) (begU p r) rfl rfl rfl (by simpa [begU] using hn) (begU_inv hp hr) (Nat.le_refl _)
  exact ⟨a1, a2, a3⟩
theorem name_back {T : List UInt8} {E k e c : Nat} {n : List UInt8} {ptd : Bool} (h : Ru T (if ptd then k else 0) k n e c) (hn : n.length ≤ 254) (hk : k ≤ T.length) (he : e ≤ E) (hE : E ≤ T.length) : rdName T (T.take E) ptd k = ⟨n, 0, e⟩ := by
  have hb : (if ptd then k else 0) ≤ T.length := by split <;> omega
  have hcast : (((if ptd = true then k else 0 : Nat)) : Int) = (if ptd = true then (k : Int) else 0) := by cases ptd <;> rfl
  obtain ⟨h1, h2, h3⟩ := ru_read h hn hk hb
  have hl : (T.take E).length = E := by rw [List.length_take]; omega
  have hs : seekR (T.take E) k (e : Int) = (0, e) := by
    unfold seekR
    rw [hl, if_neg (by omega)]
    simp
  unfold rdName
  cases ptd
  · have h1' : (readU T k 0).f = 0 := h1
    have h2' : (readU T k 0).l = n := h2
    have h3' : (readU T k 0).e = e := h3
    simp only [Bool.false_eq_true, if_false]
    simp [h1', h2', h3', hs]
  · have h1' : (readU T k k).f = 0 := h1
    have h2' : (readU T k k).l = n := h2
    have h3' : (readU T k k).e = e := h3
    simp only [if_true]
    simp [h1', h2', h3', hs]
theorem plain_back {s : PS} {x : List UInt8} (h : GoodR s) (hc : chkN x = 0) (hM : s.l.length + 255 ≤ 65535) :
    GoodR (plainS 65535 s x).2 ∧ ∃ c, Ru (plainS 65535 s x).2.l 0 s.l.length x (plainS 65535 s x).2.l.length c := by
  have hx := chkN_len hc
  obtain ⟨h3, _⟩ := plainF_put 65535 (x.length + 1) x s (by omega) (labs_of_chk hc) h.good.f (by omega)
  rw [(nameS_run' h.good.f hc).2, h3]
  refine ⟨h.app (by simp; omega), 0, ?_⟩
  obtain ⟨L, hL, hxL⟩ := labs_of_chk hc
  have h1 := Ru.labs (x := s.l ++ (enc L ++ [0])) (r := 0) (n := []) (e := s.l.length + (enc L).length + 1) (c := 0) L s.l [0] hL rfl (.nil (by rw [← List.append_assoc, List.getElem?_append_right (by rw [List.length_append]; omega), List.length_append, Nat.sub_self]; rfl))
  rw [List.append_nil, ← hxL] at h1
  have h2 : s.l.length + x.length + 1 = (s.l ++ (x ++ [0])).length := by simp; omega
  show Ru (s.l ++ (x ++ [0])) 0 s.l.length x (s.l ++ (x ++ [0])).length 0
  rw [← h2]
  exact h1
end Go.Proofs.YtjollpgkmcinjaaGreat
namespace Go.Proofs.YtjollpgkmcinjaaGreat
open Go.RowKit
set_option linter.unusedVariables false

/-- What is read of a part, laid into data. -/
def copyP : Pt → MD → MD → MD
  | .adr _, d, x => { x with six := d.six, hi := d.hi, lo := d.lo }
  | .nam mail _, d, x => putName mail x (nameOf mail d)
  | .num .., d, x => { x with v0 := d.v0, v1 := d.v1, v2 := d.v2, v3 := d.v3, v4 := d.v4 }
  | .txt, d, x => { x with L := d.L }
  | .raw, d, x => { x with r := d.r }
def copyK (K : List Pt) (d x : MD) : MD := K.foldl (fun x p => copyP p d x) x
/-- What one part that is put comes to, and that it is read back. -/
structure PartB (s : PS) (p : Pt) (d : MD) (q : Nat × PS) : Prop where
  ok : q.1 = 0
  good : GoodR q.2
  l : ∃ y, q.2.l = s.l ++ y ∧ y.length ≤ sizeP p d ∧ y.length ≤ 255 ∧ (sizeP p d ≠ 0 → y.length ≠ 0)
  back : ∀ (z : List UInt8) (E : Nat) (x : MD), q.2.l.length ≤ E → E ≤ (q.2.l ++ z).length → rdP (q.2.l ++ z) ((q.2.l ++ z).take E) p x s.l.length = ⟨0, q.2.l.length, copyP p d x⟩
theorem part_back {p : Pt} {d : MD} {s : PS} (hw : wired p = true) (h : GoodR s) (hc : chkP p d = 0) (fd : Fit64 d) (hM : s.l.length + 255 ≤ 65535) : PartB s p d (putP 65535 p d s) := by
  have hk := uqPart hw h.good h.inv hc hM
  cases p with
  | adr six =>
    have sd : d.six = six := by
      by_cases hx : d.six = six
      · exact hx
      · simp [chkP, hx] at hc
    have hc' : chkA d.ad = 0 := by simpa [chkP, sd] using hc
    have hsz : (octA d.ad).length = if six then 16 else 4 := by rw [octA_size]; show (if d.six = true then 16 else 4) = _; rw [sd]
    have hsz' : (octA d.ad).length ≤ 16 := by rw [hsz]; split <;> omega
    have hr : putP 65535 (.adr six) d s = (0, { s with l := s.l ++ octA d.ad }) := put0 h.good.f (by omega)
    rw [hr]
    refine ⟨rfl, h.app (by omega), ⟨octA d.ad, rfl, Nat.le_of_eq hsz, by omega, fun _ => by rw [hsz]; split <;> omega⟩, fun z E x h1 h2 => ?_⟩
    have ht := takR_back (A := s.l) (x := octA d.ad) (z := z) (E := E) (by simpa using h1) h2
    have hn : (((octA d.ad).length : Nat) : Int) = (if six = true then 16 else 4) := by rw [hsz]; cases six <;> rfl
    rw [hn] at ht
    have ho := ofA_back hc' ⟨fd.hi, fd.lo⟩
    show rdP (s.l ++ octA d.ad ++ z) ((s.l ++ octA d.ad ++ z).take E) (.adr six) x s.l.length = ⟨0, (s.l ++ octA d.ad).length, _⟩
    simp only [rdP]
    rw [ht]
    simp only [ne_eq, not_true_eq_false, if_false, ho, List.length_append]
    rfl
  | nam mail ptd =>
    have hl := chkN_len (show chkN (bs (nameOf mail d)) = 0 from hc)
    have hcn : chkN (bs (nameOf mail d)) = 0 := hc
    have hsz : sizeP (.nam mail ptd) d = (bs (nameOf mail d)).length + 1 := by
      show sizeN (bs (nameOf mail d)) = _
      unfold sizeN
      rw [if_pos hcn]
    have hboth : GoodR (putP 65535 (.nam mail ptd) d s).2 ∧ (∃ c, Ru (putP 65535 (.nam mail ptd) d s).2.l (if ptd then s.l.length else 0) s.l.length (bs (nameOf mail d)) (putP 65535 (.nam mail ptd) d s).2.l.length c) ∧ ∃ y, (putP 65535 (.nam mail ptd) d s).2.l = s.l ++ y ∧ y.length ≤ (bs (nameOf mail d)).length + 1 ∧ 1 ≤ y.length := by
      cases ptd
      · obtain ⟨h1, h2⟩ := plain_back h hcn hM
        obtain ⟨y, e1, e0, e2⟩ := (plainS_good (M := 65535) (x := bs (nameOf mail d)) h.good hcn (by omega)).1.l
        exact ⟨h1, h2, y, e1, e2, e0⟩
      · obtain ⟨h1, h2⟩ := nam_back h hcn hM
        obtain ⟨y, e1, e0, e2⟩ := (nameS_good (M := 65535) (x := bs (nameOf mail d)) h.good h.inv hcn (by omega)).1.l
        exact ⟨h1, h2, y, e1, e2, e0⟩
    obtain ⟨hg, ⟨c, hru⟩, y, hy, hyl, hy1⟩ := hboth
    refine ⟨hk.ok, hg, ⟨y, hy, by rw [hsz]; exact hyl, by omega, fun _ => by omega⟩, fun z E x h1 h2 => ?_⟩
    have hlen := congrArg List.length hy
    rw [List.length_append] at hlen
    have hb := name_back (T := (putP 65535 (.nam mail ptd) d s).2.l ++ z) (E := E) (ptd := ptd) (hru.app z) hl (by rw [List.length_append]; omega) h1 h2
    show rdP _ _ (.nam mail ptd) x s.l.length = _
    simp only [rdP]
    rw [hb, mkb_bs]
    rfl
  | num a b c e f =>
    have h4 := ws_four hw
    obtain ⟨hr, hr2⟩ := nums_put (M := 65535) d.vs (ws5 a b c e f) s rfl h4 hc h.good.f (by simp [ws5]; omega)
    have hr' : putP 65535 (.num a b c e f) d s = (0, { s with l := s.l ++ numsB d.vs (ws5 a b c e f) }) := hr
    have hsz : (numsB d.vs (ws5 a b c e f)).length = a + b + c + e + f := by simp [numsB, MD.vs, ws5, octs_length]; omega
    have h20 : (numsB d.vs (ws5 a b c e f)).length ≤ 20 := by simpa [ws5] using hr2
    rw [hr']
    refine ⟨rfl, h.app (by omega), ⟨_, rfl, Nat.le_of_eq hsz, by omega, fun h => by rw [hsz]; exact h⟩, fun z E x h1 h2 => ?_⟩
    have hb := nums_back d.vs (ws5 a b c e f) s.l z E rfl h4 hc (by simpa using h1) h2
    show rdP (s.l ++ numsB d.vs (ws5 a b c e f) ++ z) ((s.l ++ numsB d.vs (ws5 a b c e f) ++ z).take E) (.num a b c e f) x s.l.length = ⟨0, (s.l ++ numsB d.vs (ws5 a b c e f)).length, _⟩
    simp only [rdP]
    rw [hb, List.length_append]
    rfl
  | txt => cases hw
  | raw => cases hw
structure KindB (s : PS) (K : List Pt) (d : MD) (q : Nat × PS) : Prop where
  ok : q.1 = 0
  l : ∃ y, q.2.l = s.l ++ y ∧ y.length ≤ sizeK K d ∧ (sizeK K d ≠ 0 → y.length ≠ 0)
  back : ∀ (z : List UInt8) (E : Nat) (x : MD), q.2.l.length ≤ E → E ≤ (q.2.l ++ z).length → rdK (q.2.l ++ z) ((q.2.l ++ z).take E) K x s.l.length = ⟨0, q.2.l.length, copyK K d x⟩
theorem kind_back : ∀ (K : List Pt) (d : MD) (s : PS), (∀ p ∈ K, wired p = true) → (∀ p ∈ K, chkP p d = 0) → Fit64 d → GoodR s → s.l.length + 255 * K.length ≤ 65535 → KindB s K d (putK 65535 K d s)
  | [], d, s, _, _, _, _, _ => ⟨rfl, ⟨[], by simp [putK], by simp, fun h => absurd rfl h⟩, fun z E x h1 h2 => rfl⟩
  | p :: K, d, s, hw, hc, fd, hg, hM => by
    rw [List.length_cons, Nat.mul_add, Nat.mul_one] at hM
    have hM1 : s.l.length + 255 ≤ 65535 := Nat.le_trans (Nat.add_le_add_left (Nat.le_add_left _ _) _) hM
    have hp := part_back (hw p List.mem_cons_self) hg (hc p List.mem_cons_self) fd hM1
    rw [putK_two hp.ok]
    obtain ⟨ok, good, ⟨y, hy, hy1, hy2, hy3⟩, back⟩ := hp
    obtain ⟨s1, hs1⟩ : ∃ s1, (putP 65535 p d s).2 = s1 := ⟨_, rfl⟩
    rw [hs1] at good hy back ⊢
    have hlen := congrArg List.length hy
    rw [List.length_append] at hlen
    obtain ⟨ok2, ⟨y', hy', hyl', hyn'⟩, back2⟩ := kind_back K d s1 (fun q hq => hw q (List.mem_cons_of_mem _ hq)) (fun q hq => hc q (List.mem_cons_of_mem _ hq)) fd good (by omega)
    have hsk : sizeK (p :: K) d = sizeP p d + sizeK K d := by
      show (List.map (fun q => sizeP q d) (p :: K)).sum = _
      rw [List.map_cons, List.sum_cons]
      rfl
    refine ⟨ok2, ⟨y ++ y', by rw [hy', hy, List.append_assoc], ?_, ?_⟩, fun z E x h1 h2 => ?_⟩
    · rw [List.length_append, hsk]
      exact Nat.add_le_add hy1 hyl'
    · rw [List.length_append, hsk]
      intro hn
      by_cases hz : sizeP p d = 0
      · have := hyn' (by omega); omega
      · have := hy3 hz; omega
    · have hT : (putK 65535 K d s1).2.l ++ z = s1.l ++ (y' ++ z) := by rw [hy', List.append_assoc]
      have hl2 := congrArg List.length hy'
      rw [List.length_append] at hl2
      have hb := back (y' ++ z) E x (by omega) (by rw [← hT]; exact h2)
      have hb2 := back2 z E (copyP p d x) h1 h2
      rw [← hT] at hb
      unfold rdK
      rw [hb]
      simp only [ne_eq, not_true_eq_false, if_false]
      exact hb2

/-! ### A lower end -/
theorem take_preB {R : List UInt8} {j k n : Nat} (h : k + n ≤ (R.take j).length) : ((R.take j).drop k).take n = (R.drop k).take n := by
  rw [List.length_take] at h
  rw [List.drop_take, List.take_take]
  congr 1
  omega
theorem takR_mono {R : List UInt8} {j k : Nat} {n : Int} (h : (takR (R.take j) k n).e = 0) (hk : k ≤ (R.take j).length) : takR R k n = takR (R.take j) k n ∧ (takR (R.take j) k n).k ≤ (R.take j).length := by
  refine ⟨?_, takR_le _ _ _ hk⟩
  have hl : (R.take j).length ≤ R.length := by rw [List.length_take]; omega
  unfold takR at h ⊢
  by_cases h1 : n < 0
  · rw [if_pos h1] at h; cases h
  · rw [if_neg h1] at h ⊢
    rw [if_neg h1]
    by_cases h2 : ((R.take j).length : Int) - k < n
    · rw [if_pos h2] at h; cases h
    · rw [if_neg h2, if_neg (by omega), take_preB (by omega)]
theorem rdNums_mono {R : List UInt8} {j : Nat} : ∀ (ns : List Nat) (k : Nat), (rdNums (R.take j) ns k).e = 0 → k ≤ (R.take j).length → rdNums R ns k = rdNums (R.take j) ns k ∧ (rdNums (R.take j) ns k).k ≤ (R.take j).length
  | [], k, _, hk => ⟨rfl, hk⟩
  | n :: ns, k, h, hk => by
    unfold rdNums at h ⊢
    by_cases h0 : n = 0
    · rw [if_pos h0] at h ⊢
      rw [if_pos h0]
      obtain ⟨h1, h2⟩ := rdNums_mono ns k h hk
      rw [h1]
      exact ⟨rfl, h2⟩
    · rw [if_neg h0] at h ⊢
      rw [if_neg h0]
      have hnum : (numR (R.take j) k n).e = 0 := by
        by_cases hx : (numR (R.take j) k n).e = 0
        · exact hx
        · rw [if_pos hx] at h
          exact absurd h hx
      have hm : numR R k n = numR (R.take j) k n ∧ (numR (R.take j) k n).k ≤ (R.take j).length := by
        unfold numR at hnum ⊢
        split
        · rename_i hi
          rw [if_pos hi] at hnum
          cases hnum
        · rename_i hi
          rw [if_neg hi] at hnum
          exact takR_mono hnum hk
      have hn : ¬ (numR (R.take j) k n).e ≠ 0 := by simp [hnum]
      rw [if_neg hn] at h
      rw [hm.1, if_neg hn, if_neg hn]
      obtain ⟨h1, h2⟩ := rdNums_mono ns _ h hm.2
      rw [h1]
      exact ⟨rfl, h2⟩
theorem name_mono {T R : List UInt8} {j k : Nat} {ptd : Bool} (h : (rdName T (R.take j) ptd k).e = 0) (hk : k ≤ (R.take j).length) : rdName T R ptd k = rdName T (R.take j) ptd k ∧ (rdName T (R.take j) ptd k).k ≤ (R.take j).length := by
  have hl : (R.take j).length ≤ R.length := by rw [List.length_take]; omega
  unfold rdName at h ⊢
  by_cases h1 : (readU T k (if ptd then k else 0)).f ≠ 0
  · rw [if_pos h1] at h
    exact absurd h h1
  · rw [if_neg h1] at h
    rw [if_neg h1, if_neg h1]
    by_cases h2 : (seekR (R.take j) k (readU T k (if ptd then k else 0)).e).1 ≠ 0
    · rw [if_pos h2] at h
      cases h
    · rw [if_neg h2]
      have h3 : ((readU T k (if ptd then k else 0)).e : Int) ≤ (R.take j).length := by
        refine Decidable.byContradiction fun hx => h2 ?_
        unfold seekR
        rw [if_pos (.inr (by omega))]
        simp
      have h4 : ¬ (seekR R k (readU T k (if ptd then k else 0)).e).1 ≠ 0 := by
        unfold seekR
        rw [if_neg (by omega)]
        simp
      rw [if_neg h4]
      exact ⟨rfl, by simp only; omega⟩
theorem part_mono {p : Pt} {T R : List UInt8} {j k : Nat} {x : MD} (hw : wired p = true) (h : (rdP T (R.take j) p x k).e = 0) (hk : k ≤ (R.take j).length) : rdP T R p x k = rdP T (R.take j) p x k ∧ (rdP T (R.take j) p x k).k ≤ (R.take j).length := by
  cases p with
  | adr six =>
    simp only [rdP] at h ⊢
    by_cases h1 : (takR (R.take j) k (if six then 16 else 4)).e = 0
    · obtain ⟨h2, h3⟩ := takR_mono h1 hk
      have hn : ¬ (takR (R.take j) k (if six then 16 else 4)).e ≠ 0 := by simp [h1]
      rw [h2, if_neg hn]
      exact ⟨rfl, h3⟩
    · rw [if_pos h1] at h
      exact absurd h h1
  | nam mail ptd =>
    simp only [rdP] at h ⊢
    obtain ⟨h1, h2⟩ := name_mono h hk
    rw [h1]
    exact ⟨rfl, h2⟩
  | num a b c e f =>
    simp only [rdP] at h ⊢
    obtain ⟨h1, h2⟩ := rdNums_mono _ k h hk
    rw [h1]
    exact ⟨rfl, h2⟩
  | txt => cases hw
  | raw => cases hw
theorem kind_mono {T R : List UInt8} {j : Nat} : ∀ (K : List Pt) (k : Nat) (x : MD), (∀ p ∈ K, wired p = true) → (rdK T (R.take j) K x k).e = 0 → k ≤ (R.take j).length → rdK T R K x k = rdK T (R.take j) K x k ∧ (rdK T (R.take j) K x k).k ≤ (R.take j).length
  | [], k, x, _, _, hk => ⟨rfl, hk⟩
  | p :: K, k, x, hw, h, hk => by
    have hp : (rdP T (R.take j) p x k).e = 0 := by
      by_cases hx : (rdP T (R.take j) p x k).e = 0
      · exact hx
      · unfold rdK at h
        rw [if_pos hx] at h
        exact absurd h hx
    obtain ⟨h1, h2⟩ := part_mono (hw p List.mem_cons_self) hp hk
    have hn : ¬ (rdP T (R.take j) p x k).e ≠ 0 := by simp [hp]
    unfold rdK at h ⊢
    rw [if_neg hn] at h
    rw [h1, if_neg hn, if_neg hn]
    exact kind_mono K _ _ (fun q hq => hw q (List.mem_cons_of_mem _ hq)) h h2
/-- One octet less is not read. -/
theorem kind_less {T R : List UInt8} {j k : Nat} {K : List Pt} {x : MD} (hw : ∀ p ∈ K, wired p = true) (hk : k ≤ (R.take j).length) (hb : (rdK T R K x k).k > (R.take j).length) : (rdK T (R.take j) K x k).e ≠ 0 := by
  intro h
  obtain ⟨h1, h2⟩ := kind_mono K k x hw h hk
  rw [h1] at hb
  omega
end Go.Proofs.YtjollpgkmcinjaaGreat
namespace Go.Proofs.YtjollpgkmcinjaaGreat
open Go.RowKit
set_option linter.unusedVariables false

theorem takR_whole (A x z : List UInt8) : takR (A ++ x ++ z) A.length (x.length : Nat) = ⟨x, 0, A.length + x.length⟩ := by
  have h := takR_back (A := A) (x := x) (z := z) (E := (A ++ x ++ z).length) (by simp) (Nat.le_refl _)
  rwa [List.take_length] at h
theorem text_rd (A z : List UInt8) (x : ByteArray) (hx : x.size ≤ 255) : rdText (A ++ ((UInt8.ofNat x.size :: bs x) ++ z)) A.length = ⟨bs x, 0, A.length + (1 + x.size)⟩ := by
  have h1 := takR_whole A [UInt8.ofNat x.size] (bs x ++ z)
  have e1 : A ++ [UInt8.ofNat x.size] ++ (bs x ++ z) = A ++ ((UInt8.ofNat x.size :: bs x) ++ z) := by simp
  rw [e1] at h1
  have hn : numR (A ++ ((UInt8.ofNat x.size :: bs x) ++ z)) A.length 1 = ⟨[UInt8.ofNat x.size], 0, A.length + 1⟩ := by
    unfold numR
    rw [if_neg (by decide)]
    exact h1
  have h2 := takR_whole (A ++ [UInt8.ofNat x.size]) (bs x) z
  have e2 : A ++ [UInt8.ofNat x.size] ++ bs x ++ z = A ++ ((UInt8.ofNat x.size :: bs x) ++ z) := by simp
  rw [e2, List.length_append, bs_length, List.length_singleton, Nat.add_assoc] at h2
  have hv : num [UInt8.ofNat x.size] = x.size := by
    show 0 * 256 + (UInt8.ofNat x.size).toNat = _
    rw [UInt8.toNat_ofNat']
    omega
  unfold rdText
  rw [hn, if_neg (by simp), hv]
  exact h2
theorem texts_rd : ∀ (L : List ByteArray) (A : List UInt8) (acc : List ByteArray) (f : Nat), (∀ x ∈ L, x.size ≤ 255) → (acc = [] → L ≠ []) → (txB L).length < f → rdTexts (A ++ txB L) f acc A.length = ⟨0, (A ++ txB L).length, { md0 with L := acc ++ L }⟩
  | _, _, _, 0, _, _, h => absurd h (Nat.not_lt_zero _)
  | [], A, acc, f + 1, _, hn, _ => by
    unfold rdTexts
    rw [if_neg]
    · simp [txB]
    · rintro (h | h)
      · exact hn h rfl
      · simp [txB] at h
  | x :: L, A, acc, f + 1, hx, hn, hf => by
    have hx1 := hx x List.mem_cons_self
    rw [txB_cons] at hf ⊢
    rw [List.length_append, List.length_cons, bs_length] at hf
    have ht := text_rd A (txB L) x hx1
    unfold rdTexts
    rw [if_pos (.inr (by simp [bs_length])), ht, if_neg (by simp), mkb_bs]
    have ih := texts_rd L (A ++ (UInt8.ofNat x.size :: bs x)) (acc ++ [x]) f (fun y hy => hx y (List.mem_cons_of_mem _ hy)) (fun h => by simp at h) (by omega)
    have e : (A ++ (UInt8.ofNat x.size :: bs x)).length = A.length + (1 + x.size) := by simp [bs_length]; omega
    rw [e, List.append_assoc] at ih
    simp only
    rw [ih]
    simp
/-- The kinds that there are. -/
theorem kind_list (t : Int) : kindK t = [.adr false] ∨ kindK t = [.nam false true] ∨ kindK t = [.nam false true, .nam true true, .num 4 4 4 4 4] ∨ kindK t = [.num 2 0 0 0 0, .nam false true] ∨ kindK t = [.txt] ∨ kindK t = [.adr true] ∨ kindK t = [.num 2 2 2 0 0, .nam false false] ∨ kindK t = [.raw] := by
  unfold kindK table
  repeat' split
  all_goals simp
theorem copy_kind {t : Int} {d : MD} (h : dropK (kindK t) d = md0) : copyK (kindK t) d md0 = d := by
  obtain ⟨six, hi, lo, n, m, v0, v1, v2, v3, v4, L, r⟩ := d
  rcases kind_list t with e | e | e | e | e | e | e | e <;> rw [e] at h ⊢ <;> simp [dropK, dropP, putName, md0] at h <;> simp [copyK, copyP, putName, nameOf, md0, h]
/-- Types: told with a wired kind, texts, raw. -/
theorem type_cases (t : Int) : ((table t).isSome = true ∧ t ≠ 16 ∧ (∀ p ∈ kindK t, wired p = true) ∧ (kindK t).length ≤ 3) ∨ (t = 16 ∧ kindK t = [.txt]) ∨ ((table t).isSome = false ∧ kindK t = [.raw]) := by
  unfold kindK table
  repeat' split
  all_goals first | (refine .inl ⟨rfl, by omega, ?_, ?_⟩ <;> simp [wired]; done) | (refine .inr (.inl ⟨by omega, rfl⟩); done) | exact .inr (.inr ⟨rfl, rfl⟩)
/-- What data that are put come to. -/
structure BackD (t : Int) (d : MD) (s : PS) (q : Nat × PS) : Prop where
  ok : q.1 = 0
  ne : (table t).isSome = true → s.l.length < q.2.l.length
  l : ∃ y, q.2.l = s.l ++ y ∧ y.length ≤ sizeD t d ∧ y.length ≤ 3000
  back : readD (q.2.l ++ [0]) s.l.length q.2.l.length t = (0, d)
  more : (table t).isSome = true → t ≠ 16 → (readD (q.2.l ++ [0]) s.l.length (q.2.l.length + 1 : Nat) t).1 = 4
  raw : (table t).isSome = false → (readD (q.2.l ++ [0]) s.l.length (q.2.l.length + 1 : Nat) t).1 = 0
  less : (table t).isSome = true → t ≠ 16 → s.l.length < q.2.l.length → (readD (q.2.l ++ [0]) s.l.length (q.2.l.length - 1 : Nat) t).1 ≠ 0
theorem size_ne {t : Int} {d : MD} (hs : (table t).isSome = true) (h16 : t ≠ 16) (hc : ∀ p ∈ kindK t, chkP p d = 0) : sizeK (kindK t) d ≠ 0 := by
  have hraw : kindK t ≠ [.raw] := by
    intro h
    rcases type_cases t with ⟨_, _, hw, _⟩ | ⟨h2, _⟩ | ⟨h2, _⟩
    · have := hw .raw (by rw [h]; simp); cases this
    · exact h16 h2
    · rw [hs] at h2; cases h2
  have htxt : kindK t ≠ [.txt] := by
    intro h
    rcases type_cases t with ⟨_, _, hw, _⟩ | ⟨h2, _⟩ | ⟨h2, _⟩
    · have := hw .txt (by rw [h]; simp); cases this
    · exact h16 h2
    · rw [hs] at h2; cases h2
  rcases kind_list t with e | e | e | e | e | e | e | e <;> rw [e] at hc ⊢
  · simp [sizeK, sizeP]
  · have h := hc (.nam false true) (by simp); have h' : chkN (bs (nameOf false d)) = 0 := h; simp [sizeK, sizeP, sizeN, h']
  · simp [sizeK, sizeP]
  · simp [sizeK, sizeP]
  · exact absurd e htxt
  · simp [sizeK, sizeP]
  · simp [sizeK, sizeP]
  · exact absurd e hraw
theorem size_some {t : Int} {d : MD} (ht : isT t = true) (h : allK (kindK t) d = 0) : sizeD t d = sizeK (kindK t) d := by
  unfold sizeD
  rw [ht, if_pos rfl, if_neg]
  intro hp
  unfold allK at h
  rw [if_pos hp] at h
  exact hp h
theorem readD_in {T : List UInt8} {a e : Nat} {t : Int} (ht : isT t = true) (ha : a ≤ e) (he : e ≤ T.length) : readD T a e t =
    if (rdK T (T.take e) (kindK t) md0 a).e ≠ 0 then ((rdK T (T.take e) (kindK t) md0 a).e, md0)
    else if (rdK T (T.take e) (kindK t) md0 a).k < e ∨ allK (kindK t) (rdK T (T.take e) (kindK t) md0 a).d ≠ 0 then (4, md0) else (0, (rdK T (T.take e) (kindK t) md0 a).d) := by
  unfold readD
  rw [ht, if_pos rfl, if_neg (by omega), if_neg (by omega)]
  simp only [Int.toNat_natCast]
theorem back_any {t : Int} {d : MD} {s : PS} (ht : isT t = true) (h0 : allK (kindK t) d = 0) (fd : Fit64 d) (hg : GoodR s) (hs : s.l.length ≤ 500) (hz : sizeK (kindK t) d ≤ 3000) : BackD t d s (putD 65535 t d s) := by
  obtain ⟨hdrop, hchk, h65⟩ := all_facts h0
  have hput : putD 65535 t d s = putK 65535 (kindK t) d s := by
    unfold putD
    rw [ht, if_pos rfl, if_neg (by simp [h0])]
  have hcopy := copy_kind hdrop
  rw [hput]
  have hsz := size_some ht h0
  rcases type_cases t with ⟨hsome, h16, hw, hl3⟩ | ⟨h16, hk⟩ | ⟨hnone, hk⟩
  · obtain ⟨ok, ⟨y, hy, hyl, hyn⟩, back⟩ := kind_back (kindK t) d s hw hchk fd hg (by omega)
    obtain ⟨q, hq⟩ : ∃ q, putK 65535 (kindK t) d s = q := ⟨_, rfl⟩
    rw [hq] at ok hy back ⊢
    have hlen := congrArg List.length hy
    rw [List.length_append] at hlen
    have hT : (q.2.l ++ [0]).length = q.2.l.length + 1 := by simp
    have b1 := back [0] q.2.l.length md0 (Nat.le_refl _) (by omega)
    have b2 := back [0] (q.2.l.length + 1) md0 (by omega) (by omega)
    rw [hcopy] at b1 b2
    have hyn' := hyn (size_ne hsome h16 hchk)
    refine ⟨ok, fun _ => by omega, ⟨y, hy, by rw [hsz]; exact hyl, by omega⟩, ?_, fun _ _ => ?_, fun h => ?_, fun _ _ hlt => ?_⟩
    · rw [readD_in ht (by omega) (by omega), b1, if_neg (by simp), if_neg]
      simp [h0]
    · rw [readD_in ht (by omega) (by omega), b2, if_neg (by simp), if_pos (.inl (by simp))]
    · rw [hsome] at h; cases h
    · rw [readD_in ht (by omega) (by omega)]
      have hR : (q.2.l ++ [0]).take (q.2.l.length - 1) = ((q.2.l ++ [0]).take q.2.l.length).take (q.2.l.length - 1) := by rw [List.take_take]; congr 1; omega
      have hRl : (((q.2.l ++ [0]).take q.2.l.length).take (q.2.l.length - 1)).length = q.2.l.length - 1 := by rw [List.length_take, List.length_take]; omega
      have hne := kind_less (T := q.2.l ++ [0]) (R := (q.2.l ++ [0]).take q.2.l.length) (j := q.2.l.length - 1) (k := s.l.length) (K := kindK t) (x := md0) hw (by rw [hRl]; omega) (by rw [b1, hRl]; show q.2.l.length > _; omega)
      rw [← hR] at hne
      rw [if_pos hne]
      exact hne
  · rw [hk] at hchk hz h65 ⊢
    have ta := txt_all (hchk _ List.mem_cons_self)
    have hsT : sizeK [.txt] d = sizeT d.L := by simp [sizeK, sizeP]
    have hne : d.L ≠ [] := fun h => by have := hchk .txt List.mem_cons_self; simp [chkP, h] at this
    have pa := texts_put (M := 65535) d.L s hg.good.f ta (by omega)
    have pk : putK 65535 [.txt] d s = (0, { s with l := s.l ++ txB d.L }) := by
      rw [putK_two (show (putP 65535 .txt d s).1 = 0 from by show (textsS 65535 d.L s).1 = 0; rw [pa])]
      show (0, (textsS 65535 d.L s).2) = _
      rw [pa]
    rw [pk]
    have hl := txB_length d.L
    refine ⟨rfl, fun _ => (by have h1 : sizeT d.L ≠ 0 := fun h => hne (by cases hd : d.L with | nil => rfl | cons a r => rw [hd] at h; simp [sizeT] at h); simp only [List.length_append]; omega), ⟨_, rfl, (by rw [hsz, hk, hsT, hl]; exact Nat.le_refl _), (by omega)⟩, ?_, fun _ h => absurd h16 h, fun h => (by rw [h16] at h; cases h), fun _ h => absurd h16 h⟩
    simp only
    rw [readD_in ht (by simp) (by simp), hk]
    have hR : (s.l ++ txB d.L ++ [0]).take (s.l ++ txB d.L).length = s.l ++ txB d.L := List.take_left' rfl
    rw [hR]
    have hrd := texts_rd d.L s.l [] ((s.l ++ txB d.L).length + 1 - s.l.length) ta (fun _ => hne) (by rw [List.length_append]; omega)
    have hrk : rdK (s.l ++ txB d.L ++ [0]) (s.l ++ txB d.L) [.txt] md0 s.l.length = ⟨0, (s.l ++ txB d.L).length, d⟩ := by
      have e1 : rdP (s.l ++ txB d.L ++ [0]) (s.l ++ txB d.L) .txt md0 s.l.length = ⟨0, (s.l ++ txB d.L).length, d⟩ := by
        simp only [rdP]
        have hm0 : md0.L = [] := rfl
        rw [hm0, hrd]
        rw [hk] at hcopy
        have hc' : { md0 with L := d.L } = d := hcopy
        simp only [List.nil_append]
        congr 1
      rw [rdK, e1]
      simp [rdK]
    rw [hrk, if_neg (by simp), if_neg]
    rw [hk] at h0
    simp [h0]
  · rw [hk] at hchk hz h65 ⊢
    have hsT : sizeK [.raw] d = d.r.size := by simp [sizeK, sizeP]
    have pa := put0 (M := 65535) (s := s) (x := bs d.r) hg.good.f (by rw [bs_length]; omega)
    have pk : putK 65535 [.raw] d s = (0, { s with l := s.l ++ bs d.r }) := by
      rw [putK_two (show (putP 65535 .raw d s).1 = 0 from by show (putS 65535 s (bs d.r)).1 = 0; rw [pa])]
      show (0, (putS 65535 s (bs d.r)).2) = _
      rw [pa]
    rw [pk]
    have h0' := h0
    rw [hk] at hcopy h0'
    have hc' : { md0 with r := d.r } = d := hcopy
    refine ⟨rfl, fun h => (by rw [hnone] at h; cases h), ⟨_, rfl, (by rw [hsz, hk, hsT, bs_length]; exact Nat.le_refl _), (by rw [bs_length]; omega)⟩, ?_, fun h => (by rw [hnone] at h; cases h), fun _ => ?_, fun h => by rw [hnone] at h; cases h⟩
    · simp only
      rw [readD_in ht (by simp) (by simp), hk]
      have hR : (s.l ++ bs d.r ++ [0]).take (s.l ++ bs d.r).length = s.l ++ bs d.r := List.take_left' rfl
      have hrk : rdK (s.l ++ bs d.r ++ [0]) (s.l ++ bs d.r) [.raw] md0 s.l.length = ⟨0, (s.l ++ bs d.r).length, d⟩ := by
        simp only [rdK, rdP, ne_eq, not_true_eq_false, if_false]
        rw [List.drop_left' rfl, mkb_bs, hc']
      rw [hR, hrk, if_neg (by simp), if_neg]
      simp [h0']
    · simp only
      rw [readD_in ht (by simp; omega) (by simp; omega), hk]
      have hR : (s.l ++ bs d.r ++ [0]).take ((s.l ++ bs d.r).length + 1) = s.l ++ bs d.r ++ [0] := List.take_of_length_le (by simp; omega)
      have hrk : rdK (s.l ++ bs d.r ++ [0]) (s.l ++ bs d.r ++ [0]) [.raw] md0 s.l.length = ⟨0, (s.l ++ bs d.r).length + 1, rwD (mkb (bs d.r ++ [0]))⟩ := by
        simp only [rdK, rdP, ne_eq, not_true_eq_false, if_false]
        rw [List.append_assoc, List.drop_left' rfl]
        simp [rwD, Nat.add_assoc]
      have hp0 : partsK [.raw] (rwD (mkb (bs d.r ++ [0]))) = 0 := by
        unfold partsK
        rw [rw_drop]
        rfl
      have hal : allK [.raw] (rwD (mkb (bs d.r ++ [0]))) = 0 := by
        unfold allK
        have hmz : (mkb (bs d.r ++ [0])).size = d.r.size + 1 := by
          show (bs d.r ++ [0]).toArray.size = _
          simp [bs_length]
        have : sizeK [.raw] (rwD (mkb (bs d.r ++ [0]))) = d.r.size + 1 := by simp [sizeK, sizeP, rwD, hmz]
        rw [hp0, this, if_neg (by simp), if_neg (by omega)]
      rw [hR, hrk, if_neg (by simp), if_neg]
      simp [hal]
end Go.Proofs.YtjollpgkmcinjaaGreat
namespace Go.Proofs.YtjollpgkmcinjaaGreat
open Go.RowKit
set_option linter.unusedVariables false

def octD (d : MD) : Nat := d.r.size + d.n.size + d.m.size
theorem sizeT_takeX {L : List ByteArray} {k : Nat} (h : k < L.length) : sizeT (L.take (k + 1)) = sizeT (L.take k) + (1 + L[k].size) := by
  rw [List.take_succ_eq_append_getElem h]
  unfold sizeT
  rw [List.map_append, List.sum_append]
  simp
theorem sizeT_part (L : List ByteArray) (k : Nat) : sizeT (L.take k) ≤ sizeT L := by
  have h : sizeT L = sizeT (L.take k) + sizeT (L.drop k) := by
    unfold sizeT
    rw [← List.sum_append, ← List.map_append, List.take_append_drop]
  omega
theorem small_all {t : Int} {d : MD} (h0 : allK (kindK t) d = 0) : octD d + sizeT d.L ≤ 66500 ∧ sizeK (kindK t) d ≤ octD d + sizeT d.L + 40 := by
  obtain ⟨hdrop, hchk, h65⟩ := all_facts h0
  obtain ⟨six, hi, lo, n, m, v0, v1, v2, v3, v4, L, r⟩ := d
  have nz : nob.size = 0 := rfl
  have tz : sizeT [] = 0 := rfl
  unfold octD
  rcases kind_list t with e | e | e | e | e | e | e | e <;> rw [e] at hdrop hchk h65 ⊢ <;> simp [dropK, dropP, putName, md0] at hdrop <;> simp [sizeK, sizeP, nameOf, sizeN, bs_length] at h65 ⊢ <;> simp only [hdrop, nz, tz]
  · omega
  · have := chkN_len (hchk (.nam false true) (by simp)); simp [nameOf, bs_length] at this; split <;> omega
  · have a1 := chkN_len (hchk (.nam false true) (by simp)); have a2 := chkN_len (hchk (.nam true true) (by simp)); simp [nameOf, bs_length] at a1 a2; split <;> split <;> omega
  · have := chkN_len (hchk (.nam false true) (by simp)); simp [nameOf, bs_length] at this; split <;> omega
  · omega
  · omega
  · have := chkN_len (hchk (.nam false false) (by simp)); simp [nameOf, bs_length] at this; split <;> omega
  · omega
def LxRel (w : World) (C : Array Value) (d : MD) (vn vi : Value) (wr : World) : Prop :=
  ∃ k : Nat, vi = .int .i64 k ∧ k ≤ d.L.length ∧ vn = .int .i64 ((octD d + sizeT (d.L.take k) : Nat) : Int) ∧ Below w.heap.size w wr ∧ Lies wr w.heap.size 30 C
set_option maxHeartbeats 2000000 in
set_option maxRecDepth 100000 in
theorem Light_small (d : MD) (tv : Value) (w : World) (hf : Fit w d tv) (hs : octD d + sizeT d.L ≤ 66500) : Calls Tryz.prog 7 #[dataV d tv] w (Told w (.bool (decide (octD d + sizeT d.L ≤ 2000)))) := by
  obtain ⟨A, cap, rfl, hl, hc⟩ := hf.row.shape
  have HR := Lib.hid hf.row
  have htl := hf.tl
  have hs0 : octD d ≤ 66500 := by omega
  have HS := Lib.hid hs
  unfold octD at hs0
  have q1 : IntKind.i64.wrap ((d.r.size : Int) + (d.n.size : Int)) = ((d.r.size + d.n.size : Nat) : Int) := by rw [IntWalk.i64_in _ (by omega)]; omega
  have q2 : IntKind.i64.wrap (((d.r.size + d.n.size : Nat) : Int) + (d.m.size : Int)) = ((octD d : Nat) : Int) := by unfold octD; rw [IntWalk.i64_in _ (by omega)]; omega
  unfold maxLen at hc
  have HB0 : Hid (Below w.heap.size w (w.alloc (.cells (cellsD d (.slice A d.L.length cap)) 30))) := Lib.hid ((Below.refl _ w).alloc (Nat.le_refl _) _)
  have HL0 : Hid (Lies (w.alloc (.cells (cellsD d (.slice A d.L.length cap)) 30)) w.heap.size 30 (cellsD d (.slice A d.L.length cap))) := Lib.hid (Lies.new w _ _)
  have c0 := HL0.out.cell 11
  have c1 := HL0.out.cell 3
  have c2 := HL0.out.cell 4
  clear hf hs
  unfold dataV cellsD
  go_enter Tryz.func7, Tryz.ntmps7
  go_wp2
  go_loopw [3, 4] (fun v3 v4 wr => LxRel w (cellsD d (.slice A d.L.length cap)) d v3 v4 wr) (fun _ v4 _ => d.L.length - (intOf v4).toNat)
  case atStart => exact ⟨0, rfl, Nat.zero_le _, rfl, HB0.out, HL0.out⟩
  case round =>
    clear HB0 HL0 c0 c1 c2 q1 q2
    obtain ⟨k, rfl, hk, rfl, hb, hl⟩ := hrel
    have HB := Lib.hid hb
    have HL := Lib.hid hl
    have kc : wr.cell? ⟨w.heap.size, 10, none⟩ = some (.slice A d.L.length cap) := hl.cell 10
    clear hb hl
    have hsk := Nat.le_trans (Nat.add_le_add_left (sizeT_part d.L k) (octD d)) HS.out
    rcases Nat.lt_or_ge k d.L.length with hlt | hge
    · obtain ⟨q0, o0, rfl, hcell0⟩ := srow_at (HR.out.below HB.out (Nat.le_refl _)) hlt
      have hltI : (k : Int) < (d.L.length : Int) := by omega
      have hkk : k + 1 ≤ d.L.length := hlt
      have hsk1 := Nat.le_trans (Nat.add_le_add_left (sizeT_part d.L (k + 1)) (octD d)) HS.out
      rw [sizeT_takeX hlt] at hsk1
      have p1 : IntKind.i64.wrap (((octD d + sizeT (d.L.take k) : Nat) : Int) + (d.L[k].size : Int)) = ((octD d + sizeT (d.L.take k) + d.L[k].size : Nat) : Int) := by rw [IntWalk.i64_in _ (by omega)]; omega
      have p2 : IntKind.i64.wrap (((octD d + sizeT (d.L.take k) + d.L[k].size : Nat) : Int) + 1) = ((octD d + sizeT (d.L.take (k + 1)) : Nat) : Int) := by rw [sizeT_takeX hlt, IntWalk.i64_in _ (by omega)]; omega
      go_wp2
      go_roundw
      case rel => exact ⟨k + 1, by go_num, hkk, congrArg (Value.int .i64) (by rw [sizeT_takeX hlt]; omega), HB.out, HL.out⟩
      case measure => simp [intOf]; omega
    · obtain rfl : k = d.L.length := by omega
      go_wp2
      go_ret
      exact ⟨congrArg (fun b => Ending.returned (Value.bool b)) (decide_eq_decide.2 (by omega)), HB.out⟩
end Go.Proofs.YtjollpgkmcinjaaGreat
