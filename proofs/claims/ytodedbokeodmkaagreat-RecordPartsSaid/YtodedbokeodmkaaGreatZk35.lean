/-
  What a name that is read comes to: bounds, what is passed over, what is read without pointers: plain mathematics. No condition beyond those that each theorem names.
-/
import Derived.Test.YtodedbokeodmkaaGreatZk6
namespace Go.Proofs.YtodedbokeodmkaaGreat
set_option linter.unusedVariables false

/-- A part that is neither the end nor a pointer is a label with its length. -/
theorem lab_part {x : List UInt8} {p : Nat} (h : (partU (x.drop p)).2 = 0) (ht : (x.drop p).take (partU (x.drop p)).1 ≠ [0]) (hp : isPtr ((x.drop p).take (partU (x.drop p)).1) = false) :
    ∃ y, ok1 y ∧ (x.drop p).take (partU (x.drop p)).1 = enc1 y := by
  obtain ⟨h1, h2, h3, c, t, hct, hor⟩ := partU_ok h
  have h2' : (partU (x.drop p)).1 ≤ t.length + 1 := by rw [← List.length_cons (a := c), ← hct]; exact h2
  clear h2
  rcases hor with ⟨hc, hn⟩ | ⟨hc, hn⟩
  · rw [hn] at ht hp h2' ⊢
    rw [hct] at ht hp ⊢
    rw [Nat.add_comm, List.take_succ_cons] at ht hp ⊢
    have hl : (t.take c.toNat).length = c.toNat := by rw [List.length_take]; omega
    have hc0 : c.toNat ≠ 0 := fun e => by
      have : c = 0 := UInt8.toNat_inj.1 e
      subst this
      simp at ht
    refine ⟨t.take c.toNat, ⟨by omega, by omega⟩, ?_⟩
    unfold enc1
    rw [hl]
    simp
  · rw [hn, hct] at hp
    simp [isPtr] at hp
    omega
theorem run_inv (x : List UInt8) : ∀ (k : Nat) (s : US), InvU x.length s → InvU x.length (runU x k s)
  | 0, s, h => h
  | k + 1, s, h => by
    by_cases hf : s.f = 0
    · by_cases he : (partU (x.drop s.p)).2 = 0
      · have hi := overU_inv h he
        by_cases ht : (overU x s (partU (x.drop s.p)).1).t = [0]
        · rw [runU_end hf he ht]; exact hi
        · cases hp : isPtr (overU x s (partU (x.drop s.p)).1).t
          · rw [runU_lab hf he ht hp]; exact run_inv x k _ (keepU_inv hi)
          · rw [runU_ptr hf he ht hp]; exact run_inv x k _ (followU_inv hi)
      · rw [runU_bad hf he]; exact failU_inv h _
    · rw [runU_stop hf]; exact h
/-- What is read, of what stood. -/
structure RunOk (x : List UInt8) (s u : US) : Prop where
  l : ∃ L, okN L ∧ u.l = s.l ++ enc L
  j : s.j ≤ u.j
  jr : u.j + u.r ≤ s.j + s.r
  e : s.j ≠ 0 → u.e = s.e
  sk : s.j = 0 → s.p < u.e ∧ ∀ m, x.length - s.p < m → skipF x m s.p = (u.e, 0)
  pl : s.j = 0 → ∀ m, muU x { s with r := 0 } ≤ m → (u.j = 0 → runU x m { s with r := 0 } = { u with r := 0 }) ∧ (u.j ≠ 0 → (runU x m { s with r := 0 }).f ≠ 0)
theorem run_ok (x : List UInt8) : ∀ (k : Nat) (s : US), s.f = 0 → InvU x.length s → muU x s ≤ k → (runU x k s).f = 0 → RunOk x s (runU x k s)
  | 0, s, hf, hi, hm, hu => by
    rw [show muU x s = _ from if_neg (by omega)] at hm
    omega
  | k + 1, s, hf, hi, hm, hu => by
    by_cases he : (partU (x.drop s.p)).2 = 0
    · obtain ⟨s2, hs2⟩ : ∃ s2, overU x s (partU (x.drop s.p)).1 = s2 := ⟨_, rfl⟩
      have hi2 : InvU x.length s2 := by rw [← hs2]; exact overU_inv hi he
      obtain ⟨h1, h2, _⟩ := partU_ok he
      rw [List.length_drop] at h2
      have hsp := hi.p
      have ef : s2.f = 0 := by rw [← hs2]; exact hf
      have el : s2.l = s.l := by rw [← hs2]; rfl
      have ej : s2.j = s.j := by rw [← hs2]; rfl
      have er : s2.r = s.r := by rw [← hs2]; rfl
      have ep : s2.p = s.p + (partU (x.drop s.p)).1 := by rw [← hs2]; rfl
      have et : s2.t = (x.drop s.p).take (partU (x.drop s.p)).1 := by rw [← hs2]; rfl
      have ee : s2.e = if s.j = 0 then s.p + (partU (x.drop s.p)).1 else s.e := by rw [← hs2]; rfl
      have hs2' : overU x { s with r := 0 } (partU (x.drop s.p)).1 = { s2 with r := 0 } := by rw [← hs2]; rfl
      have hmz : ∀ m, muU x { s with r := 0 } ≤ m → ∃ m', m = m' + 1 := fun m hm' => by
        rw [show muU x { s with r := 0 } = _ from if_neg (fun h => h hf)] at hm'
        exact ⟨m - 1, by omega⟩
      have hmk := mu_keep hi he hf hm
      have hmf := mu_follow hi he hf hm
      rw [hs2] at hmk hmf
      by_cases ht : s2.t = [0]
      · rw [runU_end hf he (by rw [hs2]; exact ht), hs2] at hu ⊢
        refine ⟨⟨[], okN_nil, by rw [el, enc_nil, List.append_nil]⟩, by omega, by omega, fun h => by rw [ee, if_neg h], fun h => ⟨by rw [ee, if_pos h]; omega, fun m hm' => ?_⟩, fun h m hm' => ⟨fun _ => ?_, fun h' => absurd (ej.trans h) h'⟩⟩
        · obtain ⟨m, rfl⟩ : ∃ m', m = m' + 1 := ⟨m - 1, by omega⟩
          unfold skipF
          rw [if_neg (by omega), if_pos (by rw [← et]; exact ht), ee, if_pos h]
        · obtain ⟨m, rfl⟩ := hmz m hm'
          rw [runU_end (s := { s with r := 0 }) hf he (by rw [hs2']; exact ht), hs2']
      · cases hp : isPtr s2.t
        · rw [runU_lab hf he (by rw [hs2]; exact ht) (by rw [hs2]; exact hp), hs2] at hu ⊢
          obtain ⟨y, hy1, hy2⟩ := lab_part he (by rw [← et]; exact ht) (by rw [← et]; exact hp)
          rw [← et] at hy2
          by_cases hlong : 254 < s2.l.length + s2.t.length
          · rw [show keepU s2 = failU s2 3 from if_pos hlong, runU_stop (show (failU s2 3).f ≠ 0 by simp [failU])] at hu
            simp [failU] at hu
          · have ek : keepU s2 = { s2 with l := s2.l ++ s2.t } := if_neg hlong
            rw [ek] at hu hmk ⊢
            have hi3 : InvU x.length { s2 with l := s2.l ++ s2.t } := by rw [← ek]; exact keepU_inv hi2
            obtain ⟨⟨L, hL, hl⟩, a2, a3, a4, a5, a6⟩ := run_ok x k { s2 with l := s2.l ++ s2.t } ef hi3 hmk hu
            simp only at hl a2 a3 a4 a5 a6
            refine ⟨⟨y :: L, okN_cons.2 ⟨hy1, hL⟩, by rw [hl, el, hy2, enc_cons, List.append_assoc]⟩, by omega, by omega, fun h => (a4 (by omega)).trans (by rw [ee, if_neg h]), fun h => ?_, fun h m hm' => ?_⟩
            · obtain ⟨b1, b2⟩ := a5 (by omega)
              refine ⟨by omega, fun m hm' => ?_⟩
              obtain ⟨m, rfl⟩ : ∃ m', m = m' + 1 := ⟨m - 1, by omega⟩
              conv => lhs; unfold skipF
              rw [if_neg (by omega), if_neg (by rw [← et]; exact ht), if_neg (by rw [← et, hp]; simp), ← ep]
              exact b2 m (by omega)
            · obtain ⟨m, rfl⟩ := hmz m hm'
              have ht' : (overU x { s with r := 0 } (partU (x.drop s.p)).1).t ≠ [0] := by rw [hs2']; exact ht
              have hp' : isPtr (overU x { s with r := 0 } (partU (x.drop s.p)).1).t = false := by rw [hs2']; exact hp
              have hi' : InvU x.length { s with r := 0 } := ⟨hi.p, by have := hi.jr; simp only; omega, hi.l, hi.e, hi.t⟩
              have hmk' := mu_keep hi' he hf hm'
              rw [show runU x (m + 1) { s with r := 0 } = runU x m (keepU { s2 with r := 0 }) from (runU_lab (s := { s with r := 0 }) hf he ht' hp').trans (by rw [hs2'])]
              rw [show keepU (overU x { s with r := 0 } (partU (x.drop s.p)).1) = keepU { s2 with r := 0 } by rw [← hs2']] at hmk'
              have ek' : keepU { s2 with r := 0 } = { s2 with l := s2.l ++ s2.t, r := 0 } := if_neg hlong
              rw [ek'] at hmk' ⊢
              exact a6 (by omega) m hmk'
        · rw [runU_ptr hf he (by rw [hs2]; exact ht) (by rw [hs2]; exact hp), hs2] at hu ⊢
          by_cases hto : s2.r ≤ toU s2.t
          · rw [show followU s2 = failU s2 4 from if_pos hto, runU_stop (show (failU s2 4).f ≠ 0 by simp [failU])] at hu
            simp [failU] at hu
          · have ek : followU s2 = { s2 with r := toU s2.t, p := toU s2.t, j := s2.j + 1 } := if_neg hto
            have hi3 : InvU x.length (followU s2) := followU_inv hi2
            rw [ek] at hu hmf hi3 ⊢
            obtain ⟨⟨L, hL, hl⟩, a2, a3, a4, _, _⟩ := run_ok x k { s2 with r := toU s2.t, p := toU s2.t, j := s2.j + 1 } ef hi3 hmf hu
            simp only at hl a2 a3 a4
            refine ⟨⟨L, hL, by rw [hl, el]⟩, by omega, by omega, fun h => (a4 (by omega)).trans (by rw [ee, if_neg h]), fun h => ?_, fun h m hm' => ⟨fun h' => by omega, fun _ => ?_⟩⟩
            · refine ⟨by rw [a4 (by omega), ee, if_pos h]; omega, fun m hm' => ?_⟩
              obtain ⟨m, rfl⟩ : ∃ m', m = m' + 1 := ⟨m - 1, by omega⟩
              conv => lhs; unfold skipF
              rw [if_neg (by omega), if_neg (by rw [← et]; exact ht), if_pos (by rw [← et]; exact hp), a4 (by omega), ee, if_pos h]
            · obtain ⟨m, rfl⟩ := hmz m hm'
              rw [show runU x (m + 1) { s with r := 0 } = runU x m (followU { s2 with r := 0 }) from (runU_ptr (s := { s with r := 0 }) hf he (by rw [hs2']; exact ht) (by rw [hs2']; exact hp)).trans (by rw [hs2'])]
              rw [show followU { s2 with r := 0 } = failU { s2 with r := 0 } 4 from if_pos (Nat.zero_le _), runU_stop (show (failU { s2 with r := 0 } 4).f ≠ 0 by simp [failU])]
              simp [failU]
    · rw [runU_bad hf he] at hu
      exact absurd hu he
/-- What is read of a name, and what follows. -/
structure ReadOk (x : List UInt8) (a : Nat) (u p : US) : Prop where
  le : a ≤ x.length
  chk : chkN u.l = 0
  skip : skipU x a = (u.e, 0)
  lt : a < u.e
  e : u.e ≤ x.length
  j : u.j ≤ a
  p : (u.j = 0 ∧ p.f = 0 ∧ p.l = u.l ∧ p.e = u.e) ∨ (u.j ≠ 0 ∧ p.f ≠ 0)
theorem readU_yes {x : List UInt8} {a : Int} (h : (readU x a a).f = 0) : ∃ n : Nat, a = n ∧ ReadOk x n (readU x a a) (readU x a 0) := by
  by_cases ha : a < 0 ∨ (x.length : Int) < a
  · rw [show readU x a a = _ from if_pos ha] at h
    simp [failU] at h
  · obtain ⟨n, rfl⟩ := Int.eq_ofNat_of_zero_le (show 0 ≤ a by omega)
    refine ⟨n, rfl, ?_⟩
    have hn : n ≤ x.length := by omega
    have e1 : readU x (n : Int) (n : Int) = runU x (muU x (begU n n)) (begU n n) := if_neg ha
    have e2 : readU x (n : Int) 0 = runU x (muU x (begU n 0)) (begU n 0) := if_neg ha
    have e3 : skipU x (n : Int) = skipF x (x.length - n + 1) n := if_neg ha
    rw [e1] at h
    rw [e1, e2]
    have hi := run_inv x (muU x (begU n n)) _ (begU_inv hn hn)
    obtain ⟨⟨L, hL, hl⟩, h2, h3, _, h5, h6⟩ := run_ok x (muU x (begU n n)) (begU n n) rfl (begU_inv hn hn) (Nat.le_refl _) h
    obtain ⟨b1, b2⟩ := h5 rfl
    obtain ⟨c1, c2⟩ := h6 rfl _ (Nat.le_refl _)
    have hl' : (runU x (muU x (begU n n)) (begU n n)).l = enc L := hl
    have hjr : (runU x (muU x (begU n n)) (begU n n)).j ≤ n := by
      have : (begU n n).j + (begU n n).r = n := Nat.zero_add n
      omega
    refine ⟨hn, ?_, ?_, b1, hi.e, hjr, ?_⟩
    · rw [hl']
      exact chkN_enc hL (by rw [← hl']; exact hi.l)
    · rw [e3]
      exact b2 _ (by show x.length - n < _; omega)
    · by_cases hj : (runU x (muU x (begU n n)) (begU n n)).j = 0
      · have := c1 hj
        have e : runU x (muU x (begU n 0)) (begU n 0) = _ := this
        rw [e]
        exact .inl ⟨hj, h, rfl, rfl⟩
      · exact .inr ⟨hj, c2 hj⟩
end Go.Proofs.YtodedbokeodmkaaGreat
