/-
  What a packer puts is what stood, and more behind; a name that was put is read where it stands: plain mathematics. No condition beyond those that each theorem names.
-/
import Derived.Test.YtjollpgkmcinjaaGreatPkMath
namespace Go.Proofs.YtjollpgkmcinjaaGreat
open Go.RowKit
set_option linter.unusedVariables false

/-- At place a of l the name r is read by n steps; it ends at e. -/
inductive Rds (l : List UInt8) : Nat → List UInt8 → Nat → Nat → Prop
  | nil {a : Nat} (h : l[a]? = some 0) : Rds l a [] (a + 1) 1
  | lab {a : Nat} {c : UInt8} {x r : List UInt8} {e n : Nat} (h : l[a]? = some c) (h1 : 1 ≤ c.toNat) (h2 : c.toNat ≤ 63) (hx : (l.drop a).take (1 + c.toNat) = x) (hl : x.length = 1 + c.toNat) (hr : Rds l (a + (1 + c.toNat)) r e n) : Rds l a (x ++ r) e (n + 1)
  | ptr {a : Nat} {c d : UInt8} {r : List UInt8} {e n : Nat} (h : l[a]? = some c) (h1 : 192 ≤ c.toNat) (hd : l[a + 1]? = some d) (ht : 256 * (c.toNat - 192) + d.toNat < a) (hr : Rds l (256 * (c.toNat - 192) + d.toNat) r e n) : Rds l a r (a + 2) (n + 1)
theorem Rds.lt {l : List UInt8} {a : Nat} {r : List UInt8} {e n : Nat} (h : Rds l a r e n) : a < l.length := by
  cases h with
  | nil h => exact (List.getElem?_eq_some_iff.1 h).1
  | lab h => exact (List.getElem?_eq_some_iff.1 h).1
  | ptr h => exact (List.getElem?_eq_some_iff.1 h).1
theorem get_app {l y : List UInt8} {a : Nat} {c : UInt8} (h : l[a]? = some c) : (l ++ y)[a]? = some c := by
  rw [List.getElem?_append_left (List.getElem?_eq_some_iff.1 h).1]
  exact h
theorem Rds.app {l : List UInt8} (y : List UInt8) {a : Nat} {r : List UInt8} {e n : Nat} (h : Rds l a r e n) : Rds (l ++ y) a r e n := by
  induction h with
  | nil h => exact .nil (get_app h)
  | @lab a c x r e n h h1 h2 hx hl hr ih =>
    refine .lab (get_app h) h1 h2 ?_ hl ih
    have hlt : a ≤ l.length := Nat.le_of_lt (List.getElem?_eq_some_iff.1 h).1
    rw [List.drop_append_of_le_length hlt, List.take_append_of_le_length ?_]
    · exact hx
    · have := congrArg List.length hx
      rw [List.length_take, hl] at this
      omega
  | ptr h h1 hd ht hr ih => exact .ptr (get_app h) h1 (get_app hd) ht ih

/-- Each rest of at most B octets stands where the packer has it. -/
def Marks (s : PS) (B : Nat) : Prop := ∀ q a, s.m q = some a → q.length ≤ B → ∃ e n, Rds s.l a q e n ∧ n ≤ q.length
theorem octs2 (v : Nat) : octs v 2 = [UInt8.ofNat (v / 256), UInt8.ofNat v] := by simp [octs]
theorem num_room {M : Nat} {s : PS} {a : Nat} (hf : s.f = 0) (ha : a < 16384) (h : s.l.length + 2 ≤ M) : numS M s (49152 + a) 2 = (0, { s with l := s.l ++ octs (49152 + a) 2 }) := by
  have hr : room (49152 + a) 2 = true := by
    unfold room
    rw [show isW 2 = true from rfl]
    simp
    omega
  unfold numS
  rw [hf]
  have : numW M s.l 0 (49152 + a) 2 = ⟨0, s.l ++ octs (49152 + a) 2, 0⟩ := by
    unfold numW
    rw [if_neg (by omega), if_neg (by simp [hr]), show (2 : Int).toNat = 2 from rfl, putW_fits (by rw [octs_length]; exact h)]
  rw [this]
theorem ptr_read {l : List UInt8} {a e n : Nat} {r : List UInt8} (ha : a < 16384) (h : Rds l a r e n) : Rds (l ++ octs (49152 + a) 2) l.length r (l.length + 2) (n + 1) := by
  have hlt := h.lt
  have h1 : (UInt8.ofNat ((49152 + a) / 256)).toNat = 192 + a / 256 := by rw [ofNat_val]; omega
  have h2 : (UInt8.ofNat (49152 + a)).toNat = a % 256 := by rw [ofNat_val]; omega
  have hto : 256 * ((UInt8.ofNat ((49152 + a) / 256)).toNat - 192) + (UInt8.ofNat (49152 + a)).toNat = a := by rw [h1, h2]; omega
  refine .ptr (e := e) (c := UInt8.ofNat ((49152 + a) / 256)) (d := UInt8.ofNat (49152 + a)) ?_ (by omega) ?_ (by omega) ?_
  · rw [List.getElem?_append_right (Nat.le_refl _), octs2]; simp
  · rw [List.getElem?_append_right (by omega), octs2]; simp
  · rw [hto]; exact h.app _
theorem nil_read (l : List UInt8) : Rds (l ++ [0]) l.length [] (l.length + 1) 1 := .nil (by simp)

/-- What a name that is put, and its marks, come to. -/
structure Put (M : Nat) (s : PS) (r : List UInt8) (q : Nat × PS) : Prop where
  ok : q.1 = 0
  f : q.2.f = 0
  o : q.2.o = s.o
  l : ∃ y, q.2.l = s.l ++ y ∧ 1 ≤ y.length ∧ y.length ≤ r.length + 1
  read : ∃ n, Rds q.2.l s.l.length r q.2.l.length n ∧ n ≤ r.length + 1
theorem keepS_m {s : PS} {r : List UInt8} {a : Nat} {q : List UInt8} {b : Nat} (h : (keepS s r a).m q = some b) : (q = r ∧ b = a ∧ a < 16384) ∨ s.m q = some b := by
  unfold keepS at h
  split at h
  · rename_i hlt
    simp only [upd] at h
    split at h
    · rename_i e
      cases h
      exact .inl ⟨e, rfl, hlt⟩
    · exact .inr h
  · exact .inr h
theorem keepS_l (s : PS) (r : List UInt8) (a : Nat) : (keepS s r a).l = s.l ∧ (keepS s r a).f = s.f ∧ (keepS s r a).o = s.o := by
  unfold keepS
  split <;> exact ⟨rfl, rfl, rfl⟩
theorem lab_read {l : List UInt8} {a e n : Nat} {r : List UInt8} {c : UInt8} {t : List UInt8} (hr : r = c :: t) (h1 : 1 ≤ c.toNat) (h2 : c.toNat ≤ 63) (h3 : c.toNat ≤ t.length) (hp : ∃ z, l = z ++ headN r ++ l.drop (a + (headN r).length) ∧ z.length = a)
    (h : Rds l (a + (headN r).length) (restN r) e n) : Rds l a r e (n + 1) := by
  obtain ⟨z, hz, rfl⟩ := hp
  have hh : (headN r).length = 1 + c.toNat := by rw [hr, headN_cons, List.length_cons, List.length_take]; omega
  have hd : (l.drop z.length).take (1 + c.toNat) = headN r := by
    rw [hz, List.append_assoc, List.drop_left' rfl, List.take_left' hh]
  have hc : l[z.length]? = some c := by
    rw [hz, List.append_assoc, List.getElem?_append_right (Nat.le_refl _), Nat.sub_self, hr, headN_cons]
    rfl
  rw [hh] at h
  have := Rds.lab hc h1 h2 hd hh h
  rwa [head_rest] at this
theorem nameF_put (M : Nat) : ∀ (k : Nat) (r : List UInt8) (s : PS), r.length < k → Labs r → s.f = 0 → s.l.length + r.length + 1 ≤ M → (∀ q a, s.m q = some a → a < 16384) → Marks s r.length →
    Put M s r (nameF M k r s) ∧ (∀ q a, (nameF M k r s).2.m q = some a → s.m q = some a ∨ ∃ e n, Rds (nameF M k r s).2.l a q e n ∧ n ≤ q.length) ∧ (∀ q a, s.m q = some a → ∃ b, (nameF M k r s).2.m q = some b) ∧ (s.l.length < 16384 → r ≠ [] → ∃ a, (nameF M k r s).2.m r = some a)
  | 0, r, s, h, _, _, _, _, _ => by omega
  | k + 1, r, s, hk, hL, hf, hM, hma, hmk => by
    by_cases hr : r = []
    · subst hr
      rw [nameF_nil, put_room hf (by simpa using hM)]
      exact ⟨⟨rfl, hf, rfl, ⟨[0], rfl, by simp, by simp⟩, ⟨1, by simpa using nil_read s.l, by simp⟩⟩, fun q a h => .inl h, fun q a h => ⟨a, h⟩, fun _ h => absurd rfl h⟩
    · obtain ⟨c, t, hct, hc1, hc2, hc3, hL'⟩ := hL.step hr
      have hrl : 2 ≤ r.length := by rw [hct, List.length_cons]; omega
      rcases hm : s.m r with _ | a
      · have hh : (headN r).length = 1 + c.toNat := by rw [hct, headN_cons, List.length_cons, List.length_take]; omega
        have hsum : (headN r).length + (restN r).length = r.length := by rw [← List.length_append, head_rest]
        have hp := put_room (x := headN r) hf (show s.l.length + (headN r).length ≤ M by omega)
        have hz : (putS M s (headN r)).1 = 0 := by rw [hp]
        rw [nameF_next hr hm hz, hp]
        simp only
        obtain ⟨s1, hs1⟩ : ∃ s1, s1 = keepS { s with l := s.l ++ headN r } r s.l.length := ⟨_, rfl⟩
        have hl1 : s1.l = s.l ++ headN r := by rw [hs1]; exact (keepS_l _ _ _).1
        have hf1 : s1.f = 0 := by rw [hs1]; exact (keepS_l _ _ _).2.1.trans hf
        have ho1 : s1.o = s.o := by rw [hs1]; exact (keepS_l _ _ _).2.2
        have hm1 : ∀ q b, s1.m q = some b → (q = r ∧ b = s.l.length ∧ s.l.length < 16384) ∨ s.m q = some b := fun q b h => keepS_m (s := { s with l := s.l ++ headN r }) (by rw [hs1] at h; exact h)
        have hll : s1.l.length = s.l.length + (headN r).length := by rw [hl1, List.length_append]
        rw [← hs1]
        have hin : s.l.length < 16384 → s1.m r = some s.l.length := fun h => by rw [hs1]; unfold keepS; rw [if_pos h]; simp [upd]
        have hkeep : ∀ q a, s.m q = some a → ∃ b, s1.m q = some b := fun q a h => by
          rw [hs1]; unfold keepS
          split
          · simp only [upd]
            split
            · exact ⟨_, rfl⟩
            · exact ⟨a, h⟩
          · exact ⟨a, h⟩
        clear hs1
        obtain ⟨⟨k1, k2, k3, ⟨y, k4, k5, k6⟩, ⟨n, k7, k8⟩⟩, k9, k10, _⟩ := nameF_put M k (restN r) s1 (by omega) hL' hf1 (by omega) (fun q b hb => by
          rcases hm1 q b hb with ⟨_, rfl, hbig⟩ | h
          · exact hbig
          · exact hma q b h) (fun q b hb hq => by
          rcases hm1 q b hb with ⟨rfl, _⟩ | h
          · omega
          · obtain ⟨e, n, h1, h2⟩ := hmk q b h (by omega)
            exact ⟨e, n, by rw [hl1]; exact h1.app _, h2⟩)
        have hrd : Rds (nameF M k (restN r) s1).2.l s.l.length r (nameF M k (restN r) s1).2.l.length (n + 1) := by
          refine lab_read hct hc1 hc2 hc3 ⟨s.l, ?_, rfl⟩ ?_
          · rw [k4, hl1, List.drop_left' (by rw [List.length_append])]
          · rw [← hll]; exact k7
        refine ⟨⟨k1, k2, k3.trans ho1, ⟨headN r ++ y, by rw [k4, hl1, List.append_assoc], by rw [List.length_append]; omega, by rw [List.length_append]; omega⟩, ⟨n + 1, hrd, by omega⟩⟩, fun q b hb => ?_, fun q b hb => ?_, fun h _ => ?_⟩
        · rcases k9 q b hb with h | h
          · rcases hm1 q b h with ⟨rfl, rfl, _⟩ | h'
            · exact .inr ⟨_, _, hrd, by omega⟩
            · exact .inl h'
          · exact .inr h
        · obtain ⟨b', hb'⟩ := hkeep q b hb
          exact k10 q b' hb'
        · exact k10 r _ (hin h)
      · have ha := hma r a hm
        rw [nameF_some hr hm, num_room hf ha (by omega)]
        obtain ⟨e, n, h1, h2⟩ := hmk r a hm (Nat.le_refl _)
        refine ⟨⟨rfl, hf, rfl, ⟨octs (49152 + a) 2, rfl, by rw [octs_length]; omega, by rw [octs_length]; omega⟩, ⟨n + 1, ?_, by omega⟩⟩, fun q a h => .inl h, fun q a h => ⟨a, h⟩, fun _ _ => ⟨a, hm⟩⟩
        simp only [List.length_append, octs_length]
        exact ptr_read ha h1

/-- A packer without an error, each of whose marks is read. -/
structure GoodP (s : PS) : Prop where
  f : s.f = 0
  marks : ∀ q a, s.m q = some a → ∃ e n, Rds s.l a q e n ∧ n ≤ q.length
theorem good0 : GoodP ps0 := ⟨rfl, fun _ _ h => nomatch h⟩
theorem GoodP.app {s : PS} (h : GoodP s) (y : List UInt8) : GoodP { s with l := s.l ++ y } := ⟨h.f, fun q a hq => by
  obtain ⟨e, n, h1, h2⟩ := h.marks q a hq
  exact ⟨e, n, h1.app y, h2⟩⟩
theorem nameS_run' {M : Nat} {s : PS} {x : List UInt8} (hf : s.f = 0) (hc : chkN x = 0) : nameS M s x = nameF M (x.length + 1) x s ∧ plainS M s x = plainF M (x.length + 1) x s := by
  simp [nameS, plainS, hf, hc]
theorem nameS_bad {M : Nat} {s : PS} {x : List UInt8} (hf : s.f = 0) (hc : chkN x ≠ 0) : nameS M s x = (chkN x, s) ∧ plainS M s x = (chkN x, s) := by
  simp [nameS, plainS, hf, hc]
theorem nameS_good {M : Nat} {s : PS} {x : List UInt8} (h : GoodP s) (hi : Inv M s) (hc : chkN x = 0) (hM : s.l.length + x.length + 1 ≤ M) :
    Put M s x (nameS M s x) ∧ GoodP (nameS M s x).2 ∧ (s.l.length < 16384 → x ≠ [] → ∃ a, (nameS M s x).2.m x = some a) := by
  rw [(nameS_run' h.f hc).1]
  obtain ⟨h1, h2, _, h4⟩ := nameF_put M (x.length + 1) x s (by omega) (labs_of_chk hc) h.f hM hi.mark (fun q a hq _ => h.marks q a hq)
  refine ⟨h1, ⟨h1.f, fun q a hq => ?_⟩, h4⟩
  rcases h2 q a hq with h' | h'
  · obtain ⟨e, n, h5, h6⟩ := h.marks q a h'
    obtain ⟨y, hy, _⟩ := h1.l
    exact ⟨e, n, by rw [hy]; exact h5.app y, h6⟩
  · exact h'
theorem plainF_put (M : Nat) : ∀ (k : Nat) (r : List UInt8) (s : PS), r.length < k → Labs r → s.f = 0 → s.l.length + r.length + 1 ≤ M →
    plainF M k r s = (0, { s with l := s.l ++ (r ++ [0]) }) ∧ ∃ n, Rds (s.l ++ (r ++ [0])) s.l.length r (s.l.length + (r.length + 1)) n ∧ n ≤ r.length + 1
  | 0, r, s, h, _, _, _ => by omega
  | k + 1, r, s, hk, hL, hf, hM => by
    by_cases hr : r = []
    · subst hr
      rw [plainF_nil, put_room hf (by simpa using hM)]
      exact ⟨rfl, 1, nil_read s.l, by simp⟩
    · obtain ⟨c, t, hct, hc1, hc2, hc3, hL'⟩ := hL.step hr
      have hh : (headN r).length = 1 + c.toNat := by rw [hct, headN_cons, List.length_cons, List.length_take]; omega
      have hsum : (headN r).length + (restN r).length = r.length := by rw [← List.length_append, head_rest]
      have hp := put_room (x := headN r) hf (show s.l.length + (headN r).length ≤ M by omega)
      rw [plainF_next hr (by rw [hp]), hp]
      obtain ⟨h1, n, h2, h3⟩ := plainF_put M k (restN r) { s with l := s.l ++ headN r } (by omega) hL' hf (by simp only [List.length_append]; omega)
      have he : (s.l ++ headN r) ++ (restN r ++ [0]) = s.l ++ (r ++ [0]) := by
        conv => rhs; rw [← head_rest r]
        simp [List.append_assoc]
      simp only at h1 h2
      rw [he] at h1 h2
      rw [h1]
      refine ⟨rfl, n + 1, ?_, by omega⟩
      refine lab_read hct hc1 hc2 hc3 ⟨s.l, ?_, rfl⟩ ?_
      · rw [← he, List.drop_left' (by rw [List.length_append])]
      · rw [List.length_append] at h2
        have e : s.l.length + (headN r).length + ((restN r).length + 1) = s.l.length + (r.length + 1) := by omega
        rw [e] at h2
        exact h2
theorem plainS_good {M : Nat} {s : PS} {x : List UInt8} (h : GoodP s) (hc : chkN x = 0) (hM : s.l.length + x.length + 1 ≤ M) :
    Put M s x (plainS M s x) ∧ GoodP (plainS M s x).2 := by
  rw [(nameS_run' h.f hc).2]
  obtain ⟨h1, n, h2, h3⟩ := plainF_put M (x.length + 1) x s (by omega) (labs_of_chk hc) h.f hM
  rw [h1]
  refine ⟨⟨rfl, h.f, rfl, ⟨x ++ [0], rfl, by simp, by simp⟩, n, ?_, h3⟩, h.app _⟩
  simp only [List.length_append, List.length_cons, List.length_nil]
  simpa using h2
/-- A name that stands already comes to two octets. -/
theorem nameS_again {M a : Nat} {s : PS} {x : List UInt8} (h : GoodP s) (hi : Inv M s) (hc : chkN x = 0) (hx : x ≠ []) (hm : s.m x = some a) (hM : s.l.length + 2 ≤ M) :
    nameS M s x = (0, { s with l := s.l ++ octs (49152 + a) 2 }) := by
  rw [(nameS_run' h.f hc).1, nameF_some hx hm, num_room h.f (hi.mark _ _ hm) hM]
end Go.Proofs.YtjollpgkmcinjaaGreat
