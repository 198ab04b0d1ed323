/-
  What a packer puts is what stood, and more behind; a name that was put is read where it stands: plain mathematics. No condition beyond those that each theorem names. What texts come to when they are put, and raw octets: plain mathematics. Conditions as stated. Unlike data have unlike octets where nothing stands ahead: plain mathematics. Conditions as stated. Unlike data have unlike octets where nothing stands ahead: the parts, the kinds: plain mathematics. Conditions as stated. Unlike data have unlike octets where nothing stands ahead: the kinds, the types: plain mathematics. Conditions as stated. The ninth stage's own example (lives) comes out true, whatever the memory. No condition. The kit's LightData tells something, whatever the data. Conditions: the data can be read. Names that stand where they are read, by labels, pointers, the nought: what reading them answers: plain mathematics. No condition beyond those that each theorem names. A name that is put is read where it stands, by the reader's own rules (a pointer leads ahead of its run): plain mathematics. Conditions as stated. What is put of a part is read back: plain mathematics. Conditions as stated. What is put of data is read back, one octet less is not, one more leaves one: plain mathematics. Conditions as stated. Data of a type that are put are read back; one octet more, one less: plain mathematics. Conditions as stated. The kit's LightData, of data that may be: just if there are no more than 2,000 octets. Conditions: the data can be read; few octets in all. The seventh stage's own example (lives) comes out true, whatever the memory; two packers beside one another: the walk. No condition.
-/
import Derived.Test.YtodedbokeodmkaaGreatZk4
import Derived.Test.YtodedbokeodmkaaGreatZk41
import Derived.Deep.RegionHeld3
import Derived.Test.YtodedbokeodmkaaGreatZk6
import Derived.Test.YtodedbokeodmkaaGreatZk24
namespace Go.Proofs.YtodedbokeodmkaaGreat
open Go.RowKit
set_option linter.unusedVariables false

/-- At place a of l the name r is read by n steps; it ends at e. -/
inductive Rds (l : List UInt8) : Nat → List UInt8 → Nat → Nat → Prop
  | nil {a : Nat} (h : l[a]? = some 0) : Rds l a [] (a + 1) 1
  | lab {a : Nat} {c : UInt8} {x r : List UInt8} {e n : Nat} (h : l[a]? = some c) (h1 : 1 ≤ c.toNat) (h2 : c.toNat ≤ 63) (hx : (l.drop a).take (1 + c.toNat) = x) (hl : x.length = 1 + c.toNat) (hr : Rds l (a + (1 + c.toNat)) r e n) : Rds l a (x ++ r) e (n + 1)
  | ptr {a : Nat} {c d : UInt8} {r : List UInt8} {e n : Nat} (h : l[a]? = some c) (h1 : 192 ≤ c.toNat) (hd : l[a + 1]? = some d) (ht : 256 * (c.toNat - 192) + d.toNat < a) (hr : Rds l (256 * (c.toNat - 192) + d.toNat) r e n) : Rds l a r (a + 2) (n + 1)
theorem Rds.lt {l : List UInt8} {a : Nat} {r : List UInt8} {e n : Nat} (h : Rds l a r e n) : a < l.length := by
  cases h with
  | nil h => exact (List.getElem?_eq_some_iff.1 h).1
  | lab h => exact (List.getElem?_eq_some_iff.1 h).1
  | ptr h => exact (List.getElem?_eq_some_iff.1 h).1
theorem get_app {l y : List UInt8} {a : Nat} {c : UInt8} (h : l[a]? = some c) : (l ++ y)[a]? = some c := by
  rw [List.getElem?_append_left (List.getElem?_eq_some_iff.1 h).1]
  exact h
theorem Rds.app {l : List UInt8} (y : List UInt8) {a : Nat} {r : List UInt8} {e n : Nat} (h : Rds l a r e n) : Rds (l ++ y) a r e n := by
  induction h with
  | nil h => exact .nil (get_app h)
  | @lab a c x r e n h h1 h2 hx hl hr ih =>
    refine .lab (get_app h) h1 h2 ?_ hl ih
    have hlt : a ≤ l.length := Nat.le_of_lt (List.getElem?_eq_some_iff.1 h).1
    rw [List.drop_append_of_le_length hlt, List.take_append_of_le_length ?_]
    · exact hx
    · have := congrArg List.length hx
      rw [List.length_take, hl] at this
      omega
  | ptr h h1 hd ht hr ih => exact .ptr (get_app h) h1 (get_app hd) ht ih

/-- Each rest of at most B octets stands where the packer has it. -/
def Marks (s : PS) (B : Nat) : Prop := ∀ q a, s.m q = some a → q.length ≤ B → ∃ e n, Rds s.l a q e n ∧ n ≤ q.length
theorem octs2 (v : Nat) : octs v 2 = [UInt8.ofNat (v / 256), UInt8.ofNat v] := by simp [octs]
theorem num_room {M : Nat} {s : PS} {a : Nat} (hf : s.f = 0) (ha : a < 16384) (h : s.l.length + 2 ≤ M) : numS M s (49152 + a) 2 = (0, { s with l := s.l ++ octs (49152 + a) 2 }) := by
  have hr : room (49152 + a) 2 = true := by
    unfold room
    rw [show isW 2 = true from rfl]
    simp
    omega
  unfold numS
  rw [hf]
  have : numW M s.l 0 (49152 + a) 2 = ⟨0, s.l ++ octs (49152 + a) 2, 0⟩ := by
    unfold numW
    rw [if_neg (by omega), if_neg (by simp [hr]), show (2 : Int).toNat = 2 from rfl, putW_fits (by rw [octs_length]; exact h)]
  rw [this]
theorem ptr_read {l : List UInt8} {a e n : Nat} {r : List UInt8} (ha : a < 16384) (h : Rds l a r e n) : Rds (l ++ octs (49152 + a) 2) l.length r (l.length + 2) (n + 1) := by
  have hlt := h.lt
  have h1 : (UInt8.ofNat ((49152 + a) / 256)).toNat = 192 + a / 256 := by rw [ofNat_val]; omega
  have h2 : (UInt8.ofNat (49152 + a)).toNat = a % 256 := by rw [ofNat_val]; omega
  have hto : 256 * ((UInt8.ofNat ((49152 + a) / 256)).toNat - 192) + (UInt8.ofNat (49152 + a)).toNat = a := by rw [h1, h2]; omega
  refine .ptr (e := e) (c := UInt8.ofNat ((49152 + a) / 256)) (d := UInt8.ofNat (49152 + a)) ?_ (by omega) ?_ (by omega) ?_
  · rw [List.getElem?_append_right (Nat.le_refl _), octs2]; simp
  · rw [List.getElem?_append_right (by omega), octs2]; simp
  · rw [hto]; exact h.app _
theorem nil_read (l : List UInt8) : Rds (l ++ [0]) l.length [] (l.length + 1) 1 := .nil (by simp)

/-- What a name that is put, and its marks, come to. -/
structure Put (M : Nat) (s : PS) (r : List UInt8) (q : Nat × PS) : Prop where
  ok : q.1 = 0
  f : q.2.f = 0
  o : q.2.o = s.o
  l : ∃ y, q.2.l = s.l ++ y ∧ 1 ≤ y.length ∧ y.length ≤ r.length + 1
  read : ∃ n, Rds q.2.l s.l.length r q.2.l.length n ∧ n ≤ r.length + 1
theorem keepS_m {s : PS} {r : List UInt8} {a : Nat} {q : List UInt8} {b : Nat} (h : (keepS s r a).m q = some b) : (q = r ∧ b = a ∧ a < 16384) ∨ s.m q = some b := by
  unfold keepS at h
  split at h
  · rename_i hlt
    simp only [upd] at h
    split at h
    · rename_i e
      cases h
      exact .inl ⟨e, rfl, hlt⟩
    · exact .inr h
  · exact .inr h
theorem keepS_l (s : PS) (r : List UInt8) (a : Nat) : (keepS s r a).l = s.l ∧ (keepS s r a).f = s.f ∧ (keepS s r a).o = s.o := by
  unfold keepS
  split <;> exact ⟨rfl, rfl, rfl⟩
theorem lab_read {l : List UInt8} {a e n : Nat} {r : List UInt8} {c : UInt8} {t : List UInt8} (hr : r = c :: t) (h1 : 1 ≤ c.toNat) (h2 : c.toNat ≤ 63) (h3 : c.toNat ≤ t.length) (hp : ∃ z, l = z ++ headN r ++ l.drop (a + (headN r).length) ∧ z.length = a)
    (h : Rds l (a + (headN r).length) (restN r) e n) : Rds l a r e (n + 1) := by
  obtain ⟨z, hz, rfl⟩ := hp
  have hh : (headN r).length = 1 + c.toNat := by rw [hr, headN_cons, List.length_cons, List.length_take]; omega
  have hd : (l.drop z.length).take (1 + c.toNat) = headN r := by
    rw [hz, List.append_assoc, List.drop_left' rfl, List.take_left' hh]
  have hc : l[z.length]? = some c := by
    rw [hz, List.append_assoc, List.getElem?_append_right (Nat.le_refl _), Nat.sub_self, hr, headN_cons]
    rfl
  rw [hh] at h
  have := Rds.lab hc h1 h2 hd hh h
  rwa [head_rest] at this
theorem nameF_put (M : Nat) : ∀ (k : Nat) (r : List UInt8) (s : PS), r.length < k → Labs r → s.f = 0 → s.l.length + r.length + 1 ≤ M → (∀ q a, s.m q = some a → a < 16384) → Marks s r.length →
    Put M s r (nameF M k r s) ∧ (∀ q a, (nameF M k r s).2.m q = some a → s.m q = some a ∨ ∃ e n, Rds (nameF M k r s).2.l a q e n ∧ n ≤ q.length) ∧ (∀ q a, s.m q = some a → ∃ b, (nameF M k r s).2.m q = some b) ∧ (s.l.length < 16384 → r ≠ [] → ∃ a, (nameF M k r s).2.m r = some a)
  | 0, r, s, h, _, _, _, _, _ => by omega
  | k + 1, r, s, hk, hL, hf, hM, hma, hmk => by
    by_cases hr : r = []
    · subst hr
      rw [nameF_nil, put_room hf (by simpa using hM)]
      exact ⟨⟨rfl, hf, rfl, ⟨[0], rfl, by simp, by simp⟩, ⟨1, by simpa using nil_read s.l, by simp⟩⟩, fun q a h => .inl h, fun q a h => ⟨a, h⟩, fun _ h => absurd rfl h⟩
    · obtain ⟨c, t, hct, hc1, hc2, hc3, hL'⟩ := hL.step hr
      have hrl : 2 ≤ r.length := by rw [hct, List.length_cons]; omega
      rcases hm : s.m r with _ | a
      · have hh : (headN r).length = 1 + c.toNat := by rw [hct, headN_cons, List.length_cons, List.length_take]; omega
        have hsum : (headN r).length + (restN r).length = r.length := by rw [← List.length_append, head_rest]
        have hp := put_room (x := headN r) hf (show s.l.length + (headN r).length ≤ M by omega)
        have hz : (putS M s (headN r)).1 = 0 := by rw [hp]
        rw [nameF_next hr hm hz, hp]
        simp only
        obtain ⟨s1, hs1⟩ : ∃ s1, s1 = keepS { s with l := s.l ++ headN r } r s.l.length := ⟨_, rfl⟩
        have hl1 : s1.l = s.l ++ headN r := by rw [hs1]; exact (keepS_l _ _ _).1
        have hf1 : s1.f = 0 := by rw [hs1]; exact (keepS_l _ _ _).2.1.trans hf
        have ho1 : s1.o = s.o := by rw [hs1]; exact (keepS_l _ _ _).2.2
        have hm1 : ∀ q b, s1.m q = some b → (q = r ∧ b = s.l.length ∧ s.l.length < 16384) ∨ s.m q = some b := fun q b h => keepS_m (s := { s with l := s.l ++ headN r }) (by rw [hs1] at h; exact h)
        have hll : s1.l.length = s.l.length + (headN r).length := by rw [hl1, List.length_append]
        rw [← hs1]
        have hin : s.l.length < 16384 → s1.m r = some s.l.length := fun h => by rw [hs1]; unfold keepS; rw [if_pos h]; simp [upd]
        have hkeep : ∀ q a, s.m q = some a → ∃ b, s1.m q = some b := fun q a h => by
          rw [hs1]; unfold keepS
          split
          · simp only [upd]
            split
            · exact ⟨_, rfl⟩
            · exact ⟨a, h⟩
          · exact ⟨a, h⟩
        clear hs1
        obtain ⟨⟨k1, k2, k3, ⟨y, k4, k5, k6⟩, ⟨n, k7, k8⟩⟩, k9, k10, _⟩ := nameF_put M k (restN r) s1 (by omega) hL' hf1 (by omega) (fun q b hb => by
          rcases hm1 q b hb with ⟨_, rfl, hbig⟩ | h
          · exact hbig
          · exact hma q b h) (fun q b hb hq => by
          rcases hm1 q b hb with ⟨rfl, _⟩ | h
          · omega
          · obtain ⟨e, n, h1, h2⟩ := hmk q b h (by omega)
            exact ⟨e, n, by rw [hl1]; exact h1.app _, h2⟩)
        have hrd : Rds (nameF M k (restN r) s1).2.l s.l.length r (nameF M k (restN r) s1).2.l.length (n + 1) := by
          refine lab_read hct hc1 hc2 hc3 ⟨s.l, ?_, rfl⟩ ?_
          · rw [k4, hl1, List.drop_left' (by rw [List.length_append])]
          · rw [← hll]; exact k7
        refine ⟨⟨k1, k2, k3.trans ho1, ⟨headN r ++ y, by rw [k4, hl1, List.append_assoc], by rw [List.length_append]; omega, by rw [List.length_append]; omega⟩, ⟨n + 1, hrd, by omega⟩⟩, fun q b hb => ?_, fun q b hb => ?_, fun h _ => ?_⟩
        · rcases k9 q b hb with h | h
          · rcases hm1 q b h with ⟨rfl, rfl, _⟩ | h'
            · exact .inr ⟨_, _, hrd, by omega⟩
            · exact .inl h'
          · exact .inr h
        · obtain ⟨b', hb'⟩ := hkeep q b hb
          exact k10 q b' hb'
        · exact k10 r _ (hin h)
      · have ha := hma r a hm
        rw [nameF_some hr hm, num_room hf ha (by omega)]
        obtain ⟨e, n, h1, h2⟩ := hmk r a hm (Nat.le_refl _)
        refine ⟨⟨rfl, hf, rfl, ⟨octs (49152 + a) 2, rfl, by rw [octs_length]; omega, by rw [octs_length]; omega⟩, ⟨n + 1, ?_, by omega⟩⟩, fun q a h => .inl h, fun q a h => ⟨a, h⟩, fun _ _ => ⟨a, hm⟩⟩
        simp only [List.length_append, octs_length]
        exact ptr_read ha h1

/-- A packer without an error, each of whose marks is read. -/
structure GoodP (s : PS) : Prop where
  f : s.f = 0
  marks : ∀ q a, s.m q = some a → ∃ e n, Rds s.l a q e n ∧ n ≤ q.length
theorem good0 : GoodP ps0 := ⟨rfl, fun _ _ h => nomatch h⟩
theorem GoodP.app {s : PS} (h : GoodP s) (y : List UInt8) : GoodP { s with l := s.l ++ y } := ⟨h.f, fun q a hq => by
  obtain ⟨e, n, h1, h2⟩ := h.marks q a hq
  exact ⟨e, n, h1.app y, h2⟩⟩
theorem nameS_run' {M : Nat} {s : PS} {x : List UInt8} (hf : s.f = 0) (hc : chkN x = 0) : nameS M s x = nameF M (x.length + 1) x s ∧ plainS M s x = plainF M (x.length + 1) x s := by
  simp [nameS, plainS, hf, hc]
theorem nameS_good {M : Nat} {s : PS} {x : List UInt8} (h : GoodP s) (hi : Inv M s) (hc : chkN x = 0) (hM : s.l.length + x.length + 1 ≤ M) :
    Put M s x (nameS M s x) ∧ GoodP (nameS M s x).2 ∧ (s.l.length < 16384 → x ≠ [] → ∃ a, (nameS M s x).2.m x = some a) := by
  rw [(nameS_run' h.f hc).1]
  obtain ⟨h1, h2, _, h4⟩ := nameF_put M (x.length + 1) x s (by omega) (labs_of_chk hc) h.f hM hi.mark (fun q a hq _ => h.marks q a hq)
  refine ⟨h1, ⟨h1.f, fun q a hq => ?_⟩, h4⟩
  rcases h2 q a hq with h' | h'
  · obtain ⟨e, n, h5, h6⟩ := h.marks q a h'
    obtain ⟨y, hy, _⟩ := h1.l
    exact ⟨e, n, by rw [hy]; exact h5.app y, h6⟩
  · exact h'
theorem plainF_put (M : Nat) : ∀ (k : Nat) (r : List UInt8) (s : PS), r.length < k → Labs r → s.f = 0 → s.l.length + r.length + 1 ≤ M →
    plainF M k r s = (0, { s with l := s.l ++ (r ++ [0]) }) ∧ ∃ n, Rds (s.l ++ (r ++ [0])) s.l.length r (s.l.length + (r.length + 1)) n ∧ n ≤ r.length + 1
  | 0, r, s, h, _, _, _ => by omega
  | k + 1, r, s, hk, hL, hf, hM => by
    by_cases hr : r = []
    · subst hr
      rw [plainF_nil, put_room hf (by simpa using hM)]
      exact ⟨rfl, 1, nil_read s.l, by simp⟩
    · obtain ⟨c, t, hct, hc1, hc2, hc3, hL'⟩ := hL.step hr
      have hh : (headN r).length = 1 + c.toNat := by rw [hct, headN_cons, List.length_cons, List.length_take]; omega
      have hsum : (headN r).length + (restN r).length = r.length := by rw [← List.length_append, head_rest]
      have hp := put_room (x := headN r) hf (show s.l.length + (headN r).length ≤ M by omega)
      rw [plainF_next hr (by rw [hp]), hp]
      obtain ⟨h1, n, h2, h3⟩ := plainF_put M k (restN r) { s with l := s.l ++ headN r } (by omega) hL' hf (by simp only [List.length_append]; omega)
      have he : (s.l ++ headN r) ++ (restN r ++ [0]) = s.l ++ (r ++ [0]) := by
        conv => rhs; rw [← head_rest r]
        simp [List.append_assoc]
      simp only at h1 h2
      rw [he] at h1 h2
      rw [h1]
      refine ⟨rfl, n + 1, ?_, by omega⟩
      refine lab_read hct hc1 hc2 hc3 ⟨s.l, ?_, rfl⟩ ?_
      · rw [← he, List.drop_left' (by rw [List.length_append])]
      · rw [List.length_append] at h2
        have e : s.l.length + (headN r).length + ((restN r).length + 1) = s.l.length + (r.length + 1) := by omega
        rw [e] at h2
        exact h2
theorem plainS_good {M : Nat} {s : PS} {x : List UInt8} (h : GoodP s) (hc : chkN x = 0) (hM : s.l.length + x.length + 1 ≤ M) :
    Put M s x (plainS M s x) ∧ GoodP (plainS M s x).2 := by
  rw [(nameS_run' h.f hc).2]
  obtain ⟨h1, n, h2, h3⟩ := plainF_put M (x.length + 1) x s (by omega) (labs_of_chk hc) h.f hM
  rw [h1]
  refine ⟨⟨rfl, h.f, rfl, ⟨x ++ [0], rfl, by simp, by simp⟩, n, ?_, h3⟩, h.app _⟩
  simp only [List.length_append, List.length_cons, List.length_nil]
  simpa using h2
end Go.Proofs.YtodedbokeodmkaaGreat
namespace Go.Proofs.YtodedbokeodmkaaGreat
open Go.RowKit
set_option linter.unusedVariables false

/-- Texts as they are put: each its length and its octets. -/
def txB (L : List ByteArray) : List UInt8 := L.flatMap fun x => UInt8.ofNat x.size :: bs x
theorem txB_cons (x : ByteArray) (L : List ByteArray) : txB (x :: L) = (UInt8.ofNat x.size :: bs x) ++ txB L := by simp [txB]
theorem txB_length : ∀ L : List ByteArray, (txB L).length = sizeT L
  | [] => rfl
  | x :: r => by
    rw [txB_cons, List.length_append, txB_length r]
    show (bs x).length + 1 + _ = _
    rw [bs_length]
    simp [sizeT]
    omega
theorem room1 {v : Nat} (h : v ≤ 255) : room v 1 = true := by
  simp [room, isW]
  omega
theorem num1 {M : Nat} {s : PS} {v : Nat} (hf : s.f = 0) (hv : v ≤ 255) (hl : s.l.length + 1 ≤ M) : numS M s v 1 = (0, { s with l := s.l ++ [UInt8.ofNat v] }) := by
  unfold numS numW
  rw [room1 hv, hf]
  unfold putW
  rw [if_neg (by simp), if_neg (by simp), if_neg (by simp), if_neg (by simp [octs]; omega)]
  simp [octs]
theorem put0 {M : Nat} {s : PS} {x : List UInt8} (hf : s.f = 0) (hl : s.l.length + x.length ≤ M) : putS M s x = (0, { s with l := s.l ++ x }) := by
  unfold putS putW
  rw [hf, if_neg (by simp), if_neg (by omega)]
theorem text1 {M : Nat} {s : PS} {x : ByteArray} (hf : s.f = 0) (hx : x.size ≤ 255) (hl : s.l.length + (1 + x.size) ≤ M) : textS1 M s x = (0, { s with l := s.l ++ (UInt8.ofNat x.size :: bs x) }) := by
  unfold textS1
  rw [num1 hf hx (by omega), if_pos rfl]
  dsimp only
  rw [put0 (s := { s with l := s.l ++ [UInt8.ofNat x.size] }) hf (by simp [bs_length]; omega)]
  simp
theorem texts_put {M : Nat} : ∀ (L : List ByteArray) (s : PS), s.f = 0 → (∀ x ∈ L, x.size ≤ 255) → s.l.length + sizeT L ≤ M → textsS M L s = (0, { s with l := s.l ++ txB L })
  | [], s, _, _, _ => by simp [textsS, txB]
  | x :: r, s, hf, hx, hl => by
    have h2 := hx x List.mem_cons_self
    have hsz : sizeT (x :: r) = 1 + x.size + sizeT r := by simp [sizeT]
    unfold textsS
    rw [text1 hf h2 (by omega), if_pos rfl]
    dsimp only
    rw [texts_put r { s with l := s.l ++ (UInt8.ofNat x.size :: bs x) } hf (fun y hy => hx y (List.mem_cons_of_mem _ hy)) (by simp [bs_length]; omega), txB_cons]
    simp
theorem chkT_long {L : List ByteArray} {x : ByteArray} (hx : x ∈ L) (h : 255 < x.size) : chkT L = 3 := by
  unfold chkT
  rw [if_pos]
  simp
  exact ⟨x, hx, h⟩
theorem mkb_bs (r : ByteArray) : mkb (bs r) = r := by
  unfold mkb bs
  simp
end Go.Proofs.YtodedbokeodmkaaGreat
namespace Go.Proofs.YtodedbokeodmkaaGreat
open Go.RowKit
set_option linter.unusedVariables false

/-- A name that is read by steps is one name. -/
theorem Rds.one {l : List UInt8} {a e n : Nat} {r : List UInt8} (h : Rds l a r e n) : ∀ {r' : List UInt8} {e' n' : Nat}, Rds l a r' e' n' → r = r' := by
  induction h with
  | nil h =>
    intro r' e' n' h'
    cases h' with
    | nil _ => rfl
    | lab g g1 g2 => rw [h] at g; injection g with g; rw [← g] at g1; simp at g1
    | ptr g g1 => rw [h] at g; injection g with g; rw [← g] at g1; simp at g1
  | @lab a c x r e n h h1 h2 hx hl hr ih =>
    intro r' e' n' h'
    cases h' with
    | nil g => rw [h] at g; injection g with g; rw [g] at h1; simp at h1
    | lab g g1 g2 gx gl gr =>
      rw [h] at g
      injection g with g
      subst g
      rw [← hx, ← gx, ih gr]
    | ptr g g1 => rw [h] at g; injection g with g; rw [← g] at g1; omega
  | @ptr a c d r e n h h1 hd ht hr ih =>
    intro r' e' n' h'
    cases h' with
    | nil g => rw [h] at g; injection g with g; rw [g] at h1; simp at h1
    | lab g g1 g2 gx gl gr => rw [h] at g; injection g with g; rw [← g] at g2; omega
    | ptr g g1 gd gt gr =>
      rw [h] at g
      injection g with g
      subst g
      rw [hd] at gd
      injection gd with gd
      subst gd
      exact ih gr

/-! ### Numbers -/
def numsB : List Nat → List Nat → List UInt8
  | v :: vs, n :: ns => octs v n ++ numsB vs ns
  | _, _ => []
theorem wide_lt {v n : Nat} (h : wideN v n = false) : v < 256 ^ n := by
  simp only [wideN, ne_eq, decide_not, Bool.not_eq_false', decide_eq_true_eq] at h
  have h2 : 2 ^ (8 * n) = 256 ^ n := by rw [Nat.pow_mul]
  rw [h2] at h
  exact (Nat.div_eq_zero_iff_lt (Nat.pow_pos (by decide))).1 h
theorem chkW_two {v n : Nat} {vs ns : List Nat} (h : chkW (v :: vs) (n :: ns) = 0) : v < 256 ^ n ∧ chkW vs ns = 0 := by
  unfold chkW at h
  cases hw : wideN v n
  · rw [hw] at h
    exact ⟨wide_lt hw, by simpa using h⟩
  · rw [hw] at h
    simp at h
theorem numS_ok {M : Nat} {s : PS} {v n : Nat} (hf : s.f = 0) (h0 : n ≠ 0) (h4 : n ≤ 4) (hv : v < 256 ^ n) (hl : s.l.length + n ≤ M) : numS M s v n = (0, { s with l := s.l ++ octs v n }) := by
  have hr : room v n = true := by
    unfold room isW
    simp
    exact ⟨by omega, hv⟩
  unfold numS numW
  rw [hr, hf]
  unfold putW
  rw [if_neg (by simp), if_neg (by simp), if_neg (by simp), if_neg (by simp [octs_length]; omega)]
  simp
theorem nums_put {M : Nat} : ∀ (vs ns : List Nat) (s : PS), vs.length = ns.length → (∀ n ∈ ns, n ≤ 4) → chkW vs ns = 0 → s.f = 0 → s.l.length + 4 * ns.length ≤ M → numsS M vs ns s = (0, { s with l := s.l ++ numsB vs ns }) ∧ (numsB vs ns).length ≤ 4 * ns.length
  | [], [], s, _, _, _, _, _ => by simp [numsS, numsB]
  | [], _ :: _, _, h, _, _, _, _ => by simp at h
  | _ :: _, [], _, h, _, _, _, _ => by simp at h
  | v :: vs, n :: ns, s, hl, h4, hc, hf, hM => by
    obtain ⟨hv, hc'⟩ := chkW_two hc
    have hn4 := h4 n List.mem_cons_self
    simp only [List.length_cons] at hl hM
    have h4' : ∀ n ∈ ns, n ≤ 4 := fun m hm => h4 m (List.mem_cons_of_mem _ hm)
    have hB : (octs v n ++ numsB vs ns) = numsB (v :: vs) (n :: ns) := rfl
    unfold numsS
    by_cases h0 : n = 0
    · subst h0
      obtain ⟨h1, h2⟩ := nums_put (M := M) vs ns s (by omega) h4' hc' hf (by omega)
      rw [if_pos rfl, h1]
      have : numsB (v :: vs) (0 :: ns) = numsB vs ns := rfl
      rw [this]
      exact ⟨rfl, by simp only [List.length_cons]; omega⟩
    · obtain ⟨h1, h2⟩ := nums_put (M := M) vs ns { s with l := s.l ++ octs v n } (by omega) h4' hc' hf (by simp [octs_length]; omega)
      rw [if_neg h0, numS_ok hf h0 hn4 hv (by omega), if_pos rfl]
      dsimp only
      rw [h1, ← hB]
      exact ⟨by simp, by simp only [List.length_append, octs_length, List.length_cons]; omega⟩
/-! ### Addresses -/
theorem chkA_lo {a : Ad} (hc : chkA a = 0) (h : a.1 = false) : a.2.1 = 0 ∧ a.2.2 < 4294967296 := by
  unfold chkA at hc
  split at hc
  · cases hc
  · rename_i hn
    constructor
    · exact Decidable.byContradiction fun hx => hn ⟨h, .inl hx⟩
    · exact Decidable.byContradiction fun hx => hn ⟨h, .inr (by omega)⟩
theorem octA_size (a : Ad) : (octA a).length = if a.1 then 16 else 4 := by
  obtain ⟨six, hi, lo⟩ := a
  cases six
  · exact octs_length 4 lo
  · show (allO (true, hi, lo)).length = 16
    simp [allO, octs_length]
end Go.Proofs.YtodedbokeodmkaaGreat
namespace Go.Proofs.YtodedbokeodmkaaGreat
open Go.RowKit
set_option linter.unusedVariables false

theorem nameF_invU {M : Nat} : ∀ (k : Nat) (r : List UInt8) (s : PS), Inv M s → Inv M (nameF M k r s).2
  | 0, _, _, h => h
  | k + 1, r, s, h => by
    unfold nameF
    split
    · exact h.put _
    · split
      · exact h.num _ _
      · split
        · exact nameF_invU k _ _ ((h.put _).keep _ _)
        · exact h.put _
theorem nameS_invU {M : Nat} {s : PS} (h : Inv M s) (x : List UInt8) : Inv M (nameS M s x).2 := by
  unfold nameS
  split
  · exact h
  · split
    · exact h
    · exact nameF_invU _ _ _ h
/-- What one part that is put comes to: more octets at the end, few; it was put; the packer stays good. -/
structure PartOk (s : PS) (q : Nat × PS) : Prop where
  ok : q.1 = 0
  good : GoodP q.2
  inv : Inv 65535 q.2
  l : ∃ y, q.2.l = s.l ++ y ∧ y.length ≤ 255
def wired : Pt → Bool
  | .adr _ => true
  | .nam _ _ => true
  | .num a b c d e => decide (a ≤ 4 ∧ b ≤ 4 ∧ c ≤ 4 ∧ d ≤ 4 ∧ e ≤ 4)
  | _ => false
structure Fit64 (d : MD) : Prop where
  hi : d.hi < 2 ^ 64
  lo : d.lo < 2 ^ 64
theorem chkN_len {x : List UInt8} (h : chkN x = 0) : x.length ≤ 254 := (chkN_iff.1 h).1
theorem uqNam {s : PS} {x : List UInt8} (h : GoodP s) (hi : Inv 65535 s) (hc : chkN x = 0) (hM : s.l.length + 255 ≤ 65535) : PartOk s (nameS 65535 s x) := by
  have hx := chkN_len hc
  obtain ⟨h1, h2, _⟩ := nameS_good h hi hc (by omega)
  obtain ⟨y, e, _, hy⟩ := h1.l
  exact ⟨h1.ok, h2, nameS_invU hi x, y, e, by omega⟩
theorem uqPlain {s : PS} {x : List UInt8} (h : GoodP s) (hi : Inv 65535 s) (hc : chkN x = 0) (hM : s.l.length + 255 ≤ 65535) : PartOk s (plainS 65535 s x) := by
  have hx := chkN_len hc
  obtain ⟨h1, h2⟩ := plainS_good (M := 65535) h hc (by omega)
  obtain ⟨h3, _⟩ := plainF_put 65535 (x.length + 1) x s (by omega) (labs_of_chk hc) h.f (by omega)
  obtain ⟨y, e, _, hy⟩ := h1.l
  refine ⟨h1.ok, h2, ?_, y, e, by omega⟩
  rw [(nameS_run' h.f hc).2, h3]
  have hg := hi.grow (l' := s.l ++ (x ++ [0])) 0 (by simp) (by simp; omega)
  rw [← h.f] at hg
  exact hg
theorem uqPut {s : PS} {x : List UInt8} (h : GoodP s) (hi : Inv 65535 s) (hx : x.length ≤ 255) (hM : s.l.length + 255 ≤ 65535) : PartOk s (putS 65535 s x) := by
  rw [put0 h.f (by omega)]
  have hg := hi.grow (l' := s.l ++ x) s.f (by simp) (by simp; omega)
  exact ⟨rfl, h.app x, hg, x, rfl, hx⟩
theorem uqNums {s : PS} {vs ns : List Nat} (h : GoodP s) (hi : Inv 65535 s) (hl : vs.length = ns.length) (h5 : ns.length ≤ 5) (h4 : ∀ n ∈ ns, n ≤ 4) (hc : chkW vs ns = 0) (hM : s.l.length + 255 ≤ 65535) : PartOk s (numsS 65535 vs ns s) := by
  obtain ⟨h1, h2⟩ := nums_put (M := 65535) vs ns s hl h4 hc h.f (by omega)
  rw [h1]
  have hg := hi.grow (l' := s.l ++ numsB vs ns) s.f (by simp) (by simp; omega)
  exact ⟨rfl, h.app _, hg, _, rfl, by omega⟩
theorem ws_four {a b c d e : Nat} (h : wired (.num a b c d e) = true) : ∀ n ∈ ws5 a b c d e, n ≤ 4 := by
  simp [wired] at h
  intro n hn
  simp [ws5] at hn
  omega
theorem uqPart {p : Pt} {d : MD} {s : PS} (hw : wired p = true) (h : GoodP s) (hi : Inv 65535 s) (hc : chkP p d = 0) (hM : s.l.length + 255 ≤ 65535) : PartOk s (putP 65535 p d s) := by
  cases p with
  | adr six => exact uqPut h hi (by rw [octA_size]; split <;> omega) hM
  | nam mail ptd =>
    cases ptd
    · exact uqPlain h hi hc hM
    · exact uqNam h hi hc hM
  | num a b c e f => exact uqNums h hi rfl (by simp [ws5]) (ws_four hw) hc hM
  | txt => cases hw
  | raw => cases hw
end Go.Proofs.YtodedbokeodmkaaGreat
namespace Go.Proofs.YtodedbokeodmkaaGreat
open Go.RowKit
set_option linter.unusedVariables false

theorem putK_two {M : Nat} {p : Pt} {K : List Pt} {d : MD} {s : PS} (h : (putP M p d s).1 = 0) : putK M (p :: K) d s = putK M K d (putP M p d s).2 := by
  rw [putK, if_pos h]
/-! ### What is the same -/
theorem sameD_iff (a b : MD) : sameD a b = true ↔ a = b := by
  unfold sameD
  rw [decide_eq_true_iff]
  constructor
  · rintro ⟨h1, h2, h3, h4, h5, h6, h7, h8⟩
    obtain ⟨six, hi, lo, n, m, v0, v1, v2, v3, v4, L, r⟩ := a
    obtain ⟨six', hi', lo', n', m', u0, u1, u2, u3, u4, L', r'⟩ := b
    simp only [MD.vs, List.cons.injEq, and_true] at h1 h2 h3 h4 h5 h6 h7 h8
    obtain ⟨e0, e1, e2, e3, e4⟩ := h6
    have hL : L = L' := (List.map_inj_right fun x y hxy => bs_inj hxy).1 h7
    subst h1 h2 h3 e0 e1 e2 e3 e4 hL
    rw [bs_inj h4, bs_inj h5, bs_inj h8]
  · rintro rfl
    exact ⟨rfl, rfl, rfl, rfl, rfl, rfl, rfl, rfl⟩
/-! ### By type -/
theorem firstE_all {α : Type} {f : α → Nat} : ∀ {K : List α}, firstE f K = 0 → ∀ p ∈ K, f p = 0
  | [], _ => fun p hp => absurd hp List.not_mem_nil
  | x :: r, h => by
    unfold firstE at h
    by_cases hx : f x = 0
    · rw [if_neg (by simp [hx])] at h
      intro p hp
      rcases List.mem_cons.1 hp with rfl | hp
      · exact hx
      · exact firstE_all h p hp
    · rw [if_pos hx] at h
      exact absurd h hx
theorem all_facts {K : List Pt} {d : MD} (h : allK K d = 0) : dropK K d = md0 ∧ (∀ p ∈ K, chkP p d = 0) ∧ sizeK K d ≤ 65535 := by
  unfold allK at h
  by_cases h1 : partsK K d = 0
  · rw [if_neg (by simp [h1])] at h
    have h2 : sizeK K d ≤ 65535 := Decidable.byContradiction fun hx => by rw [if_pos (by omega)] at h; cases h
    unfold partsK at h1
    cases hs : sameD (dropK K d) md0
    · rw [hs] at h1
      cases h1
    · rw [hs, if_pos rfl] at h1
      exact ⟨(sameD_iff _ _).1 hs, firstE_all h1, h2⟩
  · rw [if_pos h1] at h
    exact absurd h h1
theorem txt_all {d : MD} (h : chkP .txt d = 0) : ∀ x ∈ d.L, x.size ≤ 255 := by
  intro x hx
  refine Decidable.byContradiction fun hn => ?_
  have hne : d.L ≠ [] := fun h => by rw [h] at hx; cases hx
  have : chkP .txt d = 3 := by
    show (if d.L = [] then 2 else chkT d.L) = 3
    rw [if_neg hne, chkT_long hx (by omega)]
  omega
end Go.Proofs.YtodedbokeodmkaaGreat
namespace Go.Proofs.YtodedbokeodmkaaGreat
open Go.RowKit Go.Maps
set_option linter.unusedVariables false

theorem nobS : nob.size ≤ maxLen := by decide
theorem fit_nil (w : World) (d : MD) (h : d.L = []) (hn : d.n.size ≤ maxLen) (hm : d.m.size ≤ maxLen) (hr : d.r.size ≤ maxLen) (h1 : d.hi < 2 ^ 64) (h2 : d.lo < 2 ^ 64) (v0 : d.v0 < 2 ^ 32) (v1 : d.v1 < 2 ^ 32) (v2 : d.v2 < 2 ^ 32) (v3 : d.v3 < 2 ^ 32) (v4 : d.v4 < 2 ^ 32) : Fit w d nilS := by
  constructor
  all_goals first | assumption | (rw [h]; exact .inl ⟨_, rfl, rfl⟩) | (rw [h]; exact fun _ h => absurd h List.not_mem_nil) | (rw [h]; exact Nat.zero_le _)
end Go.Proofs.YtodedbokeodmkaaGreat
namespace Go.Proofs.YtodedbokeodmkaaGreat
open Go.RowKit
set_option linter.unusedVariables false

theorem srow_at {W : World} {A : Option Addr} {cap n : Nat} {L : List ByteArray} (h : SRow W (.slice A n cap) L) {k : Nat} (hk : k < L.length) : ∃ g off, A = some ⟨g, off, none⟩ ∧ W.cell? ⟨g, off + k, none⟩ = some (.string L[k]) := by
  rcases h with ⟨_, _, rfl⟩ | ⟨g, off, c, h1, _, _, _, h5⟩
  · simp at hk
  · injection h1 with h1
    exact ⟨g, off, h1, h5 k hk⟩
def LightR (w : World) (e : Ending) (w' : World) : Prop := ∃ b, e = .returned (.bool b) ∧ Below w.heap.size w w'
def LiRel (w : World) (C : Array Value) (n : Nat) (vn vi : Value) (wr : World) : Prop :=
  ∃ (k : Nat) (m : Int), vi = .int .i64 k ∧ k ≤ n ∧ vn = .int .i64 m ∧ Below w.heap.size w wr ∧ Lies wr w.heap.size 30 C
set_option maxHeartbeats 2000000 in
set_option maxRecDepth 100000 in
theorem Light_any (d : MD) (tv : Value) (w : World) (hf : Fit w d tv) : Calls Tryz.prog 23 #[dataV d tv] w (LightR w) := by
  obtain ⟨A, cap, rfl, hl, hc⟩ := hf.row.shape
  have HR := Lib.hid hf.row
  have HT := Lib.hid hf.t
  have htl := hf.tl
  have h1 := hf.n
  have h2 := hf.m
  have h3 := hf.r
  unfold maxLen at h1 h2 h3 hc
  have HB0 : Hid (Below w.heap.size w (w.alloc (.cells (cellsD d (.slice A d.L.length cap)) 30))) := Lib.hid ((Below.refl _ w).alloc (Nat.le_refl _) _)
  have HL0 : Hid (Lies (w.alloc (.cells (cellsD d (.slice A d.L.length cap)) 30)) w.heap.size 30 (cellsD d (.slice A d.L.length cap))) := Lib.hid (Lies.new w _ _)
  have c0 := HL0.out.cell 11
  have c1 := HL0.out.cell 3
  have c2 := HL0.out.cell 4
  clear hf
  unfold dataV cellsD
  go_enter Tryz.func23, Tryz.ntmps23
  go_wp2
  go_loopw [3, 4] (fun v3 v4 wr => LiRel w (cellsD d (.slice A d.L.length cap)) d.L.length v3 v4 wr) (fun _ v4 _ => d.L.length - (intOf v4).toNat)
  case atStart => exact ⟨0, _, rfl, Nat.zero_le _, rfl, HB0.out, HL0.out⟩
  case round =>
    clear HB0 HL0 c0 c1 c2
    obtain ⟨k, m, rfl, hk, rfl, hb, hl⟩ := hrel
    have HB := Lib.hid hb
    have HL := Lib.hid hl
    have kc : wr.cell? ⟨w.heap.size, 10, none⟩ = some (.slice A d.L.length cap) := hl.cell 10
    clear hb hl
    rcases Nat.lt_or_ge k d.L.length with hlt | hge
    · obtain ⟨q0, o0, rfl, hcell0⟩ := srow_at (HR.out.below HB.out (Nat.le_refl _)) hlt
      have hltI : (k : Int) < (d.L.length : Int) := by omega
      have hkk : k + 1 ≤ d.L.length := hlt
      have hxs := HT.out _ (List.getElem_mem hlt)
      unfold maxLen at hxs
      go_wp2
      go_roundw
      case rel => exact ⟨k + 1, _, by go_num, hkk, rfl, HB.out, HL.out⟩
      case measure => simp [intOf]; omega
    · obtain rfl : k = d.L.length := by omega
      go_wp2
      go_ret
      exact ⟨_, rfl, HB.out⟩
end Go.Proofs.YtodedbokeodmkaaGreat
namespace Go.Proofs.YtodedbokeodmkaaGreat
set_option linter.unusedVariables false

/-- At place p, the run having begun at r, the name n is read by c pointers; the place behind is e. -/
inductive Ru (x : List UInt8) : Nat → Nat → List UInt8 → Nat → Nat → Prop
  | nil {r p : Nat} (h : x[p]? = some 0) : Ru x r p [] (p + 1) 0
  | lab {r p : Nat} {y n : List UInt8} {e c : Nat} (hy : ok1 y) (h : (x.drop p).take (1 + y.length) = enc1 y) (hr : Ru x r (p + (1 + y.length)) n e c) : Ru x r p (enc1 y ++ n) e c
  | ptr {r p : Nat} {a d : UInt8} {n : List UInt8} {e c : Nat} (h : x[p]? = some a) (h1 : 192 ≤ a.toNat) (hd : x[p + 1]? = some d) (ht : 256 * (a.toNat - 192) + d.toNat < r) (hr : Ru x (256 * (a.toNat - 192) + d.toNat) (256 * (a.toNat - 192) + d.toNat) n e c) : Ru x r p n (p + 2) (c + 1)

theorem drop_one {x : List UInt8} {p : Nat} {a : UInt8} (h : x[p]? = some a) : x.drop p = a :: x.drop (p + 1) := by
  obtain ⟨hp, rfl⟩ := List.getElem?_eq_some_iff.1 h
  exact List.drop_eq_getElem_cons hp
theorem partU_nil {x : List UInt8} {p : Nat} (h : x[p]? = some 0) : partU (x.drop p) = (1, 0) ∧ (x.drop p).take 1 = [0] := by
  rw [drop_one h, partU_cons]
  exact ⟨by simp, by simp⟩
theorem partU_lab {x : List UInt8} {p : Nat} {y : List UInt8} (hy : ok1 y) (h : (x.drop p).take (1 + y.length) = enc1 y) : partU (x.drop p) = (1 + y.length, 0) ∧ isPtr (enc1 y) = false ∧ enc1 y ≠ [0] := by
  have hy' := hy
  unfold ok1 at hy'
  have hn : (UInt8.ofNat y.length).toNat = y.length := UInt8.toNat_ofNat_of_lt' (by show _ < 256; omega)
  refine ⟨?_, ?_, ?_⟩
  · rcases hx : x.drop p with _ | ⟨a, t⟩
    · rw [hx] at h; simp [enc1] at h
    · have hl := congrArg List.length h
      rw [hx, Nat.add_comm, List.take_succ_cons] at h
      unfold enc1 at h
      injection h with h1 h2
      rw [hx, List.length_take, List.length_cons, enc1_length] at hl
      rw [partU_cons, h1, hn, if_neg (by omega), if_neg (by omega), if_neg (by omega)]
  · unfold isPtr enc1
    rw [List.headD_cons, hn]
    exact decide_eq_false (by omega)
  · intro e
    have := congrArg List.length e
    rw [enc1_length, List.length_singleton] at this
    omega
theorem partU_ptr {x : List UInt8} {p : Nat} {a d : UInt8} (h : x[p]? = some a) (h1 : 192 ≤ a.toNat) (hd : x[p + 1]? = some d) : partU (x.drop p) = (2, 0) ∧ (x.drop p).take 2 = [a, d] := by
  have e := drop_one h
  rw [drop_one hd] at e
  rw [e, partU_cons, if_pos h1, if_neg (by simp)]
  exact ⟨rfl, rfl⟩

theorem keep_eq {u : US} {z : List UInt8} (h : u.t = z) (hl : u.l.length + z.length ≤ 254) : keepU u = { u with l := u.l ++ z } := by
  subst h
  exact if_neg (by omega)
theorem Ru.mono {x : List UInt8} {r p e c : Nat} {n : List UInt8} (h : Ru x r p n e c) : ∀ {r' : Nat}, r ≤ r' → Ru x r' p n e c := by
  induction h with
  | nil h => exact fun _ => .nil h
  | lab hy h hr ih => exact fun hle => .lab hy h (ih hle)
  | ptr h h1 hd ht hr ih => exact fun hle => .ptr h h1 hd (by omega) hr
theorem take_app {x y z : List UInt8} {p k : Nat} (h : (x.drop p).take k = z) (hl : z.length = k) (hk : 0 < k) : ((x ++ y).drop p).take k = z := by
  have h2 := congrArg List.length h
  rw [List.length_take, List.length_drop, hl] at h2
  rw [List.drop_append_of_le_length (by omega), List.take_append_of_le_length (by rw [List.length_drop]; omega)]
  exact h
theorem at_app' {x y : List UInt8} {p : Nat} {a : UInt8} (h : x[p]? = some a) : (x ++ y)[p]? = some a := by
  rw [List.getElem?_append_left (List.getElem?_eq_some_iff.1 h).1]
  exact h
/-- Octets behind do not matter. -/
theorem Ru.app {x : List UInt8} (y : List UInt8) {r p e c : Nat} {n : List UInt8} (h : Ru x r p n e c) : Ru (x ++ y) r p n e c := by
  induction h with
  | nil h => exact .nil (at_app' h)
  | @lab r p z n e c hz h hr ih => exact .lab hz (take_app h (by rw [enc1_length]; omega) (by omega)) ih
  | ptr h h1 hd ht hr ih => exact .ptr (at_app' h) h1 (at_app' hd) ht ih

/-- Reading answers as the name stands. -/
theorem Ru.run {x : List UInt8} {r p e c : Nat} {n : List UInt8} (h : Ru x r p n e c) : ∀ (k : Nat) (s : US), s.f = 0 → s.p = p → s.r = r → s.l.length + n.length ≤ 254 → InvU x.length s → muU x s ≤ k →
    (runU x k s).f = 0 ∧ (runU x k s).l = s.l ++ n ∧ (runU x k s).e = (if s.j = 0 then e else s.e) ∧ (runU x k s).j = s.j + c := by
  induction h with
  | @nil r p h =>
    intro k s hf hp hr hl hi hm
    subst hp
    obtain ⟨h1, h2⟩ := partU_nil h
    rcases k with _ | k
    · rw [show muU x s = _ from if_neg (by omega)] at hm; omega
    have ht : (overU x s (partU (x.drop s.p)).1).t = [0] := by rw [h1]; exact h2
    rw [runU_end hf (by rw [h1]) ht]
    refine ⟨hf, by simp [overU], ?_, by simp [overU]⟩
    show (if s.j = 0 then _ else _) = _
    rw [h1]
  | @lab r p y n e c hy h hr ih =>
    intro k s hf hp hr' hl hi hm
    subst hp
    obtain ⟨h1, h2, h3⟩ := partU_lab hy h
    rcases k with _ | k
    · rw [show muU x s = _ from if_neg (by omega)] at hm; omega
    have he : (partU (x.drop s.p)).2 = 0 := by rw [h1]
    have et : (overU x s (partU (x.drop s.p)).1).t = enc1 y := by rw [h1]; exact h
    have hmk := mu_keep hi he hf hm
    rw [runU_lab hf he (by rw [et]; exact h3) (by rw [et]; exact h2)]
    rw [List.length_append, enc1_length] at hl
    have ek : keepU (overU x s (partU (x.drop s.p)).1) = { overU x s (partU (x.drop s.p)).1 with l := s.l ++ enc1 y } := keep_eq et (by rw [enc1_length]; simp only [overU]; omega)
    have hi3 := keepU_inv (overU_inv hi he)
    rw [ek] at hmk hi3 ⊢
    obtain ⟨a1, a2, a3, a4⟩ := ih k { overU x s (partU (x.drop s.p)).1 with l := s.l ++ enc1 y } hf (by rw [h1]; rfl) hr' (by simp only [List.length_append, enc1_length]; omega) hi3 hmk
    refine ⟨a1, by rw [a2]; simp, ?_, a4⟩
    rw [a3]
    show (if s.j = 0 then e else (if s.j = 0 then _ else s.e)) = _
    split <;> rfl
  | @ptr r p a d n e c h h1 hd ht hr ih =>
    intro k s hf hp hr' hl hi hm
    subst hp
    obtain ⟨g1, g2⟩ := partU_ptr h h1 hd
    rcases k with _ | k
    · rw [show muU x s = _ from if_neg (by omega)] at hm; omega
    have he : (partU (x.drop s.p)).2 = 0 := by rw [g1]
    have et : (overU x s (partU (x.drop s.p)).1).t = [a, d] := by rw [g1]; exact g2
    have hmf := mu_follow hi he hf hm
    rw [runU_ptr hf he (by rw [et]; simp) (by rw [et]; simpa [isPtr] using h1)]
    have hto : toU (overU x s (partU (x.drop s.p)).1).t = 256 * (a.toNat - 192) + d.toNat := by rw [et]; rfl
    have ek : followU (overU x s (partU (x.drop s.p)).1) = { overU x s (partU (x.drop s.p)).1 with r := 256 * (a.toNat - 192) + d.toNat, p := 256 * (a.toNat - 192) + d.toNat, j := s.j + 1 } := by
      unfold followU
      rw [hto, if_neg (by simp only [overU]; omega)]
      rfl
    have hi3 := followU_inv (overU_inv hi he)
    rw [ek] at hmf hi3 ⊢
    obtain ⟨a1, a2, a3, a4⟩ := ih k { overU x s (partU (x.drop s.p)).1 with r := 256 * (a.toNat - 192) + d.toNat, p := 256 * (a.toNat - 192) + d.toNat, j := s.j + 1 } hf rfl rfl hl hi3 hmf
    refine ⟨a1, a2, ?_, by rw [a4]; simp only; omega⟩
    rw [a3]
    simp only [Nat.add_eq_zero_iff]
    rw [if_neg (by omega)]
    show (if s.j = 0 then s.p + (partU (x.drop s.p)).1 else s.e) = _
    rw [g1]
theorem Ru.read {x : List UInt8} {p e c : Nat} {n : List UInt8} (h : Ru x p p n e c) (hn : n.length ≤ 254) (hp : p ≤ x.length) : (readU x p p).f = 0 ∧ (readU x p p).l = n ∧ (readU x p p).e = e ∧ (readU x p p).j = c := by
  have e1 : readU x (p : Int) (p : Int) = runU x (muU x (begU p p)) (begU p p) := if_neg (by omega)
  rw [e1]
  obtain ⟨a1, a2, a3, a4⟩ := h.run (muU x (begU p p)) (begU p p) rfl rfl rfl (by simpa [begU] using hn) (begU_inv hp hp) (Nat.le_refl _)
  exact ⟨a1, a2, a3, a4.trans (Nat.zero_add _)⟩
/-- Labels, and behind them a pointer that leads to no place ahead of its run. -/
inductive Rb (x : List UInt8) : Nat → Nat → List UInt8 → Prop
  | ptr {r p : Nat} {a d : UInt8} (h : x[p]? = some a) (h1 : 192 ≤ a.toNat) (hd : x[p + 1]? = some d) (ht : r ≤ 256 * (a.toNat - 192) + d.toNat) : Rb x r p []
  | lab {r p : Nat} {y n : List UInt8} (hy : ok1 y) (h : (x.drop p).take (1 + y.length) = enc1 y) (hr : Rb x r (p + (1 + y.length)) n) : Rb x r p (enc1 y ++ n)
theorem Rb.run {x : List UInt8} {r p : Nat} {n : List UInt8} (h : Rb x r p n) : ∀ (k : Nat) (s : US), s.f = 0 → s.p = p → s.r = r → s.l.length + n.length ≤ 254 → InvU x.length s → muU x s ≤ k → (runU x k s).f = 4 := by
  induction h with
  | @ptr p a d h h1 hd ht =>
    intro k s hf hp hr' hl hi hm
    subst hp
    obtain ⟨g1, g2⟩ := partU_ptr h h1 hd
    rcases k with _ | k
    · rw [show muU x s = _ from if_neg (by omega)] at hm; omega
    have he : (partU (x.drop s.p)).2 = 0 := by rw [g1]
    have et : (overU x s (partU (x.drop s.p)).1).t = [a, d] := by rw [g1]; exact g2
    rw [runU_ptr hf he (by rw [et]; simp) (by rw [et]; simpa [isPtr] using h1)]
    have hto : toU (overU x s (partU (x.drop s.p)).1).t = 256 * (a.toNat - 192) + d.toNat := by rw [et]; rfl
    have ek : followU (overU x s (partU (x.drop s.p)).1) = failU (overU x s (partU (x.drop s.p)).1) 4 := by
      unfold followU
      rw [hto, if_pos (by simp only [overU]; omega)]
    rw [ek, runU_stop (by simp [failU])]
    rfl
  | @lab p y n hy h hr ih =>
    intro k s hf hp hr' hl hi hm
    subst hp
    obtain ⟨h1, h2, h3⟩ := partU_lab hy h
    rcases k with _ | k
    · rw [show muU x s = _ from if_neg (by omega)] at hm; omega
    have he : (partU (x.drop s.p)).2 = 0 := by rw [h1]
    have et : (overU x s (partU (x.drop s.p)).1).t = enc1 y := by rw [h1]; exact h
    have hmk := mu_keep hi he hf hm
    rw [runU_lab hf he (by rw [et]; exact h3) (by rw [et]; exact h2)]
    rw [List.length_append, enc1_length] at hl
    have ek : keepU (overU x s (partU (x.drop s.p)).1) = { overU x s (partU (x.drop s.p)).1 with l := s.l ++ enc1 y } := keep_eq et (by rw [enc1_length]; simp only [overU]; omega)
    have hi3 := keepU_inv (overU_inv hi he)
    rw [ek] at hmk hi3 ⊢
    exact ih k { overU x s (partU (x.drop s.p)).1 with l := s.l ++ enc1 y } hf (by rw [h1]; rfl) hr' (by simp only [List.length_append, enc1_length]; omega) hi3 hmk
/-- Labels that stand, and what stands behind them. -/
theorem Ru.labs {x : List UInt8} {r e c : Nat} {n : List UInt8} : ∀ (L : List (List UInt8)) (a z : List UInt8), okN L → x = a ++ (enc L ++ z) → Ru x r (a.length + (enc L).length) n e c → Ru x r a.length (enc L ++ n) e c
  | [], a, z, _, hx, h => by simpa [enc] using h
  | y :: L, a, z, hL, hx, h => by
    obtain ⟨hy, hL'⟩ := okN_cons.1 hL
    rw [enc_cons, List.append_assoc] at hx ⊢
    have hl : (a ++ enc1 y).length = a.length + (1 + y.length) := by rw [List.length_append, enc1_length]; omega
    have ih := Ru.labs (x := x) L (a ++ enc1 y) z hL' (by rw [hx]; simp) (by rw [hl]; rw [enc_cons, List.length_append, enc1_length] at h; rw [show a.length + (1 + y.length) + (enc L).length = a.length + (y.length + 1 + (enc L).length) by omega]; exact h)
    rw [hl] at ih
    refine .lab hy ?_ ih
    rw [hx, List.drop_left' rfl, List.take_left' (by rw [enc1_length]; omega)]
theorem Rb.labs {x : List UInt8} {r : Nat} {n : List UInt8} : ∀ (L : List (List UInt8)) (a z : List UInt8), okN L → x = a ++ (enc L ++ z) → Rb x r (a.length + (enc L).length) n → Rb x r a.length (enc L ++ n)
  | [], a, z, _, hx, h => by simpa [enc] using h
  | y :: L, a, z, hL, hx, h => by
    obtain ⟨hy, hL'⟩ := okN_cons.1 hL
    rw [enc_cons, List.append_assoc] at hx ⊢
    have hl : (a ++ enc1 y).length = a.length + (1 + y.length) := by rw [List.length_append, enc1_length]; omega
    have ih := Rb.labs (x := x) L (a ++ enc1 y) z hL' (by rw [hx]; simp) (by rw [hl]; rw [enc_cons, List.length_append, enc1_length] at h; rw [show a.length + (1 + y.length) + (enc L).length = a.length + (y.length + 1 + (enc L).length) by omega]; exact h)
    rw [hl] at ih
    refine .lab hy ?_ ih
    rw [hx, List.drop_left' rfl, List.take_left' (by rw [enc1_length]; omega)]
end Go.Proofs.YtodedbokeodmkaaGreat
namespace Go.Proofs.YtodedbokeodmkaaGreat
open Go.RowKit
set_option linter.unusedVariables false

/-- Each mark is read where it stands. -/
def MarkR (s : PS) (B n : Nat) : Prop := ∀ q a, s.m q = some a → q.length ≤ n → a < B ∧ ∃ e c, Ru s.l a a q e c
theorem head_lab {r : List UInt8} {c : UInt8} {t : List UInt8} (hr : r = c :: t) (h1 : 1 ≤ c.toNat) (h2 : c.toNat ≤ 63) (h3 : c.toNat ≤ t.length) : ∃ y, ok1 y ∧ headN r = enc1 y := by
  refine ⟨t.take c.toNat, ⟨by rw [List.length_take]; omega, by rw [List.length_take]; omega⟩, ?_⟩
  have hl : (t.take c.toNat).length = c.toNat := by rw [List.length_take]; omega
  rw [hr, headN_cons]
  unfold enc1
  rw [hl]
  congr 1
  exact (UInt8.ofNat_toNat).symm
theorem ru_ptr {l : List UInt8} {a B e c : Nat} {r : List UInt8} (ha : a < 16384) (hB : a < B) (h : Ru l a a r e c) : Ru (l ++ octs (49152 + a) 2) B l.length r (l.length + 2) (c + 1) := by
  have h1 : (UInt8.ofNat ((49152 + a) / 256)).toNat = 192 + a / 256 := by rw [UInt8.toNat_ofNat']; omega
  have h2 : (UInt8.ofNat (49152 + a)).toNat = a % 256 := by rw [UInt8.toNat_ofNat']; omega
  have h3 : 256 * ((UInt8.ofNat ((49152 + a) / 256)).toNat - 192) + (UInt8.ofNat (49152 + a)).toNat = a := by rw [h1, h2]; omega
  refine Ru.ptr (e := e) (a := UInt8.ofNat ((49152 + a) / 256)) (d := UInt8.ofNat (49152 + a)) ?_ (by rw [h1]; omega) ?_ (by rw [h3]; exact hB) ?_
  · rw [octs2]; simp
  · rw [octs2]; simp
  · rw [h3]; exact h.app _
theorem nameF_ru (M : Nat) : ∀ (k : Nat) (r : List UInt8) (s : PS) (B : Nat), r.length < k → Labs r → s.f = 0 → s.l.length + r.length + 1 ≤ M → (∀ q a, s.m q = some a → a < 16384) → MarkR s B r.length → B ≤ s.l.length →
    (∃ c, Ru (nameF M k r s).2.l B s.l.length r (nameF M k r s).2.l.length c) ∧ (∃ y, (nameF M k r s).2.l = s.l ++ y) ∧ (∀ q a, (nameF M k r s).2.m q = some a → s.m q = some a ∨ (a < (nameF M k r s).2.l.length ∧ ∃ e c, Ru (nameF M k r s).2.l a a q e c))
  | 0, r, s, B, h, _, _, _, _, _, _ => by omega
  | k + 1, r, s, B, hk, hL, hf, hM, hma, hmk, hB => by
    by_cases hr : r = []
    · subst hr
      rw [nameF_nil, put_room hf (by simpa using hM)]
      exact ⟨⟨0, by simpa using (Ru.nil (x := s.l ++ [0]) (r := B) (p := s.l.length) (by simp))⟩, ⟨[0], rfl⟩, fun q a h => .inl h⟩
    · obtain ⟨c, t, hct, hc1, hc2, hc3, hL'⟩ := hL.step hr
      have hrl : 2 ≤ r.length := by rw [hct, List.length_cons]; omega
      rcases hm : s.m r with _ | a
      · have hh : (headN r).length = 1 + c.toNat := by rw [hct, headN_cons, List.length_cons, List.length_take]; omega
        have hsum : (headN r).length + (restN r).length = r.length := by rw [← List.length_append, head_rest]
        have hp := put_room (x := headN r) hf (show s.l.length + (headN r).length ≤ M by omega)
        have hz : (putS M s (headN r)).1 = 0 := by rw [hp]
        rw [nameF_next hr hm hz, hp]
        simp only
        obtain ⟨s1, hs1⟩ : ∃ s1, s1 = keepS { s with l := s.l ++ headN r } r s.l.length := ⟨_, rfl⟩
        have hl1 : s1.l = s.l ++ headN r := by rw [hs1]; exact (keepS_l _ _ _).1
        have hf1 : s1.f = 0 := by rw [hs1]; exact (keepS_l _ _ _).2.1.trans hf
        have hm1 : ∀ q b, s1.m q = some b → (q = r ∧ b = s.l.length ∧ s.l.length < 16384) ∨ s.m q = some b := fun q b h => keepS_m (s := { s with l := s.l ++ headN r }) (by rw [hs1] at h; exact h)
        have hll : s1.l.length = s.l.length + (headN r).length := by rw [hl1, List.length_append]
        rw [← hs1]
        clear hs1
        have hma1 : ∀ q b, s1.m q = some b → b < 16384 := fun q b hb => by
          rcases hm1 q b hb with ⟨_, rfl, hbig⟩ | h
          · exact hbig
          · exact hma q b h
        have hold : ∀ q b, s1.m q = some b → q.length ≤ (restN r).length → s.m q = some b := fun q b hb hq => by
          rcases hm1 q b hb with ⟨rfl, _⟩ | h
          · omega
          · exact h
        obtain ⟨⟨c1, k1⟩, ⟨y, k2⟩, k3⟩ := nameF_ru M k (restN r) s1 B (by omega) hL' hf1 (by omega) hma1 (fun q b hb hq => by
          obtain ⟨h1, e, n, h2⟩ := hmk q b (hold q b hb hq) (by omega)
          exact ⟨h1, e, n, by rw [hl1]; exact h2.app _⟩) (by omega)
        obtain ⟨yl, hy1, hy2⟩ := head_lab hct hc1 hc2 hc3
        have hyl : 1 + yl.length = (headN r).length := by rw [hy2, enc1_length]; omega
        have hd : ((nameF M k (restN r) s1).2.l.drop s.l.length).take (1 + yl.length) = enc1 yl := by
          rw [k2, hl1, List.append_assoc, List.drop_left' rfl, hyl, List.take_left' rfl, hy2]
        have hrd : ∀ R, B ≤ R → Ru (nameF M k (restN r) s1).2.l R s.l.length r (nameF M k (restN r) s1).2.l.length c1 := fun R hR => by
          have h0 := k1.mono hR
          rw [hll, ← hyl] at h0
          have h1 := Ru.lab hy1 hd h0
          rwa [← hy2, head_rest] at h1
        refine ⟨⟨c1, hrd B (Nat.le_refl _)⟩, ⟨headN r ++ y, by rw [k2, hl1, List.append_assoc]⟩, fun q b hb => ?_⟩
        rcases k3 q b hb with h | h
        · rcases hm1 q b h with ⟨rfl, rfl, _⟩ | h'
          · refine .inr ⟨?_, _, _, hrd _ hB⟩
            rw [k2, hl1, List.length_append, List.length_append]
            omega
          · exact .inl h'
        · exact .inr h
      · have ha := hma r a hm
        rw [nameF_some hr hm, num_room hf ha (by omega)]
        obtain ⟨h1, e, n, h2⟩ := hmk r a hm (Nat.le_refl _)
        refine ⟨⟨n + 1, ?_⟩, ⟨_, rfl⟩, fun q a h => .inl h⟩
        simp only [List.length_append, octs_length]
        exact ru_ptr ha h1 h2
/-- A packer without an error, each of whose marks is read by the reader. -/
structure GoodR (s : PS) : Prop where
  good : GoodP s
  inv : Inv 65535 s
  marks : ∀ q a, s.m q = some a → a < s.l.length ∧ ∃ e c, Ru s.l a a q e c
theorem goodR0 : GoodR ps0 := ⟨good0, inv0 (by decide), fun _ _ h => nomatch h⟩
theorem GoodR.app {s : PS} (h : GoodR s) {y : List UInt8} (hM : s.l.length + y.length ≤ 65535) : GoodR { s with l := s.l ++ y } :=
  ⟨h.good.app y, by
    have hg := h.inv.grow (l' := s.l ++ y) s.f (by simp) (by simp; omega)
    exact hg, fun q a hq => by
    obtain ⟨h1, e, c, h2⟩ := h.marks q a hq
    exact ⟨by show a < (s.l ++ y).length; rw [List.length_append]; omega, e, c, h2.app y⟩⟩
/-- A name that is put: it is read behind the place where it began, and ends where the octets end. -/
theorem nam_back {s : PS} {x : List UInt8} (h : GoodR s) (hc : chkN x = 0) (hM : s.l.length + 255 ≤ 65535) :
    GoodR (nameS 65535 s x).2 ∧ ∃ c, Ru (nameS 65535 s x).2.l s.l.length s.l.length x (nameS 65535 s x).2.l.length c := by
  have hx := chkN_len hc
  have hk := uqNam h.good h.inv hc hM
  rw [(nameS_run' h.good.f hc).1] at hk ⊢
  obtain ⟨h1, ⟨y, h2⟩, h3⟩ := nameF_ru 65535 (x.length + 1) x s s.l.length (by omega) (labs_of_chk hc) h.good.f (by omega) h.inv.mark (fun q a hq _ => h.marks q a hq) (Nat.le_refl _)
  refine ⟨⟨hk.good, hk.inv, fun q a hq => ?_⟩, h1⟩
  rcases h3 q a hq with h' | h'
  · obtain ⟨g1, e, c, g2⟩ := h.marks q a h'
    rw [h2]
    exact ⟨by rw [List.length_append]; omega, e, c, g2.app y⟩
  · exact h'
end Go.Proofs.YtodedbokeodmkaaGreat
namespace Go.Proofs.YtodedbokeodmkaaGreat
open Go.RowKit
set_option linter.unusedVariables false

/-! ### Addresses -/
theorem jn_natsB (l : List UInt8) : jn 256 (nats l) = num l := by
  unfold jn nats num
  rw [List.foldl_map]
theorem ofA_back {a : Ad} (ca : chkA a = 0) (fa : a.2.1 < 2 ^ 64 ∧ a.2.2 < 2 ^ 64) : ofA (octA a) = (a, 0) := by
  obtain ⟨six, hi, lo⟩ := a
  unfold ofA
  rw [octA_size]
  cases six
  · obtain ⟨h1, h2⟩ := chkA_lo ca rfl
    simp only at h1 h2
    subst h1
    simp only [Bool.false_eq_true, if_false, if_true]
    have : elderA (nats (octA (false, 0, lo))) = (false, 0, lo) := by
      show elderA (nats (octs lo 4)) = _
      unfold elderA
      rw [jn_natsB, num_octs 4 lo h2]
    rw [this]
  · simp only [if_true]
    rw [if_neg (by decide)]
    simp only at fa
    have : newerA 256 (nats (octA (true, hi, lo))) = (true, hi, lo) := by
      unfold newerA
      have e : nats (octA (true, hi, lo)) = nats (octs hi 8) ++ nats (octs lo 8) := by simp [nats, octA, allO]
      have l1 : (nats (octs hi 8)).length = 8 := by rw [nats, List.length_map, octs_length]
      have l2 : (nats (octs lo 8)).length = 8 := by rw [nats, List.length_map, octs_length]
      rw [e, List.length_append, l1, l2, List.take_left' l1, List.drop_left' l1, jn_natsB, jn_natsB, num_octs 8 hi (by omega), num_octs 8 lo (by omega)]
    rw [this]
/-! ### Octets that stand -/
theorem take_at {A x z : List UInt8} {E : Nat} (h : A.length + x.length ≤ E) : (((A ++ x ++ z).take E).drop A.length).take x.length = x := by
  rw [List.append_assoc, List.take_append, show List.take E A = A from List.take_of_length_le (by omega), List.drop_left' rfl, List.take_take, show min x.length (E - A.length) = x.length from by omega, List.take_left' rfl]
theorem takR_back {A x z : List UInt8} {E : Nat} (h : A.length + x.length ≤ E) (hE : E ≤ (A ++ x ++ z).length) : takR ((A ++ x ++ z).take E) A.length (x.length : Nat) = ⟨x, 0, A.length + x.length⟩ := by
  have hl : ((A ++ x ++ z).take E).length = E := by rw [List.length_take]; omega
  unfold takR
  rw [hl, if_neg (by omega), if_neg (by omega)]
  rw [show ((x.length : Nat) : Int).toNat = x.length from by simp, take_at h]
/-! ### Numbers -/
theorem nums_back : ∀ (vs ns : List Nat) (A z : List UInt8) (E : Nat), vs.length = ns.length → (∀ n ∈ ns, n ≤ 4) → chkW vs ns = 0 → A.length + (numsB vs ns).length ≤ E → E ≤ (A ++ numsB vs ns ++ z).length →
    rdNums ((A ++ numsB vs ns ++ z).take E) ns A.length = ⟨vs, 0, A.length + (numsB vs ns).length⟩
  | [], [], A, z, E, _, _, _, _, _ => by simp [rdNums, numsB]
  | [], _ :: _, _, _, _, h, _, _, _, _ => by simp at h
  | _ :: _, [], _, _, _, h, _, _, _, _ => by simp at h
  | v :: vs, n :: ns, A, z, E, hl, h4, hc, h1, h2 => by
    obtain ⟨hv, hc'⟩ := chkW_two hc
    have hn4 := h4 n List.mem_cons_self
    simp only [List.length_cons] at hl
    have h4' : ∀ n ∈ ns, n ≤ 4 := fun m hm => h4 m (List.mem_cons_of_mem _ hm)
    have hB : numsB (v :: vs) (n :: ns) = octs v n ++ numsB vs ns := rfl
    have hBl : (numsB (v :: vs) (n :: ns)).length = n + (numsB vs ns).length := by rw [hB, List.length_append, octs_length]
    have hT : A ++ numsB (v :: vs) (n :: ns) ++ z = (A ++ octs v n) ++ numsB vs ns ++ z := by rw [hB]; simp
    have ih := nums_back vs ns (A ++ octs v n) z E (by omega) h4' hc' (by rw [List.length_append, octs_length]; omega) (by rw [← hT]; exact h2)
    rw [← hT, List.length_append, octs_length] at ih
    unfold rdNums
    by_cases h0 : n = 0
    · subst h0
      rw [if_pos rfl]
      have hv0 : v = 0 := by simpa using hv
      have ih' : rdNums (List.take E (A ++ numsB (v :: vs) (0 :: ns) ++ z)) ns A.length = ⟨vs, 0, A.length + 0 + (numsB vs ns).length⟩ := ih
      rw [ih', hBl, hv0]
      simp
    · rw [if_neg h0]
      have hT2 : A ++ numsB (v :: vs) (n :: ns) ++ z = A ++ octs v n ++ (numsB vs ns ++ z) := by rw [hB]; simp
      have hr : numR (List.take E (A ++ numsB (v :: vs) (n :: ns) ++ z)) A.length n = ⟨octs v n, 0, A.length + n⟩ := by
        unfold numR
        rw [show isW (n : Int) = true from by simp [isW]; omega]
        simp only [Bool.true_eq_false, if_false]
        rw [hT2]
        have := takR_back (A := A) (x := octs v n) (z := numsB vs ns ++ z) (E := E) (by rw [octs_length]; omega) (by rw [← hT2]; exact h2)
        rw [octs_length] at this
        exact this
      rw [hr]
      simp only [ne_eq, not_true_eq_false, if_false]
      rw [ih, hBl, num_octs n v hv]
      simp
      omega
/-! ### Names -/
theorem ru_read {x : List UInt8} {p r e c : Nat} {n : List UInt8} (h : Ru x r p n e c) (hn : n.length ≤ 254) (hp : p ≤ x.length) (hr : r ≤ x.length) : (readU x p r).f = 0 ∧ (readU x p r).l = n ∧ (readU x p r).e = e := by
  have e1 : readU x (p : Int) (r : Int) = runU x (muU x (begU p r)) (begU p r) := if_neg (by omega)
  rw [e1]
  obtain ⟨a1, a2, a3, a4⟩ := h.run (muU x (begU p r)) (begU p r) rfl rfl rfl (by simpa [begU] using hn) (begU_inv hp hr) (Nat.le_refl _)
  exact ⟨a1, a2, a3⟩
theorem name_back {T : List UInt8} {E k e c : Nat} {n : List UInt8} {ptd : Bool} (h : Ru T (if ptd then k else 0) k n e c) (hn : n.length ≤ 254) (hk : k ≤ T.length) (he : e ≤ E) (hE : E ≤ T.length) : rdName T (T.take E) ptd k = ⟨n, 0, e⟩ := by
  have hb : (if ptd then k else 0) ≤ T.length := by split <;> omega
  have hcast : (((if ptd = true then k else 0 : Nat)) : Int) = (if ptd = true then (k : Int) else 0) := by cases ptd <;> rfl
  obtain ⟨h1, h2, h3⟩ := ru_read h hn hk hb
  have hl : (T.take E).length = E := by rw [List.length_take]; omega
  have hs : seekR (T.take E) k (e : Int) = (0, e) := by
    unfold seekR
    rw [hl, if_neg (by omega)]
    simp
  unfold rdName
  cases ptd
  · have h1' : (readU T k 0).f = 0 := h1
    have h2' : (readU T k 0).l = n := h2
    have h3' : (readU T k 0).e = e := h3
    simp only [Bool.false_eq_true, if_false]
    simp [h1', h2', h3', hs]
  · have h1' : (readU T k k).f = 0 := h1
    have h2' : (readU T k k).l = n := h2
    have h3' : (readU T k k).e = e := h3
    simp only [if_true]
    simp [h1', h2', h3', hs]
theorem plain_back {s : PS} {x : List UInt8} (h : GoodR s) (hc : chkN x = 0) (hM : s.l.length + 255 ≤ 65535) :
    GoodR (plainS 65535 s x).2 ∧ ∃ c, Ru (plainS 65535 s x).2.l 0 s.l.length x (plainS 65535 s x).2.l.length c := by
  have hx := chkN_len hc
  obtain ⟨h3, _⟩ := plainF_put 65535 (x.length + 1) x s (by omega) (labs_of_chk hc) h.good.f (by omega)
  rw [(nameS_run' h.good.f hc).2, h3]
  refine ⟨h.app (by simp; omega), 0, ?_⟩
  obtain ⟨L, hL, hxL⟩ := labs_of_chk hc
  have h1 := Ru.labs (x := s.l ++ (enc L ++ [0])) (r := 0) (n := []) (e := s.l.length + (enc L).length + 1) (c := 0) L s.l [0] hL rfl (.nil (by rw [← List.append_assoc, List.getElem?_append_right (by rw [List.length_append]; omega), List.length_append, Nat.sub_self]; rfl))
  rw [List.append_nil, ← hxL] at h1
  have h2 : s.l.length + x.length + 1 = (s.l ++ (x ++ [0])).length := by simp; omega
  show Ru (s.l ++ (x ++ [0])) 0 s.l.length x (s.l ++ (x ++ [0])).length 0
  rw [← h2]
  exact h1
end Go.Proofs.YtodedbokeodmkaaGreat
namespace Go.Proofs.YtodedbokeodmkaaGreat
open Go.RowKit
set_option linter.unusedVariables false

/-- What is read of a part, laid into data. -/
def copyP : Pt → MD → MD → MD
  | .adr _, d, x => { x with six := d.six, hi := d.hi, lo := d.lo }
  | .nam mail _, d, x => putName mail x (nameOf mail d)
  | .num .., d, x => { x with v0 := d.v0, v1 := d.v1, v2 := d.v2, v3 := d.v3, v4 := d.v4 }
  | .txt, d, x => { x with L := d.L }
  | .raw, d, x => { x with r := d.r }
def copyK (K : List Pt) (d x : MD) : MD := K.foldl (fun x p => copyP p d x) x
/-- What one part that is put comes to, and that it is read back. -/
structure PartB (s : PS) (p : Pt) (d : MD) (q : Nat × PS) : Prop where
  ok : q.1 = 0
  good : GoodR q.2
  l : ∃ y, q.2.l = s.l ++ y ∧ y.length ≤ sizeP p d ∧ y.length ≤ 255 ∧ (sizeP p d ≠ 0 → y.length ≠ 0)
  back : ∀ (z : List UInt8) (E : Nat) (x : MD), q.2.l.length ≤ E → E ≤ (q.2.l ++ z).length → rdP (q.2.l ++ z) ((q.2.l ++ z).take E) p x s.l.length = ⟨0, q.2.l.length, copyP p d x⟩
theorem part_back {p : Pt} {d : MD} {s : PS} (hw : wired p = true) (h : GoodR s) (hc : chkP p d = 0) (fd : Fit64 d) (hM : s.l.length + 255 ≤ 65535) : PartB s p d (putP 65535 p d s) := by
  have hk := uqPart hw h.good h.inv hc hM
  cases p with
  | adr six =>
    have sd : d.six = six := by
      by_cases hx : d.six = six
      · exact hx
      · simp [chkP, hx] at hc
    have hc' : chkA d.ad = 0 := by simpa [chkP, sd] using hc
    have hsz : (octA d.ad).length = if six then 16 else 4 := by rw [octA_size]; show (if d.six = true then 16 else 4) = _; rw [sd]
    have hsz' : (octA d.ad).length ≤ 16 := by rw [hsz]; split <;> omega
    have hr : putP 65535 (.adr six) d s = (0, { s with l := s.l ++ octA d.ad }) := put0 h.good.f (by omega)
    rw [hr]
    refine ⟨rfl, h.app (by omega), ⟨octA d.ad, rfl, Nat.le_of_eq hsz, by omega, fun _ => by rw [hsz]; split <;> omega⟩, fun z E x h1 h2 => ?_⟩
    have ht := takR_back (A := s.l) (x := octA d.ad) (z := z) (E := E) (by simpa using h1) h2
    have hn : (((octA d.ad).length : Nat) : Int) = (if six = true then 16 else 4) := by rw [hsz]; cases six <;> rfl
    rw [hn] at ht
    have ho := ofA_back hc' ⟨fd.hi, fd.lo⟩
    show rdP (s.l ++ octA d.ad ++ z) ((s.l ++ octA d.ad ++ z).take E) (.adr six) x s.l.length = ⟨0, (s.l ++ octA d.ad).length, _⟩
    simp only [rdP]
    rw [ht]
    simp only [ne_eq, not_true_eq_false, if_false, ho, List.length_append]
    rfl
  | nam mail ptd =>
    have hl := chkN_len (show chkN (bs (nameOf mail d)) = 0 from hc)
    have hcn : chkN (bs (nameOf mail d)) = 0 := hc
    have hsz : sizeP (.nam mail ptd) d = (bs (nameOf mail d)).length + 1 := by
      show sizeN (bs (nameOf mail d)) = _
      unfold sizeN
      rw [if_pos hcn]
    have hboth : GoodR (putP 65535 (.nam mail ptd) d s).2 ∧ (∃ c, Ru (putP 65535 (.nam mail ptd) d s).2.l (if ptd then s.l.length else 0) s.l.length (bs (nameOf mail d)) (putP 65535 (.nam mail ptd) d s).2.l.length c) ∧ ∃ y, (putP 65535 (.nam mail ptd) d s).2.l = s.l ++ y ∧ y.length ≤ (bs (nameOf mail d)).length + 1 ∧ 1 ≤ y.length := by
      cases ptd
      · obtain ⟨h1, h2⟩ := plain_back h hcn hM
        obtain ⟨y, e1, e0, e2⟩ := (plainS_good (M := 65535) (x := bs (nameOf mail d)) h.good hcn (by omega)).1.l
        exact ⟨h1, h2, y, e1, e2, e0⟩
      · obtain ⟨h1, h2⟩ := nam_back h hcn hM
        obtain ⟨y, e1, e0, e2⟩ := (nameS_good (M := 65535) (x := bs (nameOf mail d)) h.good h.inv hcn (by omega)).1.l
        exact ⟨h1, h2, y, e1, e2, e0⟩
    obtain ⟨hg, ⟨c, hru⟩, y, hy, hyl, hy1⟩ := hboth
    refine ⟨hk.ok, hg, ⟨y, hy, by rw [hsz]; exact hyl, by omega, fun _ => by omega⟩, fun z E x h1 h2 => ?_⟩
    have hlen := congrArg List.length hy
    rw [List.length_append] at hlen
    have hb := name_back (T := (putP 65535 (.nam mail ptd) d s).2.l ++ z) (E := E) (ptd := ptd) (hru.app z) hl (by rw [List.length_append]; omega) h1 h2
    show rdP _ _ (.nam mail ptd) x s.l.length = _
    simp only [rdP]
    rw [hb, mkb_bs]
    rfl
  | num a b c e f =>
    have h4 := ws_four hw
    obtain ⟨hr, hr2⟩ := nums_put (M := 65535) d.vs (ws5 a b c e f) s rfl h4 hc h.good.f (by simp [ws5]; omega)
    have hr' : putP 65535 (.num a b c e f) d s = (0, { s with l := s.l ++ numsB d.vs (ws5 a b c e f) }) := hr
    have hsz : (numsB d.vs (ws5 a b c e f)).length = a + b + c + e + f := by simp [numsB, MD.vs, ws5, octs_length]; omega
    have h20 : (numsB d.vs (ws5 a b c e f)).length ≤ 20 := by simpa [ws5] using hr2
    rw [hr']
    refine ⟨rfl, h.app (by omega), ⟨_, rfl, Nat.le_of_eq hsz, by omega, fun h => by rw [hsz]; exact h⟩, fun z E x h1 h2 => ?_⟩
    have hb := nums_back d.vs (ws5 a b c e f) s.l z E rfl h4 hc (by simpa using h1) h2
    show rdP (s.l ++ numsB d.vs (ws5 a b c e f) ++ z) ((s.l ++ numsB d.vs (ws5 a b c e f) ++ z).take E) (.num a b c e f) x s.l.length = ⟨0, (s.l ++ numsB d.vs (ws5 a b c e f)).length, _⟩
    simp only [rdP]
    rw [hb, List.length_append]
    rfl
  | txt => cases hw
  | raw => cases hw
structure KindB (s : PS) (K : List Pt) (d : MD) (q : Nat × PS) : Prop where
  ok : q.1 = 0
  l : ∃ y, q.2.l = s.l ++ y ∧ y.length ≤ sizeK K d ∧ (sizeK K d ≠ 0 → y.length ≠ 0)
  back : ∀ (z : List UInt8) (E : Nat) (x : MD), q.2.l.length ≤ E → E ≤ (q.2.l ++ z).length → rdK (q.2.l ++ z) ((q.2.l ++ z).take E) K x s.l.length = ⟨0, q.2.l.length, copyK K d x⟩
theorem kind_back : ∀ (K : List Pt) (d : MD) (s : PS), (∀ p ∈ K, wired p = true) → (∀ p ∈ K, chkP p d = 0) → Fit64 d → GoodR s → s.l.length + 255 * K.length ≤ 65535 → KindB s K d (putK 65535 K d s)
  | [], d, s, _, _, _, _, _ => ⟨rfl, ⟨[], by simp [putK], by simp, fun h => absurd rfl h⟩, fun z E x h1 h2 => rfl⟩
  | p :: K, d, s, hw, hc, fd, hg, hM => by
    rw [List.length_cons, Nat.mul_add, Nat.mul_one] at hM
    have hM1 : s.l.length + 255 ≤ 65535 := Nat.le_trans (Nat.add_le_add_left (Nat.le_add_left _ _) _) hM
    have hp := part_back (hw p List.mem_cons_self) hg (hc p List.mem_cons_self) fd hM1
    rw [putK_two hp.ok]
    obtain ⟨ok, good, ⟨y, hy, hy1, hy2, hy3⟩, back⟩ := hp
    obtain ⟨s1, hs1⟩ : ∃ s1, (putP 65535 p d s).2 = s1 := ⟨_, rfl⟩
    rw [hs1] at good hy back ⊢
    have hlen := congrArg List.length hy
    rw [List.length_append] at hlen
    obtain ⟨ok2, ⟨y', hy', hyl', hyn'⟩, back2⟩ := kind_back K d s1 (fun q hq => hw q (List.mem_cons_of_mem _ hq)) (fun q hq => hc q (List.mem_cons_of_mem _ hq)) fd good (by omega)
    have hsk : sizeK (p :: K) d = sizeP p d + sizeK K d := by
      show (List.map (fun q => sizeP q d) (p :: K)).sum = _
      rw [List.map_cons, List.sum_cons]
      rfl
    refine ⟨ok2, ⟨y ++ y', by rw [hy', hy, List.append_assoc], ?_, ?_⟩, fun z E x h1 h2 => ?_⟩
    · rw [List.length_append, hsk]
      exact Nat.add_le_add hy1 hyl'
    · rw [List.length_append, hsk]
      intro hn
      by_cases hz : sizeP p d = 0
      · have := hyn' (by omega); omega
      · have := hy3 hz; omega
    · have hT : (putK 65535 K d s1).2.l ++ z = s1.l ++ (y' ++ z) := by rw [hy', List.append_assoc]
      have hl2 := congrArg List.length hy'
      rw [List.length_append] at hl2
      have hb := back (y' ++ z) E x (by omega) (by rw [← hT]; exact h2)
      have hb2 := back2 z E (copyP p d x) h1 h2
      rw [← hT] at hb
      unfold rdK
      rw [hb]
      simp only [ne_eq, not_true_eq_false, if_false]
      exact hb2

/-! ### A lower end -/
end Go.Proofs.YtodedbokeodmkaaGreat
namespace Go.Proofs.YtodedbokeodmkaaGreat
open Go.RowKit
set_option linter.unusedVariables false

theorem takR_whole (A x z : List UInt8) : takR (A ++ x ++ z) A.length (x.length : Nat) = ⟨x, 0, A.length + x.length⟩ := by
  have h := takR_back (A := A) (x := x) (z := z) (E := (A ++ x ++ z).length) (by simp) (Nat.le_refl _)
  rwa [List.take_length] at h
theorem text_rd (A z : List UInt8) (x : ByteArray) (hx : x.size ≤ 255) : rdText (A ++ ((UInt8.ofNat x.size :: bs x) ++ z)) A.length = ⟨bs x, 0, A.length + (1 + x.size)⟩ := by
  have h1 := takR_whole A [UInt8.ofNat x.size] (bs x ++ z)
  have e1 : A ++ [UInt8.ofNat x.size] ++ (bs x ++ z) = A ++ ((UInt8.ofNat x.size :: bs x) ++ z) := by simp
  rw [e1] at h1
  have hn : numR (A ++ ((UInt8.ofNat x.size :: bs x) ++ z)) A.length 1 = ⟨[UInt8.ofNat x.size], 0, A.length + 1⟩ := by
    unfold numR
    rw [if_neg (by decide)]
    exact h1
  have h2 := takR_whole (A ++ [UInt8.ofNat x.size]) (bs x) z
  have e2 : A ++ [UInt8.ofNat x.size] ++ bs x ++ z = A ++ ((UInt8.ofNat x.size :: bs x) ++ z) := by simp
  rw [e2, List.length_append, bs_length, List.length_singleton, Nat.add_assoc] at h2
  have hv : num [UInt8.ofNat x.size] = x.size := by
    show 0 * 256 + (UInt8.ofNat x.size).toNat = _
    rw [UInt8.toNat_ofNat']
    omega
  unfold rdText
  rw [hn, if_neg (by simp), hv]
  exact h2
theorem texts_rd : ∀ (L : List ByteArray) (A : List UInt8) (acc : List ByteArray) (f : Nat), (∀ x ∈ L, x.size ≤ 255) → (acc = [] → L ≠ []) → (txB L).length < f → rdTexts (A ++ txB L) f acc A.length = ⟨0, (A ++ txB L).length, { md0 with L := acc ++ L }⟩
  | _, _, _, 0, _, _, h => absurd h (Nat.not_lt_zero _)
  | [], A, acc, f + 1, _, hn, _ => by
    unfold rdTexts
    rw [if_neg]
    · simp [txB]
    · rintro (h | h)
      · exact hn h rfl
      · simp [txB] at h
  | x :: L, A, acc, f + 1, hx, hn, hf => by
    have hx1 := hx x List.mem_cons_self
    rw [txB_cons] at hf ⊢
    rw [List.length_append, List.length_cons, bs_length] at hf
    have ht := text_rd A (txB L) x hx1
    unfold rdTexts
    rw [if_pos (.inr (by simp [bs_length])), ht, if_neg (by simp), mkb_bs]
    have ih := texts_rd L (A ++ (UInt8.ofNat x.size :: bs x)) (acc ++ [x]) f (fun y hy => hx y (List.mem_cons_of_mem _ hy)) (fun h => by simp at h) (by omega)
    have e : (A ++ (UInt8.ofNat x.size :: bs x)).length = A.length + (1 + x.size) := by simp [bs_length]; omega
    rw [e, List.append_assoc] at ih
    simp only
    rw [ih]
    simp
/-- The kinds that there are. -/
theorem kind_list (t : Int) : kindK t = [.adr false] ∨ kindK t = [.nam false true] ∨ kindK t = [.nam false true, .nam true true, .num 4 4 4 4 4] ∨ kindK t = [.num 2 0 0 0 0, .nam false true] ∨ kindK t = [.txt] ∨ kindK t = [.adr true] ∨ kindK t = [.num 2 2 2 0 0, .nam false false] ∨ kindK t = [.raw] := by
  unfold kindK table
  repeat' split
  all_goals simp
theorem copy_kind {t : Int} {d : MD} (h : dropK (kindK t) d = md0) : copyK (kindK t) d md0 = d := by
  obtain ⟨six, hi, lo, n, m, v0, v1, v2, v3, v4, L, r⟩ := d
  rcases kind_list t with e | e | e | e | e | e | e | e <;> rw [e] at h ⊢ <;> simp [dropK, dropP, putName, md0] at h <;> simp [copyK, copyP, putName, nameOf, md0, h]
/-- Types: told with a wired kind, texts, raw. -/
theorem type_cases (t : Int) : ((table t).isSome = true ∧ t ≠ 16 ∧ (∀ p ∈ kindK t, wired p = true) ∧ (kindK t).length ≤ 3) ∨ (t = 16 ∧ kindK t = [.txt]) ∨ ((table t).isSome = false ∧ kindK t = [.raw]) := by
  unfold kindK table
  repeat' split
  all_goals first | (refine .inl ⟨rfl, by omega, ?_, ?_⟩ <;> simp [wired]; done) | (refine .inr (.inl ⟨by omega, rfl⟩); done) | exact .inr (.inr ⟨rfl, rfl⟩)
theorem size_some {t : Int} {d : MD} (ht : isT t = true) (h : allK (kindK t) d = 0) : sizeD t d = sizeK (kindK t) d := by
  unfold sizeD
  rw [ht, if_pos rfl, if_neg]
  intro hp
  unfold allK at h
  rw [if_pos hp] at h
  exact hp h
theorem readD_in {T : List UInt8} {a e : Nat} {t : Int} (ht : isT t = true) (ha : a ≤ e) (he : e ≤ T.length) : readD T a e t =
    if (rdK T (T.take e) (kindK t) md0 a).e ≠ 0 then ((rdK T (T.take e) (kindK t) md0 a).e, md0)
    else if (rdK T (T.take e) (kindK t) md0 a).k < e ∨ allK (kindK t) (rdK T (T.take e) (kindK t) md0 a).d ≠ 0 then (4, md0) else (0, (rdK T (T.take e) (kindK t) md0 a).d) := by
  unfold readD
  rw [ht, if_pos rfl, if_neg (by omega), if_neg (by omega)]
  simp only [Int.toNat_natCast]
end Go.Proofs.YtodedbokeodmkaaGreat
namespace Go.Proofs.YtodedbokeodmkaaGreat
open Go.RowKit
set_option linter.unusedVariables false

def octD (d : MD) : Nat := d.r.size + d.n.size + d.m.size
theorem sizeT_takeX {L : List ByteArray} {k : Nat} (h : k < L.length) : sizeT (L.take (k + 1)) = sizeT (L.take k) + (1 + L[k].size) := by
  rw [List.take_succ_eq_append_getElem h]
  unfold sizeT
  rw [List.map_append, List.sum_append]
  simp
theorem sizeT_part (L : List ByteArray) (k : Nat) : sizeT (L.take k) ≤ sizeT L := by
  have h : sizeT L = sizeT (L.take k) + sizeT (L.drop k) := by
    unfold sizeT
    rw [← List.sum_append, ← List.map_append, List.take_append_drop]
  omega
theorem small_all {t : Int} {d : MD} (h0 : allK (kindK t) d = 0) : octD d + sizeT d.L ≤ 66500 ∧ sizeK (kindK t) d ≤ octD d + sizeT d.L + 40 := by
  obtain ⟨hdrop, hchk, h65⟩ := all_facts h0
  obtain ⟨six, hi, lo, n, m, v0, v1, v2, v3, v4, L, r⟩ := d
  have nz : nob.size = 0 := rfl
  have tz : sizeT [] = 0 := rfl
  unfold octD
  rcases kind_list t with e | e | e | e | e | e | e | e <;> rw [e] at hdrop hchk h65 ⊢ <;> simp [dropK, dropP, putName, md0] at hdrop <;> simp [sizeK, sizeP, nameOf, sizeN, bs_length] at h65 ⊢ <;> simp only [hdrop, nz, tz]
  · omega
  · have := chkN_len (hchk (.nam false true) (by simp)); simp [nameOf, bs_length] at this; split <;> omega
  · have a1 := chkN_len (hchk (.nam false true) (by simp)); have a2 := chkN_len (hchk (.nam true true) (by simp)); simp [nameOf, bs_length] at a1 a2; split <;> split <;> omega
  · have := chkN_len (hchk (.nam false true) (by simp)); simp [nameOf, bs_length] at this; split <;> omega
  · omega
  · omega
  · have := chkN_len (hchk (.nam false false) (by simp)); simp [nameOf, bs_length] at this; split <;> omega
  · omega
def LxRel (w : World) (C : Array Value) (d : MD) (vn vi : Value) (wr : World) : Prop :=
  ∃ k : Nat, vi = .int .i64 k ∧ k ≤ d.L.length ∧ vn = .int .i64 ((octD d + sizeT (d.L.take k) : Nat) : Int) ∧ Below w.heap.size w wr ∧ Lies wr w.heap.size 30 C
set_option maxHeartbeats 2000000 in
set_option maxRecDepth 100000 in
theorem Light_small (d : MD) (tv : Value) (w : World) (hf : Fit w d tv) (hs : octD d + sizeT d.L ≤ 66500) : Calls Tryz.prog 23 #[dataV d tv] w (Told w (.bool (decide (octD d + sizeT d.L ≤ 2000)))) := by
  obtain ⟨A, cap, rfl, hl, hc⟩ := hf.row.shape
  have HR := Lib.hid hf.row
  have htl := hf.tl
  have hs0 : octD d ≤ 66500 := by omega
  have HS := Lib.hid hs
  unfold octD at hs0
  have q1 : IntKind.i64.wrap ((d.r.size : Int) + (d.n.size : Int)) = ((d.r.size + d.n.size : Nat) : Int) := by rw [IntWalk.i64_in _ (by omega)]; omega
  have q2 : IntKind.i64.wrap (((d.r.size + d.n.size : Nat) : Int) + (d.m.size : Int)) = ((octD d : Nat) : Int) := by unfold octD; rw [IntWalk.i64_in _ (by omega)]; omega
  unfold maxLen at hc
  have HB0 : Hid (Below w.heap.size w (w.alloc (.cells (cellsD d (.slice A d.L.length cap)) 30))) := Lib.hid ((Below.refl _ w).alloc (Nat.le_refl _) _)
  have HL0 : Hid (Lies (w.alloc (.cells (cellsD d (.slice A d.L.length cap)) 30)) w.heap.size 30 (cellsD d (.slice A d.L.length cap))) := Lib.hid (Lies.new w _ _)
  have c0 := HL0.out.cell 11
  have c1 := HL0.out.cell 3
  have c2 := HL0.out.cell 4
  clear hf hs
  unfold dataV cellsD
  go_enter Tryz.func23, Tryz.ntmps23
  go_wp2
  go_loopw [3, 4] (fun v3 v4 wr => LxRel w (cellsD d (.slice A d.L.length cap)) d v3 v4 wr) (fun _ v4 _ => d.L.length - (intOf v4).toNat)
  case atStart => exact ⟨0, rfl, Nat.zero_le _, rfl, HB0.out, HL0.out⟩
  case round =>
    clear HB0 HL0 c0 c1 c2 q1 q2
    obtain ⟨k, rfl, hk, rfl, hb, hl⟩ := hrel
    have HB := Lib.hid hb
    have HL := Lib.hid hl
    have kc : wr.cell? ⟨w.heap.size, 10, none⟩ = some (.slice A d.L.length cap) := hl.cell 10
    clear hb hl
    have hsk := Nat.le_trans (Nat.add_le_add_left (sizeT_part d.L k) (octD d)) HS.out
    rcases Nat.lt_or_ge k d.L.length with hlt | hge
    · obtain ⟨q0, o0, rfl, hcell0⟩ := srow_at (HR.out.below HB.out (Nat.le_refl _)) hlt
      have hltI : (k : Int) < (d.L.length : Int) := by omega
      have hkk : k + 1 ≤ d.L.length := hlt
      have hsk1 := Nat.le_trans (Nat.add_le_add_left (sizeT_part d.L (k + 1)) (octD d)) HS.out
      rw [sizeT_takeX hlt] at hsk1
      have p1 : IntKind.i64.wrap (((octD d + sizeT (d.L.take k) : Nat) : Int) + (d.L[k].size : Int)) = ((octD d + sizeT (d.L.take k) + d.L[k].size : Nat) : Int) := by rw [IntWalk.i64_in _ (by omega)]; omega
      have p2 : IntKind.i64.wrap (((octD d + sizeT (d.L.take k) + d.L[k].size : Nat) : Int) + 1) = ((octD d + sizeT (d.L.take (k + 1)) : Nat) : Int) := by rw [sizeT_takeX hlt, IntWalk.i64_in _ (by omega)]; omega
      go_wp2
      go_roundw
      case rel => exact ⟨k + 1, by go_num, hkk, congrArg (Value.int .i64) (by rw [sizeT_takeX hlt]; omega), HB.out, HL.out⟩
      case measure => simp [intOf]; omega
    · obtain rfl : k = d.L.length := by omega
      go_wp2
      go_ret
      exact ⟨congrArg (fun b => Ending.returned (Value.bool b)) (decide_eq_decide.2 (by omega)), HB.out⟩
end Go.Proofs.YtodedbokeodmkaaGreat
namespace Go.Proofs.YtodedbokeodmkaaGreat
open Go.RowKit Go.Maps
set_option linter.unusedVariables false
set_option maxRecDepth 100000

section
variable {w w' : World} {base g gw gm n M : Nat} {F F' F2 : Nat → Prop} {sv : Value} {s : PS}
/-- The packer's own blocks are not turned. -/
theorem PK.kept (h : PK w base F g M s) (hsz : w.heap.size ≤ w'.heap.size) (hs : ∀ k, F k → w'.heap[k]? = w.heap[k]?) : PK w' base F g M s := by
  obtain ⟨gw, gm, n, sv, h⟩ := h
  have hw : WR w' base gw M s.l s.f := by
    have hr : ∀ k, rowOf w gw = some k → w'.heap[k]? = w.heap[k]? := fun k hk => hs k (h.Fr k hk)
    obtain ⟨v, hL, hown⟩ := h.wr
    refine ⟨v, lies_same hL (hs gw h.Fw), hown.1, hown.2.imp id fun ⟨g', cap, cur, h1, h2, h3, h4⟩ => ⟨g', cap, cur, h1, h2, ?_, h4⟩⟩
    rw [hr g' (by rw [rowOf_lies hL rfl, h1]; rfl)]
    exact h3
  refine ⟨gw, gm, n, sv, lies_same h.lies (hs g h.Fg), hw, h.op.same fun k hk => hs k (h.Fo k hk), h.mp.same (hs gm h.Fm), h.hn, h.inv, h.bg, h.bw, h.bm, h.Fg, h.Fw, h.Fm, h.Fo, fun k hk => h.Fr k ?_, fun k hk => ⟨(h.Fl k hk).1, Nat.lt_of_lt_of_le (h.Fl k hk).2 hsz⟩⟩
  rwa [rowOf_same (hs gw h.Fw)] at hk
/-- Another packer is written. -/
theorem PK.other {b2 : Nat} {F2' : Nat → Prop} (h : PK w base F g M s) (hk : Kf b2 F2 F2' w w') (hd : ∀ k, F k → ¬ F2 k) : PK w' base F g M s :=
  h.kept hk.below.size fun k hF => hk.rest k (h.lt hF).2 (hd k hF)
end

end Go.Proofs.YtodedbokeodmkaaGreat
