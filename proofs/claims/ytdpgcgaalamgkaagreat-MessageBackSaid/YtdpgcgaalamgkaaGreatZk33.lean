/-
  What is put does not hang on what octets stand ahead, but on how many; data that are put are read back, whatever stands behind: plain mathematics. Conditions as stated. Data, questions, records that are put are read back, whatever stands behind: plain mathematics. Conditions as stated. Questions and records that are put are read back, whatever stands behind: plain mathematics. Conditions as stated. The walk of the law's own light; unlike records have unlike octets. Conditions: as each theorem names them. Rows of values of more than one cell: as they can be read; as the call owns them, beside a packer; append of one more. Conditions: as each theorem names them. Rows of questions, of records, as a law gets them: opened. Condition: no slice of them is longer than a machine's memory (the form's own reach). Readings one behind the other; what one more of a row comes to: plain mathematics. Conditions as stated. What RecordBack goes through: appends of questions, records, ends beside a packer; elements loaded; the relations of its loops. Conditions: as each theorem names them.
-/
import Derived.Test.YtdpgcgaalamgkaaGreatZk29
import Derived.Test.YtdpgcgaalamgkaaGreatZk30
import Derived.Test.YtdpgcgaalamgkaaGreatZk32
import Derived.Deep.MidRow
import Derived.Deep.Slices
import Derived.Maps.AppendAt
import Derived.OpenShut
import Derived.Carry
namespace Go.Proofs.YtdpgcgaalamgkaaGreat
open Go.RowKit
set_option linter.unusedVariables false

def lay (s : PS) (l : List UInt8) : PS := { s with l := l }
/-- F adds octets, which do not hang on those ahead. -/
def Sw (F : PS → Nat × PS) : Prop := ∀ s l', l'.length = s.l.length → ∃ y, (F s).2.l = s.l ++ y ∧ (F s).2.o = s.o ∧ F (lay s l') = ((F s).1, lay (F s).2 (l' ++ y))
theorem sw_put (M : Nat) (x : List UInt8) : Sw fun s => putS M s x := by
  intro s l' h
  unfold putS putW lay
  by_cases hf : s.f = 0
  · by_cases hl : M < s.l.length + x.length
    · refine ⟨[], ?_⟩
      simp [hf, hl, h]
    · refine ⟨x, ?_⟩
      simp [hf, hl, h]
  · refine ⟨[], ?_⟩
    simp [hf]
theorem sw_num (M v : Nat) (n : Int) : Sw fun s => numS M s v n := by
  intro s l' h
  unfold numS numW putW lay
  by_cases hf : s.f = 0
  · by_cases hr : room v n = false
    · refine ⟨[], ?_⟩
      simp [hf, hr]
    · by_cases hl : M < s.l.length + (octs v n.toNat).length
      · refine ⟨[], ?_⟩
        simp [hf, hr, hl, h]
      · refine ⟨octs v n.toNat, ?_⟩
        simp [hf, hr, hl, h]
  · refine ⟨[], ?_⟩
    simp [hf]
/-- One behind the other. -/
theorem Sw.seq {F G : PS → Nat × PS} (hF : Sw F) (hG : Sw G) : Sw fun s => if (F s).1 = 0 then G (F s).2 else F s := by
  intro s l' h
  obtain ⟨y, h1, h2, h3⟩ := hF s l' h
  by_cases hz : (F s).1 = 0
  · obtain ⟨y', g1, g2, g3⟩ := hG (F s).2 (l' ++ y) (by rw [h1, List.length_append, List.length_append, h])
    refine ⟨y ++ y', ?_⟩
    simp only [hz, if_true, h3]
    exact ⟨by rw [g1, h1, List.append_assoc], by rw [g2, h2], by rw [g3, List.append_assoc]⟩
  · refine ⟨y, ?_⟩
    simp only [hz, if_false, h3]
    exact ⟨h1, h2, trivial⟩
theorem lay_keep (s : PS) (r l : List UInt8) (a : Nat) : keepS (lay s l) r a = lay (keepS s r a) l := by
  unfold keepS lay
  split <;> rfl
theorem keep_l (s : PS) (r : List UInt8) (a : Nat) : (keepS s r a).l = s.l ∧ (keepS s r a).o = s.o := by
  unfold keepS
  split <;> exact ⟨rfl, rfl⟩
theorem sw_nameF (M : Nat) : ∀ (k : Nat) (r : List UInt8), Sw fun s => nameF M k r s
  | 0, r => fun s l' h => ⟨[], by simp [nameF, lay]⟩
  | k + 1, r => by
    intro s l' h
    by_cases hr : r = []
    · subst hr
      simp only [nameF_nil]
      exact sw_put M [0] s l' h
    · cases hm : s.m r with
      | some a =>
        simp only [nameF_some hr hm, nameF_some (s := lay s l') hr hm]
        exact sw_num M (49152 + a) 2 s l' h
      | none =>
        obtain ⟨y, h1, h2, h3⟩ := (show ∃ y, (putS M s (headN r)).2.l = s.l ++ y ∧ (putS M s (headN r)).2.o = s.o ∧ putS M (lay s l') (headN r) = ((putS M s (headN r)).1, lay (putS M s (headN r)).2 (l' ++ y)) from sw_put M (headN r) s l' h)
        by_cases hp : (putS M s (headN r)).1 = 0
        · have hp' : (putS M (lay s l') (headN r)).1 = 0 := by rw [h3]; exact hp
          simp only [nameF_next hr hm hp, nameF_next (s := lay s l') hr hm hp']
          rw [h3]
          simp only
          rw [lay_keep, show (lay s l').l.length = s.l.length from h]
          obtain ⟨y', g1, g2, g3⟩ := sw_nameF M k (restN r) (keepS (putS M s (headN r)).2 r s.l.length) (l' ++ y) (by rw [(keep_l _ _ _).1, h1, List.length_append, List.length_append, h])
          simp only at g1 g2 g3
          rw [(keep_l _ _ _).1, h1] at g1
          rw [(keep_l _ _ _).2, h2] at g2
          exact ⟨y ++ y', by rw [g1, List.append_assoc], g2, by rw [g3, List.append_assoc]⟩
        · have hp' : ¬ (putS M (lay s l') (headN r)).1 = 0 := by rw [h3]; exact hp
          simp only [nameF_long hr hm hp, nameF_long (s := lay s l') hr hm hp']
          exact ⟨y, h1, h2, h3⟩
theorem sw_plainF (M : Nat) : ∀ (k : Nat) (r : List UInt8), Sw fun s => plainF M k r s
  | 0, r => fun s l' h => ⟨[], by simp [plainF, lay]⟩
  | k + 1, r => by
    intro s l' h
    by_cases hr : r = []
    · subst hr
      simp only [plainF_nil]
      exact sw_put M [0] s l' h
    · obtain ⟨y, h1, h2, h3⟩ := (show ∃ y, (putS M s (headN r)).2.l = s.l ++ y ∧ (putS M s (headN r)).2.o = s.o ∧ putS M (lay s l') (headN r) = ((putS M s (headN r)).1, lay (putS M s (headN r)).2 (l' ++ y)) from sw_put M (headN r) s l' h)
      by_cases hp : (putS M s (headN r)).1 = 0
      · have hp' : (putS M (lay s l') (headN r)).1 = 0 := by rw [h3]; exact hp
        simp only [plainF_next hr hp, plainF_next (s := lay s l') hr hp']
        rw [h3]
        obtain ⟨y', g1, g2, g3⟩ := sw_plainF M k (restN r) (putS M s (headN r)).2 (l' ++ y) (by rw [h1, List.length_append, List.length_append, h])
        simp only at g1 g2 g3
        rw [h1] at g1
        rw [h2] at g2
        exact ⟨y ++ y', by rw [g1, List.append_assoc], g2, by rw [g3, List.append_assoc]⟩
      · have hp' : ¬ (putS M (lay s l') (headN r)).1 = 0 := by rw [h3]; exact hp
        simp only [plainF_long hr hp, plainF_long (s := lay s l') hr hp']
        exact ⟨y, h1, h2, h3⟩
theorem sw_name (M : Nat) (x : List UInt8) : Sw fun s => nameS M s x := by
  intro s l' h
  unfold nameS
  by_cases hf : s.f = 0
  · by_cases hc : chkN x = 0
    · simp only [hf, hc, show (lay s l').f = 0 from hf, ne_eq, not_true_eq_false, if_false]
      exact sw_nameF M _ x s l' h
    · simp only [hf, hc, show (lay s l').f = 0 from hf, ne_eq, not_true_eq_false, not_false_eq_true, if_false, if_true]
      exact ⟨[], by simp, trivial, by simp [lay]⟩
  · simp only [hf, show ¬ (lay s l').f = 0 from hf, ne_eq, not_false_eq_true, if_true]
    exact ⟨[], by simp, trivial, by simp [lay]⟩
theorem sw_plain (M : Nat) (x : List UInt8) : Sw fun s => plainS M s x := by
  intro s l' h
  unfold plainS
  by_cases hf : s.f = 0
  · by_cases hc : chkN x = 0
    · simp only [hf, hc, show (lay s l').f = 0 from hf, ne_eq, not_true_eq_false, if_false]
      exact sw_plainF M _ x s l' h
    · simp only [hf, hc, show (lay s l').f = 0 from hf, ne_eq, not_true_eq_false, not_false_eq_true, if_false, if_true]
      exact ⟨[], by simp, trivial, by simp [lay]⟩
  · simp only [hf, show ¬ (lay s l').f = 0 from hf, ne_eq, not_false_eq_true, if_true]
    exact ⟨[], by simp, trivial, by simp [lay]⟩
theorem sw_nums (M : Nat) : ∀ (vs ns : List Nat), Sw fun s => numsS M vs ns s
  | [], _ => fun s l' h => ⟨[], by simp [numsS, lay]⟩
  | _ :: _, [] => fun s l' h => ⟨[], by simp [numsS, lay]⟩
  | v :: vs, n :: ns => by
    by_cases hn : n = 0
    · have e : (fun s => numsS M (v :: vs) (n :: ns) s) = fun s => numsS M vs ns s := by
        funext s
        conv => lhs; unfold numsS
        rw [if_pos hn]
      rw [e]
      exact sw_nums M vs ns
    · have e : (fun s => numsS M (v :: vs) (n :: ns) s) = fun s => if (numS M s v n).1 = 0 then numsS M vs ns (numS M s v n).2 else numS M s v n := by
        funext s
        conv => lhs; unfold numsS
        rw [if_neg hn]
      rw [e]
      exact (sw_num M v n).seq (sw_nums M vs ns)
theorem sw_texts (M : Nat) : ∀ (L : List ByteArray), Sw fun s => textsS M L s
  | [] => fun s l' h => ⟨[], by simp [textsS, lay]⟩
  | x :: L => by
    have e : (fun s => textsS M (x :: L) s) = fun s => if (textS1 M s x).1 = 0 then textsS M L (textS1 M s x).2 else textS1 M s x := by funext s; rfl
    rw [e]
    have e1 : (fun s => textS1 M s x) = fun s => if (numS M s x.size 1).1 = 0 then putS M (numS M s x.size 1).2 (bs x) else numS M s x.size 1 := rfl
    have h1 : Sw fun s => textS1 M s x := by rw [e1]; exact (sw_num M x.size 1).seq (sw_put M (bs x))
    exact h1.seq (sw_texts M L)
theorem sw_putP (M : Nat) (p : Pt) (d : MD) : Sw fun s => putP M p d s := by
  cases p with
  | adr six => exact sw_put M _
  | nam mail ptd => cases ptd; exact sw_plain M _; exact sw_name M _
  | num a b c e f => exact sw_nums M _ _
  | txt => exact sw_texts M _
  | raw => exact sw_put M _
theorem sw_putK (M : Nat) (d : MD) : ∀ K : List Pt, Sw fun s => putK M K d s
  | [] => fun s l' h => ⟨[], by simp [putK, lay]⟩
  | p :: K => by
    have e : (fun s => putK M (p :: K) d s) = fun s => if (putP M p d s).1 = 0 then putK M K d (putP M p d s).2 else putP M p d s := by funext s; rfl
    rw [e]
    exact (sw_putP M p d).seq (sw_putK M d K)
end Go.Proofs.YtdpgcgaalamgkaaGreat
namespace Go.Proofs.YtdpgcgaalamgkaaGreat
open Go.RowKit
set_option linter.unusedVariables false

theorem kind_good : ∀ (K : List Pt) (d : MD) (s : PS), (∀ p ∈ K, wired p = true) → (∀ p ∈ K, chkP p d = 0) → Fit64 d → GoodR s → s.l.length + 255 * K.length ≤ 65535 → GoodR (putK 65535 K d s).2
  | [], d, s, _, _, _, h, _ => h
  | p :: K, d, s, hw, hc, fd, hg, hM => by
    rw [List.length_cons, Nat.mul_add, Nat.mul_one] at hM
    have hM1 : s.l.length + 255 ≤ 65535 := Nat.le_trans (Nat.add_le_add_left (Nat.le_add_left _ _) _) hM
    have hp := part_back (hw p List.mem_cons_self) hg (hc p List.mem_cons_self) fd hM1
    rw [putK_two hp.ok]
    obtain ⟨ok, good, ⟨y, hy, hy1, hy2, hy3⟩, back⟩ := hp
    have hlen := congrArg List.length hy
    rw [List.length_append] at hlen
    exact kind_good K d _ (fun q hq => hw q (List.mem_cons_of_mem _ hq)) (fun q hq => hc q (List.mem_cons_of_mem _ hq)) fd good (by omega)
/-- What data that are put come to. -/
structure DatB (t : Int) (d : MD) (s : PS) (q : Nat × PS) : Prop where
  ok : q.1 = 0
  good : GoodR q.2
  l : ∃ y, q.2.l = s.l ++ y ∧ y.length ≤ sizeD t d
  back : ∀ z, readD (q.2.l ++ z) s.l.length q.2.l.length t = (0, d)
theorem data_back {t : Int} {d : MD} {s : PS} (ht : isT t = true) (h0 : allK (kindK t) d = 0) (fd : Fit64 d) (hg : GoodR s) (hs : s.l.length + 765 ≤ 65535) (hz : s.l.length + sizeK (kindK t) d ≤ 65535) : DatB t d s (putD 65535 t d s) := by
  obtain ⟨hdrop, hchk, h65⟩ := all_facts h0
  have hput : putD 65535 t d s = putK 65535 (kindK t) d s := by
    unfold putD
    rw [ht, if_pos rfl, if_neg (by simp [h0])]
  have hcopy := copy_kind hdrop
  rw [hput]
  have hsz := size_some ht h0
  rcases type_cases t with ⟨hsome, h16, hw, hl3⟩ | ⟨h16, hk⟩ | ⟨hnone, hk⟩
  · obtain ⟨ok, ⟨y, hy, hyl, hyn⟩, back⟩ := kind_back (kindK t) d s hw hchk fd hg (by omega)
    have hgd := kind_good (kindK t) d s hw hchk fd hg (by omega)
    obtain ⟨q, hq⟩ : ∃ q, putK 65535 (kindK t) d s = q := ⟨_, rfl⟩
    rw [hq] at ok hy back hgd ⊢
    have hlen := congrArg List.length hy
    rw [List.length_append] at hlen
    refine ⟨ok, hgd, ⟨y, hy, by rw [hsz]; exact hyl⟩, fun z => ?_⟩
    have b1 := back z q.2.l.length md0 (Nat.le_refl _) (by rw [List.length_append]; omega)
    rw [hcopy] at b1
    rw [readD_in ht (by omega) (by rw [List.length_append]; omega), b1, if_neg (by simp), if_neg]
    simp [h0]
  · rw [hk] at hchk hz h65 ⊢
    have ta := txt_all (hchk _ List.mem_cons_self)
    have hsT : sizeK [.txt] d = sizeT d.L := by simp [sizeK, sizeP]
    have hne : d.L ≠ [] := fun h => by have := hchk .txt List.mem_cons_self; simp [chkP, h] at this
    have pa := texts_put (M := 65535) d.L s hg.good.f ta (by omega)
    have pk : putK 65535 [.txt] d s = (0, { s with l := s.l ++ txB d.L }) := by
      rw [putK_two (show (putP 65535 .txt d s).1 = 0 from by show (textsS 65535 d.L s).1 = 0; rw [pa])]
      show (0, (textsS 65535 d.L s).2) = _
      rw [pa]
    rw [pk]
    have hl := txB_length d.L
    refine ⟨rfl, hg.app (by omega), ⟨_, rfl, (by rw [hsz, hk, hsT, hl]; exact Nat.le_refl _)⟩, fun z => ?_⟩
    simp only
    rw [readD_in ht (by simp) (by simp), hk]
    have hR : (s.l ++ txB d.L ++ z).take (s.l ++ txB d.L).length = s.l ++ txB d.L := List.take_left' rfl
    rw [hR]
    have hrd := texts_rd d.L s.l [] ((s.l ++ txB d.L).length + 1 - s.l.length) ta (fun _ => hne) (by rw [List.length_append]; omega)
    have hrk : rdK (s.l ++ txB d.L ++ z) (s.l ++ txB d.L) [.txt] md0 s.l.length = ⟨0, (s.l ++ txB d.L).length, d⟩ := by
      have e1 : rdP (s.l ++ txB d.L ++ z) (s.l ++ txB d.L) .txt md0 s.l.length = ⟨0, (s.l ++ txB d.L).length, d⟩ := by
        simp only [rdP]
        have hm0 : md0.L = [] := rfl
        rw [hm0, hrd]
        rw [hk] at hcopy
        have hc' : { md0 with L := d.L } = d := hcopy
        simp only [List.nil_append]
        congr 1
      rw [rdK, e1]
      simp [rdK]
    rw [hrk, if_neg (by simp), if_neg]
    rw [hk] at h0
    simp [h0]
  · rw [hk] at hchk hz h65 ⊢
    have hsT : sizeK [.raw] d = d.r.size := by simp [sizeK, sizeP]
    have pa := put0 (M := 65535) (s := s) (x := bs d.r) hg.good.f (by rw [bs_length]; omega)
    have pk : putK 65535 [.raw] d s = (0, { s with l := s.l ++ bs d.r }) := by
      rw [putK_two (show (putP 65535 .raw d s).1 = 0 from by show (putS 65535 s (bs d.r)).1 = 0; rw [pa])]
      show (0, (putS 65535 s (bs d.r)).2) = _
      rw [pa]
    rw [pk]
    have h0' := h0
    rw [hk] at hcopy h0'
    have hc' : { md0 with r := d.r } = d := hcopy
    refine ⟨rfl, hg.app (by rw [bs_length]; omega), ⟨_, rfl, (by rw [hsz, hk, hsT, bs_length]; exact Nat.le_refl _)⟩, fun z => ?_⟩
    simp only
    rw [readD_in ht (by simp) (by simp), hk]
    have hR : (s.l ++ bs d.r ++ z).take (s.l ++ bs d.r).length = s.l ++ bs d.r := List.take_left' rfl
    have hrk : rdK (s.l ++ bs d.r ++ z) (s.l ++ bs d.r) [.raw] md0 s.l.length = ⟨0, (s.l ++ bs d.r).length, d⟩ := by
      simp only [rdK, rdP, ne_eq, not_true_eq_false, if_false]
      rw [List.drop_left' rfl, mkb_bs, hc']
    rw [hR, hrk, if_neg (by simp), if_neg]
    simp [h0']
/-- Texts that were put without an error have had room. -/
theorem texts_fit {M : Nat} : ∀ (L : List ByteArray) (s : PS), s.f = 0 → (∀ x ∈ L, x.size ≤ 255) → s.l.length ≤ M → (textsS M L s).2.f = 0 → s.l.length + sizeT L ≤ M
  | [], s, _, _, h, _ => by simpa [sizeT] using h
  | x :: L, s, hf, hx, hM, h => by
    have hx1 := hx x List.mem_cons_self
    by_cases hl : s.l.length + (1 + x.size) ≤ M
    · have h1 := text1 (M := M) (x := x) hf hx1 hl
      unfold textsS at h
      rw [h1] at h
      simp only [if_true] at h
      have hlen : (s.l ++ (UInt8.ofNat x.size :: bs x)).length = s.l.length + (1 + x.size) := by simp [bs_length]; omega
      have ih := texts_fit L { s with l := s.l ++ (UInt8.ofNat x.size :: bs x) } hf (fun y hy => hx y (List.mem_cons_of_mem _ hy)) (by show (s.l ++ _).length ≤ M; rw [hlen]; exact hl) h
      simp only at ih
      rw [hlen] at ih
      simp [sizeT] at ih ⊢
      omega
    · exfalso
      have h3 : (textS1 M s x).1 ≠ 0 ∧ (textS1 M s x).2.f ≠ 0 := by
        unfold textS1
        by_cases hl1 : s.l.length + 1 ≤ M
        · rw [num1 hf hx1 hl1]
          simp only [if_true]
          have e : putS M { s with l := s.l ++ [UInt8.ofNat x.size] } (bs x) = (3, { s with l := s.l ++ [UInt8.ofNat x.size], f := 3 }) := by
            unfold putS putW
            simp only [hf, ne_eq, not_true_eq_false, if_false]
            rw [if_pos (by simp [bs_length]; omega)]
          rw [e]
          exact ⟨by simp, by simp⟩
        · have e : numS M s x.size 1 = (3, { s with f := 3 }) := by
            unfold numS numW
            rw [if_neg (by simp [hf]), if_neg (by simp [room1 hx1])]
            unfold putW
            rw [if_neg (by simp [hf]), if_pos (by rw [octs_length]; simp; omega)]
          rw [e]
          exact ⟨by simp, by simp⟩
      unfold textsS at h
      rw [if_neg h3.1] at h
      exact h3.2 h
theorem data_fit {t : Int} {d : MD} {s : PS} (ht : isT t = true) (h0 : allK (kindK t) d = 0) (hg : GoodR s) (hs : s.l.length + 765 ≤ 65535) (hf : (putD 65535 t d s).2.f = 0) : (∀ p ∈ kindK t, wired p = true) ∧ (kindK t).length ≤ 3 ∨ s.l.length + sizeK (kindK t) d ≤ 65535 := by
  obtain ⟨hdrop, hchk, h65⟩ := all_facts h0
  have hput : putD 65535 t d s = putK 65535 (kindK t) d s := by
    unfold putD
    rw [ht, if_pos rfl, if_neg (by simp [h0])]
  rw [hput] at hf
  rcases type_cases t with ⟨hsome, h16, hw, hl3⟩ | ⟨h16, hk⟩ | ⟨hnone, hk⟩
  · exact .inl ⟨hw, hl3⟩
  · right
    rw [hk] at hchk hf ⊢
    have ta := txt_all (hchk _ List.mem_cons_self)
    rw [put_one] at hf
    have := texts_fit (M := 65535) d.L s hg.good.f ta (by omega) hf
    simpa [sizeK, sizeP] using this
  · right
    rw [hk] at hf ⊢
    rw [put_one] at hf
    have hf' : (putS 65535 s (bs d.r)).2.f = 0 := hf
    have hsz : sizeK [.raw] d = d.r.size := by simp [sizeK, sizeP]
    rw [hsz]
    refine Classical.byContradiction fun hn => ?_
    unfold putS putW at hf'
    rw [if_neg (by simp [hg.good.f]), if_pos (by rw [bs_length]; omega)] at hf'
    cases hf'
end Go.Proofs.YtdpgcgaalamgkaaGreat
namespace Go.Proofs.YtdpgcgaalamgkaaGreat
open Go.RowKit
set_option linter.unusedVariables false
set_option maxRecDepth 10000

theorem numR_whole (A x z : List UInt8) (h1 : 1 ≤ x.length) (h4 : x.length ≤ 4) : numR (A ++ x ++ z) A.length (x.length : Nat) = ⟨x, 0, A.length + x.length⟩ := by
  unfold numR
  rw [if_neg (by simp [isW]; omega)]
  exact takR_whole A x z
theorem numR_octs (A z : List UInt8) (v n : Nat) (h1 : 1 ≤ n) (h4 : n ≤ 4) : numR (A ++ octs v n ++ z) A.length (n : Nat) = ⟨octs v n, 0, A.length + n⟩ := by
  have h := numR_whole A (octs v n) z (by rw [octs_length]; exact h1) (by rw [octs_length]; exact h4)
  rwa [octs_length] at h
/-- What a question that is put comes to. -/
structure QuB (q : MQ) (s : PS) (p : Nat × PS) : Prop where
  ok : p.1 = 0
  good : GoodR p.2
  o : p.2.o = s.o
  l : ∃ y, p.2.l = s.l ++ y ∧ y.length ≤ sizeN (bs q.n) + 4
  back : ∀ z, rdQ (p.2.l ++ z) (s.l.length : Nat) = ⟨0, p.2.l.length, q⟩
theorem quest_back {q : MQ} {s : PS} (hg : GoodR s) (hc : checkQ q = 0) (hs : s.l.length + 300 ≤ 65535) : QuB q s (putQ 65535 q s) := by
  obtain ⟨hn, ht, hcl⟩ := checkQ_zero hc
  obtain ⟨t1, t2⟩ := isT_yes ht
  obtain ⟨c1, c2⟩ := isT_yes hcl
  have hx := chkN_len hn
  have hr0 : refC s.f (checkQ q) = 0 := by rw [hg.good.f, hc]; rfl
  have hsz : sizeN (bs q.n) = (bs q.n).length + 1 := by unfold sizeN; rw [if_pos hn]
  obtain ⟨hg1, c, hru⟩ := nam_back hg hn (by omega)
  obtain ⟨y1, e1, _, l1⟩ := (nameS_good (M := 65535) (x := bs q.n) hg.good hg.inv hn (by omega)).1.l
  obtain ⟨y1', e1', _, o1⟩ : ∃ y, (nameS 65535 s (bs q.n)).2.l = s.l ++ y ∧ True ∧ (nameS 65535 s (bs q.n)).2.o = s.o := by
    obtain ⟨y, a, b, _⟩ := sw_name 65535 (bs q.n) s s.l rfl
    exact ⟨y, a, trivial, b⟩
  obtain ⟨s1, hs1⟩ : ∃ x, (nameS 65535 s (bs q.n)).2 = x := ⟨_, rfl⟩
  rw [hs1] at hg1 hru e1 o1
  have hlen1 := congrArg List.length e1
  rw [List.length_append] at hlen1
  obtain ⟨qn, qt, qc⟩ := q
  simp only at *
  obtain ⟨tn, rfl⟩ := Int.eq_ofNat_of_zero_le t1
  obtain ⟨cn, rfl⟩ := Int.eq_ofNat_of_zero_le c1
  have p2 : numS 65535 s1 tn 2 = (0, { s1 with l := s1.l ++ octs tn 2 }) := numS_ok (n := 2) hg1.good.f (by decide) (by decide) (by omega) (by omega)
  have hg2 : GoodR { s1 with l := s1.l ++ octs tn 2 } := hg1.app (by rw [octs_length]; omega)
  have p3 : numS 65535 { s1 with l := s1.l ++ octs tn 2 } cn 2 = (0, { s1 with l := s1.l ++ octs tn 2 ++ octs cn 2 }) := numS_ok (n := 2) (s := { s1 with l := s1.l ++ octs tn 2 }) hg1.good.f (by decide) (by decide) (by omega) (by simp [octs_length]; omega)
  have hg3 : GoodR { s1 with l := s1.l ++ octs tn 2 ++ octs cn 2 } := GoodR.app (s := { s1 with l := s1.l ++ octs tn 2 }) hg2 (by simp [octs_length]; omega)
  have hput : putQ 65535 ⟨qn, tn, cn⟩ s = (0, { s1 with l := s1.l ++ octs tn 2 ++ octs cn 2 }) := by
    unfold putQ
    rw [if_neg (fun h => h hr0)]
    have e3 : putQ3 65535 ⟨qn, tn, cn⟩ s = { s1 with l := s1.l ++ octs tn 2 ++ octs cn 2 } := by
      unfold putQ3 putQ2 putQ1
      simp only [Int.toNat_natCast]
      rw [hs1, p2]
      simp only
      rw [p3]
    rw [e3]
    show (s1.f, _) = _
    rw [hg1.good.f]
  rw [hput]
  refine ⟨rfl, hg3, o1, ⟨y1 ++ octs tn 2 ++ octs cn 2, by simp [e1], by simp [octs_length]; omega⟩, fun z => ?_⟩
  simp only
  obtain ⟨T, hT⟩ : ∃ T, T = s1.l ++ octs tn 2 ++ octs cn 2 ++ z := ⟨_, rfl⟩
  rw [← hT]
  have hTl : T.length = s1.l.length + 4 + z.length := by rw [hT]; simp [octs_length]; omega
  have r0 : seekR T 0 (s.l.length : Nat) = (0, s.l.length) := seekR_some (by omega)
  have hru' : Ru T s.l.length s.l.length (bs qn) s1.l.length c := by
    have h := hru.app (octs tn 2 ++ octs cn 2 ++ z)
    rwa [show s1.l ++ (octs tn 2 ++ octs cn 2 ++ z) = T by rw [hT]; simp] at h
  obtain ⟨u1, u2, u3⟩ := ru_read hru' hx (by omega) (by omega)
  have r1 : rdNm T s.l.length = ⟨bs qn, 0, s1.l.length⟩ := by
    unfold rdNm
    rw [u1, u2, u3, if_neg (fun h => h rfl), seekR_some (by omega), if_neg (fun h => h rfl)]
  have r2 : numR T s1.l.length 2 = ⟨octs tn 2, 0, s1.l.length + 2⟩ := by
    have h := numR_octs s1.l (octs cn 2 ++ z) tn 2 (by decide) (by decide)
    rwa [show s1.l ++ octs tn 2 ++ (octs cn 2 ++ z) = T by rw [hT]; simp] at h
  have r3 : numR T (s1.l.length + 2) 2 = ⟨octs cn 2, 0, s1.l.length + 2 + 2⟩ := by
    have h := numR_octs (s1.l ++ octs tn 2) z cn 2 (by decide) (by decide)
    rw [List.length_append, octs_length] at h
    rwa [← hT] at h
  have hd : rdQ T (s.l.length : Nat) = ⟨0, s1.l.length + 2 + 2, ⟨mkb (bs qn), (num (octs tn 2) : Nat), (num (octs cn 2) : Nat)⟩⟩ := by
    unfold rdQ
    rw [r0, r1]
    simp only [ne_eq, not_true_eq_false, if_false]
    rw [r2]
    simp only [not_true_eq_false, if_false]
    rw [r3]
    simp only [not_true_eq_false, if_false]
  rw [hd, mkb_bs, num_octs 2 tn (by omega), num_octs 2 cn (by omega)]
  congr 1
  simp [octs_length]
theorem wired_size : ∀ (K : List Pt) (d : MD), (∀ p ∈ K, wired p = true) → sizeK K d ≤ 255 * K.length
  | [], d, _ => Nat.zero_le _
  | p :: K, d, h => by
    have ih := wired_size K d (fun q hq => h q (List.mem_cons_of_mem _ hq))
    have hp := h p List.mem_cons_self
    have h1 : sizeP p d ≤ 255 := by
      cases p with
      | adr six => show (if six then 16 else 4) ≤ 255; split <;> omega
      | nam mail ptd =>
        show sizeN (bs (nameOf mail d)) ≤ 255
        unfold sizeN
        split
        · rename_i hc; have := chkN_len hc; omega
        · omega
      | num a b c e f =>
        simp [wired] at hp
        show a + b + c + e + f ≤ 255
        omega
      | txt => cases hp
      | raw => cases hp
    have hsk : sizeK (p :: K) d = sizeP p d + sizeK K d := by
      show (List.map (fun q => sizeP q d) (p :: K)).sum = _
      rw [List.map_cons, List.sum_cons]
      rfl
    rw [hsk, List.length_cons, Nat.mul_add, Nat.mul_one]
    exact Nat.le_trans (Nat.add_le_add h1 ih) (Nat.le_of_eq (Nat.add_comm _ _))
theorem GoodR.begun {s : PS} (h : GoodR s) (o : List Nat) (h1 : ∀ a ∈ o, a + 2 ≤ s.l.length) (h2 : o.length ≤ s.l.length) : GoodR { s with o := o } :=
  ⟨⟨h.good.f, h.good.marks⟩, ⟨h.inv.le, h.inv.most, h.inv.mark, h1, h2⟩, h.marks⟩
/-- What a record that is put comes to. -/
structure ReB (r : MR) (s : PS) (p : Nat × PS) : Prop where
  ok : p.1 = 0
  good : GoodR p.2
  o : p.2.o = s.o
  l : ∃ y, p.2.l = s.l ++ y ∧ y.length ≤ sizeR r
  back : ∀ z, rdR (p.2.l ++ z) (s.l.length : Nat) = ⟨0, p.2.l.length, r⟩
theorem rec_back {r : MR} {s : PS} (hg : GoodR s) (hc : checkR r = 0) (fd : Fit64 r.d) (hx : r.x < 4294967296) (hs : s.l.length + 1100 ≤ 65535) (hfit : s.l.length + 265 + sizeK (kindK r.t) r.d ≤ 65535 ∨ (putR 65535 r s).2.f = 0) : ReB r s (putR 65535 r s) := by
  obtain ⟨hcq, hcd⟩ := checkR_zero hc
  have hr0 : refC s.f (checkR r) = 0 := by rw [hg.good.f, hc]; rfl
  have hput : putR 65535 r s = ((putR5 65535 r s).f, putR5 65535 r s) := by unfold putR; rw [if_neg (fun h => h hr0)]
  rw [hput] at hfit ⊢
  simp only at hfit
  obtain ⟨_, ht, _⟩ := checkQ_zero hcq
  replace ht : isT r.t = true := ht
  have hall : allK (kindK r.t) r.d = 0 := by
    have ht' : isT r.t = true := ht
    unfold checkD at hcd
    rwa [if_pos ht'] at hcd
  obtain ⟨_, qg, qo, ⟨yq, el1, ll1⟩, qb⟩ := quest_back hg hcq (by omega)
  have e1 : putR1 65535 r s = (putQ 65535 r.q s).2 := rfl
  obtain ⟨s1, hs1⟩ : ∃ x, (putQ 65535 r.q s).2 = x := ⟨_, rfl⟩
  rw [hs1] at qg qo el1 qb e1
  have hn255 := (show sizeN (bs r.q.n) ≤ 255 by
    unfold sizeN
    split
    · rename_i h; have := chkN_len h; omega
    · omega)
  have hlen1 := congrArg List.length el1
  rw [List.length_append] at hlen1
  have p2 : numS 65535 s1 r.x 4 = (0, { s1 with l := s1.l ++ octs r.x 4 }) := numS_ok (n := 4) qg.good.f (by decide) (by decide) hx (by omega)
  have hg2 : GoodR { s1 with l := s1.l ++ octs r.x 4 } := qg.app (by rw [octs_length]; omega)
  have e2 : putR2 65535 r s = { s1 with l := s1.l ++ octs r.x 4 } := by unfold putR2; rw [e1, p2]
  have hl2 : (s1.l ++ octs r.x 4).length = s1.l.length + 4 := by rw [List.length_append, octs_length]
  have p3 : numS 65535 { s1 with l := s1.l ++ octs r.x 4 } 0 2 = (0, { s1 with l := s1.l ++ octs r.x 4 ++ octs 0 2 }) := numS_ok (n := 2) (s := { s1 with l := s1.l ++ octs r.x 4 }) qg.good.f (by decide) (by decide) (by decide) (by show (s1.l ++ octs r.x 4).length + 2 ≤ _; omega)
  have e3 : putR3 65535 r s = ((s1.l ++ octs r.x 4).length, 0, { s1 with l := s1.l ++ octs r.x 4 ++ octs 0 2, o := s1.o ++ [(s1.l ++ octs r.x 4).length] }) := by
    unfold putR3 beginS
    rw [e2, p3]
    rfl
  obtain ⟨s3, hs3⟩ : ∃ x : PS, x = { s1 with l := s1.l ++ octs r.x 4 ++ octs 0 2, o := s1.o ++ [(s1.l ++ octs r.x 4).length] } := ⟨_, rfl⟩
  rw [← hs3] at e3
  have hl3 : s3.l = s1.l ++ octs r.x 4 ++ octs 0 2 := by rw [hs3]
  have ho3 : s3.o = s1.o ++ [(s1.l ++ octs r.x 4).length] := by rw [hs3]
  have hpd : ∀ u : PS, putD 65535 r.t r.d u = putK 65535 (kindK r.t) r.d u := fun u => by
    unfold putD
    rw [ht, if_pos rfl, if_neg (by simp [hall])]
  have e4 : putR4 65535 r s = (putK 65535 (kindK r.t) r.d s3).2 := by unfold putR4; rw [e3, hpd]
  obtain ⟨y, hy, hyo, _⟩ := sw_putK 65535 r.d (kindK r.t) s3 s3.l rfl
  simp only at hy hyo
  obtain ⟨l', hl'⟩ : ∃ x, x = s1.l ++ octs r.x 4 ++ octs y.length 2 := ⟨_, rfl⟩
  have hll : l'.length = s1.l.length + 6 := by rw [hl', List.length_append, hl2, octs_length]
  have hll3 : s3.l.length = s1.l.length + 6 := by rw [hl3, List.length_append, hl2, octs_length]
  obtain ⟨y', hy', _, hv⟩ := sw_putK 65535 r.d (kindK r.t) s3 l' (by rw [hll, hll3])
  simp only at hy' hv
  have hyy : y' = y := List.append_cancel_left (hy'.symm.trans hy)
  subst hyy
  obtain ⟨p4, hp4⟩ : ∃ x, putK 65535 (kindK r.t) r.d s3 = x := ⟨_, rfl⟩
  rw [hp4] at e4 hy hyo hv
  have hbeg : ∀ a ∈ s3.o, a + 2 ≤ s1.l.length + 6 := fun a ha => by
    rw [ho3, List.mem_append, List.mem_singleton] at ha
    rcases ha with h | h
    · have := qg.inv.begun a h; omega
    · rw [h, hl2]; omega
  have hol : s3.o.length ≤ s1.l.length + 6 := by rw [ho3, List.length_append, List.length_singleton]; have := qg.inv.olen; omega
  have hgl : GoodR { s1 with l := l' } := by
    have h := GoodR.app (s := { s1 with l := s1.l ++ octs r.x 4 }) hg2 (y := octs y'.length 2) (by simp [octs_length]; omega)
    rw [hl']
    exact h
  have hg3 : GoodR (lay s3 l') := by
    have h := GoodR.begun hgl s3.o (by show ∀ a ∈ s3.o, a + 2 ≤ l'.length; rw [hll]; exact hbeg) (by show _ ≤ l'.length; rw [hll]; exact hol)
    have e : lay s3 l' = { s1 with l := l', o := s3.o } := by rw [hs3]; rfl
    rw [e]
    exact h
  have hf5 : (putR5 65535 r s).f = p4.2.f := by unfold putR5; rw [endS_f, e4]
  have hz : (lay s3 l').l.length + sizeK (kindK r.t) r.d ≤ 65535 := by
    show l'.length + _ ≤ _
    rw [hll]
    rcases hfit with h | h
    · omega
    · rw [hf5] at h
      rcases data_fit (s := lay s3 l') ht hall hg3 (by show l'.length + 765 ≤ _; omega) (by rw [hpd, hv]; exact h) with ⟨hw, h3⟩ | h'
      · have h1 := wired_size (kindK r.t) r.d hw
        have h2 : 255 * (kindK r.t).length ≤ 765 := Nat.le_trans (Nat.mul_le_mul_left 255 h3) (by decide)
        have h4 := Nat.le_trans h1 h2
        clear h1 h2 h3
        omega
      · have h2 : l'.length + sizeK (kindK r.t) r.d ≤ 65535 := h'
        rwa [hll] at h2
  obtain ⟨dok, dg, ⟨yd, dl, dll⟩, db⟩ := data_back (s := lay s3 l') ht hall fd hg3 (by show l'.length + 765 ≤ _; omega) hz
  rw [hpd, hv] at dok dg dl db
  simp only at dok dl db
  have hyd : yd = y' := List.append_cancel_left (show l' ++ yd = l' ++ y' from dl.symm)
  subst hyd
  have hL : yd.length < 65536 := by
    have h1 := size_some ht hall
    have h2 := (all_facts hall).2.2
    omega
  have hpf : p4.2.f = 0 := dg.good.f
  have h4l : p4.2.l = s1.l ++ octs r.x 4 ++ octs 0 2 ++ yd := by rw [hy, hl3]
  have h4o : p4.2.o = s1.o ++ [(s1.l ++ octs r.x 4).length] := by rw [hyo, ho3]
  have e5 : putR5 65535 r s = { lay p4.2 (l' ++ yd) with o := s1.o } := by
    unfold putR5
    rw [e4, e3]
    unfold endS
    rw [if_neg (by simp [hpf]), h4o, List.getLast?_append]
    simp only [List.getLast?_singleton, Option.some_or, if_true]
    rw [List.dropLast_concat, h4l]
    have hlen : (s1.l ++ octs r.x 4 ++ octs 0 2 ++ yd).length - (s1.l ++ octs r.x 4).length - 2 = yd.length := by simp only [List.length_append, octs_length]; omega
    have hov : over (s1.l ++ octs r.x 4 ++ octs 0 2 ++ yd) (s1.l ++ octs r.x 4).length (octs yd.length 2) = l' ++ yd := by
      unfold over
      rw [List.append_assoc (s1.l ++ octs r.x 4), List.take_left' rfl, octs_length, ← List.drop_drop, List.drop_left' rfl, List.drop_left' (octs_length 2 0), hl']
      simp
    rw [hlen, hov]
    rfl
  have hg5 : GoodR { lay p4.2 (l' ++ yd) with o := s1.o } := GoodR.begun dg s1.o (fun a ha => by have := qg.inv.begun a ha; show _ ≤ (l' ++ yd).length; rw [List.length_append]; omega) (by have := qg.inv.olen; show _ ≤ (l' ++ yd).length; rw [List.length_append]; omega)
  rw [e5]
  refine ⟨hpf, hg5, qo, ⟨yq ++ octs r.x 4 ++ octs yd.length 2 ++ yd, ?_, ?_⟩, fun z => ?_⟩
  · show l' ++ yd = _
    rw [hl', el1]
    simp
  · unfold sizeR
    rw [if_neg (fun h => h hc)]
    simp only [List.length_append, octs_length]
    have : sizeN (bs r.q.n) = sizeN (bs r.n) := rfl
    omega
  · show rdR (l' ++ yd ++ z) _ = ⟨0, (l' ++ yd).length, r⟩
    obtain ⟨T, hT⟩ : ∃ T, T = l' ++ yd ++ z := ⟨_, rfl⟩
    have hT' : T = s1.l ++ octs r.x 4 ++ octs yd.length 2 ++ yd ++ z := by rw [hT, hl']
    have b0 := qb (octs r.x 4 ++ octs yd.length 2 ++ yd ++ z)
    rw [show s1.l ++ (octs r.x 4 ++ octs yd.length 2 ++ yd ++ z) = T by rw [hT']; simp] at b0
    have r4 : numR T s1.l.length 4 = ⟨octs r.x 4, 0, s1.l.length + 4⟩ := by
      have h := numR_octs s1.l (octs yd.length 2 ++ yd ++ z) r.x 4 (by decide) (by decide)
      rwa [show s1.l ++ octs r.x 4 ++ (octs yd.length 2 ++ yd ++ z) = T by rw [hT']; simp] at h
    have r5 : numR T (s1.l.length + 4) 2 = ⟨octs yd.length 2, 0, s1.l.length + 4 + 2⟩ := by
      have h := numR_octs (s1.l ++ octs r.x 4) (yd ++ z) yd.length 2 (by decide) (by decide)
      rw [hl2] at h
      rwa [show s1.l ++ octs r.x 4 ++ octs yd.length 2 ++ (yd ++ z) = T by rw [hT']; simp] at h
    have r6 : takR T (s1.l.length + 4 + 2) (yd.length : Nat) = ⟨yd, 0, s1.l.length + 4 + 2 + yd.length⟩ := by
      have h := takR_whole l' yd z
      rw [hll] at h
      rwa [← hT] at h
    have r7 : readD T (s1.l.length + 4 + 2 : Nat) (s1.l.length + 4 + 2 + yd.length : Nat) r.t = (0, r.d) := by
      have h := db z
      rw [show (lay p4.2 (l' ++ yd)).l = l' ++ yd from rfl, show (lay s3 l').l = l' from rfl, ← hT, List.length_append, hll] at h
      exact h
    rw [← hT]
    unfold rdR
    rw [b0]
    simp only [ne_eq, not_true_eq_false, if_false]
    unfold rdTail
    rw [r4]
    simp only [not_true_eq_false, ne_eq, if_false]
    rw [r5]
    simp only [not_true_eq_false, if_false]
    rw [num_octs 2 yd.length (by omega), r6]
    simp only [not_true_eq_false, if_false]
    rw [show r.q.t = r.t from rfl, r7]
    simp only [not_true_eq_false, if_false]
    rw [num_octs 4 r.x (by omega), List.length_append, hll]
    rfl
end Go.Proofs.YtdpgcgaalamgkaaGreat
namespace Go.Proofs.YtdpgcgaalamgkaaGreat
open Go.RowKit Go.Maps
set_option linter.unusedVariables false
set_option maxRecDepth 100000

/-! ### Unlike records, unlike octets -/
end Go.Proofs.YtdpgcgaalamgkaaGreat
namespace Go.Proofs.YtdpgcgaalamgkaaGreat
open Go.RowKit Go.Maps
set_option linter.unusedVariables false

section
variable {α : Type} {cs : α → List Value} {k : Nat} {t : TypeId}
/-- A slice, as it can be read. -/
structure CRow (cs : α → List Value) (k : Nat) (w : World) (v : Value) (L : List α) : Prop where
  shape : ∃ A cap, v = .slice A L.length cap ∧ L.length ≤ cap ∧ cap ≤ maxLen ∧ ∀ j (h : j < L.length), ∃ g o, A = some ⟨g, o, none⟩ ∧ g < w.heap.size ∧ w.rangeAt g (o + j * k) (cs L[j])
theorem CRow.below {w w' : World} {v : Value} {L : List α} (h : CRow cs k w v L) (hb : Below w.heap.size w w') : CRow cs k w' v L := by
  obtain ⟨A, cap, h1, h2, h3, h4⟩ := h.shape
  exact ⟨A, cap, h1, h2, h3, fun j hj => by
    obtain ⟨g, o, e1, e2, e3⟩ := h4 j hj
    exact ⟨g, o, e1, Nat.lt_of_lt_of_le e2 hb.size, fun i v hv => (hb.cell (p := ⟨g, o + j * k + i, none⟩) e2).trans (e3 i v hv)⟩⟩
theorem CRow.at {w : World} {A : Option Addr} {n cap : Nat} {L : List α} (h : CRow cs k w (.slice A n cap) L) (j : Nat) (hj : j < L.length) : ∃ g o, A = some ⟨g, o, none⟩ ∧ g < w.heap.size ∧ w.rangeAt g (o + j * k) (cs L[j]) := by
  obtain ⟨A', cap', h1, _, _, h4⟩ := h.shape
  injection h1 with h1
  subst h1
  exact h4 j hj

/-- A row out of its cells. -/
theorem crow_of {w : World} {a : Addr} {len cap : Nat} {Pr : α → Prop} (hk : ∀ x, (cs x).length = k) (hk0 : 0 < k) (hl : len ≤ cap) (hm : cap ≤ maxLen) (hx : ∀ i, i < len → ∃ y : α, Pr y ∧ ∀ j, j < k → w.cell? ((a.add (i * k)).add j) = (cs y)[j]?) :
    ∃ L : List α, CRow cs k w (.slice (some a) len cap) L ∧ ∀ x ∈ L, Pr x := by
  have hchoose := fun i (h : i < len) => Classical.choose_spec (hx i h)
  refine ⟨List.ofFn fun i : Fin len => Classical.choose (hx i.1 i.2), ⟨some a, cap, by rw [List.length_ofFn], by rw [List.length_ofFn]; exact hl, hm, fun j hj => ?_⟩, fun x hxm => ?_⟩
  · rw [List.length_ofFn] at hj
    have hc := (hchoose j hj).2
    rw [List.getElem_ofFn]
    have c00 := (hchoose 0 (by omega)).2 0 hk0
    generalize Classical.choose (hx 0 (by omega)) = y0 at c00
    generalize Classical.choose (hx j hj) = y at hc ⊢
    obtain ⟨u, hu⟩ : ∃ u, (cs y0)[0]? = some u := ⟨_, List.getElem?_eq_getElem (by rw [hk]; exact hk0)⟩
    rw [hu] at c00
    obtain ⟨b, off, spot⟩ := a
    have hspot : spot = none := by simpa [Addr.add] using World.cell?_spot c00
    subst hspot
    rw [Addr.add_mid, Addr.add_mid] at c00
    refine ⟨b, off, rfl, World.block_lt_of_cell? w _ c00, fun i v hv => ?_⟩
    have hi : i < k := by
      rw [← hk y]
      exact (List.getElem?_eq_some_iff.1 hv).1
    have := hc i hi
    rw [Addr.add_mid, Addr.add_mid, hv] at this
    exact this
  · obtain ⟨i, rfl⟩ := List.mem_ofFn.1 hxm
    exact (hchoose i.1 i.2).1

def allC (cs : α → List Value) (D : List α) : List Value := D.flatMap cs
theorem allC_cons (D : List α) (x : α) : allC cs (x :: D) = cs x ++ allC cs D := by simp [allC]
theorem allC_app (D E : List α) : allC cs (D ++ E) = allC cs D ++ allC cs E := by simp [allC]
theorem allC_len (hk : ∀ x, (cs x).length = k) (D : List α) : (allC cs D).length = D.length * k := by
  induction D with
  | nil => simp [allC]
  | cons x D ih => rw [allC_cons, List.length_append, ih, hk, List.length_cons, Nat.succ_mul]; omega
theorem allC_at (hk : ∀ x, (cs x).length = k) (D : List α) (j i : Nat) (h : j < D.length) (hi : i < k) : (allC cs D)[j * k + i]? = (cs D[j])[i]? := by
  have e : allC cs D = allC cs (D.take j) ++ (cs D[j] ++ allC cs (D.drop (j + 1))) := by
    rw [← allC_cons, ← allC_app, ← List.drop_eq_getElem_cons h, List.take_append_drop]
  have hl : (allC cs (D.take j)).length = j * k := by rw [allC_len hk, List.length_take]; congr 1; omega
  rw [e, List.getElem?_append_right (by omega), hl, List.getElem?_append_left (by rw [hk]; omega)]
  congr 1
  omega

/-- The call owns the row D. -/
def OwnC (cs : α → List Value) (k : Nat) (t : TypeId) (w : World) (base : Nat) (v : Value) (D : List α) : Prop := w.ownsRow base t k v D.length (allC cs D)
theorem OwnC.none_ (w : World) (base : Nat) : OwnC cs k t w base (.slice none 0 0) [] := World.ownsRow_nil w base _ k
theorem OwnC.shape {w : World} {base : Nat} {v : Value} {D : List α} (h : OwnC cs k t w base v D) : ∃ A cap, v = .slice A D.length cap ∧ D.length ≤ cap ∧ cap ≤ maxLen := by
  rcases h.2 with ⟨rfl, hn⟩ | ⟨g, cap, cur, rfl, hb, hg, hnc, hcm, _⟩
  · exact ⟨none, 0, by rw [hn], by rw [hn]; exact Nat.le_refl _, Nat.zero_le _⟩
  · exact ⟨_, cap, rfl, hnc, hcm⟩
theorem OwnC.same {w w' : World} {base : Nat} {v : Value} {D : List α} (h : OwnC cs k t w base v D) (hs : ∀ b, v.ownBlock = some b → w'.heap[b]? = w.heap[b]?) : OwnC cs k t w' base v D := by
  refine ⟨h.1, h.2.imp id fun ⟨g, cap, cur, h1, h2, h3, h4⟩ => ⟨g, cap, cur, h1, h2, ?_, h4⟩⟩
  rw [hs g (by rw [h1]; rfl)]
  exact h3
theorem OwnC.block {w : World} {base : Nat} {v : Value} {D : List α} (h : OwnC cs k t w base v D) {b : Nat} (hb : v.ownBlock = some b) : base ≤ b ∧ b < w.heap.size ∧ ∃ cur, w.heap[b]? = some (.cells cur t (0, 0)) := by
  rcases h.2 with ⟨rfl, _⟩ | ⟨g, cap, cur, rfl, hb', hg, _⟩
  · cases hb
  · obtain rfl : g = b := by simpa [Value.ownBlock] using hb
    refine ⟨hb', ?_, cur, hg⟩
    rcases Nat.lt_or_ge g w.heap.size with hlt | hge
    · exact hlt
    · rw [Array.getElem?_eq_none hge] at hg; cases hg
/-- One of those that the call owns. -/
theorem OwnC.at (hk : ∀ x, (cs x).length = k) {w : World} {base n cap : Nat} {A : Option Addr} {D : List α} (h : OwnC cs k t w base (.slice A n cap) D) (j : Nat) (hj : j < D.length) : ∃ g, A = some ⟨g, 0, none⟩ ∧ w.rangeAt g (0 + j * k) (cs D[j]) := by
  rcases h.2 with ⟨_, hn⟩ | ⟨g, cap', cur, h1, hb, hg, hnc, hcm, _⟩
  · rw [hn] at hj; cases hj
  · injection h1 with h1 h2 h3
    subst h1; subst h3
    refine ⟨g, rfl, fun i v hv => ?_⟩
    have hi : i < k := by
      rw [← hk D[j]]
      exact (List.getElem?_eq_some_iff.1 hv).1
    have hjk : j * k + i < D.length * k := by
      have : (j + 1) * k ≤ D.length * k := Nat.mul_le_mul_right k (by omega)
      rw [Nat.succ_mul] at this
      omega
    subst h2
    rw [Nat.zero_add, ← hv, ← allC_at hk D j i hj hi]
    exact World.ownsRow.cellAt h (j * k + i) hjk
end
/-! ### A packer, rows of ends, of questions, of records -/
structure B9 {β γ : Type} (cq : β → List Value) (cr : γ → List Value) (w0 w : World) (b g : Nat) (F : Nat → Prop) (s : PS) (v1 : Value) (E : List Nat) (v2 : Value) (Q : List β) (v3 : Value) (R : List γ) : Prop where
  pk : PK w b F g 65535 s
  r1 : OwnI w b v1 E
  r2 : OwnC cq 3 65 w b v2 Q
  r3 : OwnC cr 16 32 w b v3 R
  d1 : ∀ k, v1.ownBlock = some k → ¬ F k
  d2 : ∀ k, v2.ownBlock = some k → ¬ F k
  d3 : ∀ k, v3.ownBlock = some k → ¬ F k
  bel : Below w0.heap.size w0 w
  leb : w0.heap.size ≤ b
section
variable {β γ : Type} {cq : β → List Value} {cr : γ → List Value} {w0 w w' : World} {b g : Nat} {F F' : Nat → Prop} {s s' : PS} {v1 v2 v3 v' : Value} {E : List Nat} {Q : List β} {R : List γ}
theorem B9.base_le (h : B9 cq cr w0 w b g F s v1 E v2 Q v3 R) : b ≤ w.heap.size := h.pk.base_le
/-- What lay stays. -/
theorem B9.below (h : B9 cq cr w0 w b g F s v1 E v2 Q v3 R) (hb : Below w.heap.size w w') : B9 cq cr w0 w' b g F s v1 E v2 Q v3 R :=
  ⟨h.pk.next hb, h.r1.same fun k hk => hb.block k (h.r1.block hk).2.1, h.r2.same fun k hk => hb.block k (h.r2.block hk).2.1, h.r3.same fun k hk => hb.block k (h.r3.block hk).2.1, h.d1, h.d2, h.d3, next h.bel hb, h.leb⟩
theorem B9.alloc (h : B9 cq cr w0 w b g F s v1 E v2 Q v3 R) (o : Obj) : B9 cq cr w0 (w.alloc o) b g F s v1 E v2 Q v3 R := h.below ((Below.refl _ _).alloc (Nat.le_refl _) o)
end
end Go.Proofs.YtdpgcgaalamgkaaGreat
namespace Go.Proofs.YtdpgcgaalamgkaaGreat
open Go.RowKit Go.ChangeShapes Go.WideShapes Go.Deep
set_option linter.unusedVariables false
set_option maxRecDepth 100000

abbrev csQ (q : MQ) : List Value := (cellsQ q).toList
abbrev csR (x : MR × Value) : List Value := (cellsR x.1 x.2).toList
theorem csQ_len : ∀ x, (csQ x).length = 3 := fun _ => rfl
theorem csR_len : ∀ x, (csR x).length = 16 := fun _ => rfl
theorem csQ_one (q : MQ) : ∀ u ∈ csQ q, u.oneCell' = true := by
  intro u hu
  simp only [csQ, List.mem_cons, List.not_mem_nil, or_false] at hu
  rcases hu with rfl | rfl | rfl <;> rfl
theorem csR_one {w : World} {x : MR × Value} (h : FitR w x.1 x.2) : ∀ u ∈ csR x, u.oneCell' = true := by
  obtain ⟨A, cap, hv, _, _⟩ := h.d.row.shape
  intro u hu
  simp only [csR, List.mem_cons, List.not_mem_nil, or_false] at hu
  rcases hu with rfl | rfl | rfl | rfl | rfl | rfl | rfl | rfl | rfl | rfl | rfl | rfl | rfl | rfl | rfl | rfl
  all_goals first | rfl | (rw [hv]; rfl)
section
variable {H : Type} {enc : TypeId × Value → H} {W : World} {base b0 : Nat} {held : Bool} {v : Value} {d : DataW H} {p : List MemPlace}
theorem weights_all {P : Program} {e : TypeId} {x : DataW H} {n : Nat} (hn : n ∈ x.weights P e) : ∀ {l : List (DataW H)}, x ∈ l → n ∈ DataW.weightsAll P e l
  | y :: l, hx => by
    rw [DataW.weightsAll]
    rcases List.mem_cons.1 hx with rfl | hx
    · exact List.mem_append_left _ hn
    · exact List.mem_append_right _ (weights_all hn hx)
  | [], hx => by cases hx
theorem weights_elem {P : Program} {t e : TypeId} (he : P.underlying t = some (.slice e)) {elems spare : List (DataW H)} {x : DataW H} (hx : x ∈ elems) {n : Nat} (hn : n ∈ x.weights P e) : n ∈ (DataW.slice elems spare).weights P t := by
  rw [DataW.weights]
  simp only [he]
  exact List.mem_cons_of_mem _ (List.mem_append_left _ (weights_all hn hx))
end
end Go.Proofs.YtdpgcgaalamgkaaGreat
namespace Go.Proofs.YtdpgcgaalamgkaaGreat
open Go.RowKit
set_option linter.unusedVariables false

/-- From a to e: each x stands from where the one ahead ended to its own end. -/
def Ch {α : Type} (R : Nat → Nat → α → Prop) : List α → List Nat → Nat → Nat → Prop
  | [], [], a, e => a = e
  | x :: X, n :: E, a, e => R a n x ∧ Ch R X E n e
  | _, _, _, _ => False
/-- Where the k-th begins. -/
def stC (a : Nat) (E : List Nat) (k : Nat) : Nat := (a :: E).getD k 0
section
variable {α : Type} {R R' : Nat → Nat → α → Prop}
theorem Ch.mono (hR : ∀ a n x, R a n x → R' a n x) : ∀ {X : List α} {E : List Nat} {a e : Nat}, Ch R X E a e → Ch R' X E a e
  | [], [], _, _, h => h
  | x :: X, n :: E, a, e, h => ⟨hR _ _ _ h.1, Ch.mono hR h.2⟩
  | [], _ :: _, _, _, h => h.elim
  | _ :: _, [], _, _, h => h.elim
theorem Ch.snoc {x : α} {n : Nat} : ∀ {X : List α} {E : List Nat} {a e : Nat}, Ch R X E a e → R e n x → Ch R (X ++ [x]) (E ++ [n]) a n
  | [], [], a, e, h, hx => by
    have h' : a = e := h
    subst h'
    exact ⟨hx, rfl⟩
  | y :: X, m :: E, a, e, h, hx => ⟨h.1, Ch.snoc h.2 hx⟩
  | [], _ :: _, _, _, h, _ => h.elim
  | _ :: _, [], _, _, h, _ => h.elim
theorem Ch.len : ∀ {X : List α} {E : List Nat} {a e : Nat}, Ch R X E a e → E.length = X.length
  | [], [], _, _, _ => rfl
  | x :: X, n :: E, a, e, h => by rw [List.length_cons, List.length_cons, Ch.len h.2]
  | [], _ :: _, _, _, h => h.elim
  | _ :: _, [], _, _, h => h.elim
theorem Ch.at : ∀ {X : List α} {E : List Nat} {a e : Nat} (h : Ch R X E a e) (k : Nat) (hk : k < X.length) (hk' : k < E.length), R (stC a E k) E[k] X[k]
  | x :: X, n :: E, a, e, h, 0, _, _ => h.1
  | x :: X, n :: E, a, e, h, k + 1, hk, hk' => Ch.at h.2 k (by simpa using hk) (by simpa using hk')
  | [], _, _, _, _, _, hk, _ => by cases hk
  | _ :: _, [], _, _, _, _, _, hk' => by cases hk'
end
def RQs (l : List UInt8) (a n : Nat) (q : MQ) : Prop := ∀ z, rdQ (l ++ z) (a : Nat) = ⟨0, n, q⟩
def RRs (l : List UInt8) (a n : Nat) (r : MR × Value) : Prop := ∀ z, rdR (l ++ z) (a : Nat) = ⟨0, n, r.1⟩
theorem RQs.app {l y : List UInt8} {a n : Nat} {q : MQ} (h : RQs l a n q) : RQs (l ++ y) a n q := fun z => by rw [List.append_assoc]; exact h _
theorem RRs.app {l y : List UInt8} {a n : Nat} {r : MR × Value} (h : RRs l a n r) : RRs (l ++ y) a n r := fun z => by rw [List.append_assoc]; exact h _
end Go.Proofs.YtdpgcgaalamgkaaGreat
namespace Go.Proofs.YtdpgcgaalamgkaaGreat
open Go.RowKit Go.Maps
set_option linter.unusedVariables false
set_option maxRecDepth 100000

theorem infoQb : (Tryz.prog.info? 65).map (fun i => (i.zero, i.size, i.bytes)) = some (some (.agg #[.string ⟨#[]⟩, .int .i64 0, .int .i64 0]), 3, 32) := by kernel_rfl
theorem infoRb : (Tryz.prog.info? 32).map (fun i => (i.zero, i.size, i.bytes)) = some (some (.agg #[.string ⟨#[]⟩, .int .i64 0, .int .i64 0, .int .u32 0, .bool false, .int .u64 0, .int .u64 0, .string ⟨#[]⟩, .string ⟨#[]⟩, .int .u32 0, .int .u32 0, .int .u32 0, .int .u32 0, .int .u32 0, .slice none 0 0, .string ⟨#[]⟩]), 16, 160) := by kernel_rfl
theorem lies_add {w : World} {c : Nat} {t : TypeId} {cs : Array Value} (h : Lies w c t cs) : ∀ (j : Nat) (u : Value), cs.toList[j]? = some u → w.cell? ((⟨c, 0, none⟩ : Addr).add j) = some u := by
  intro j u hu
  rw [Addr.add_mid, Nat.zero_add, h.cell j, ← Array.getElem?_toList]
  exact hu
abbrev RV : Type := MR × Value
abbrev BB := @B9 MQ RV csQ csR
section
variable {w0 w : World} {b g : Nat} {F : Nat → Prop} {s : PS} {v1 v2 v3 : Value} {E : List Nat} {Q : List MQ} {R : List RV}
variable {ops : Array Oper} {rest : List Oper} {o : Oper} {a : Act} {Qx : Exit → Act → World → Prop}
end
theorem load_r {w : World} {g o : Nat} {x : RV} (h : w.rangeAt g o (csR x)) : (Instr.loadAt 32 (.pointer (some ⟨g, o, none⟩))).run Tryz.prog w = .ok (recV x.1 x.2) w :=
  run_loadAt_mid w g o 32 (csR x) _ h Tryz.underlying32 rfl (by kernel_rfl)
theorem q_cells {w : World} {g o : Nat} {x : MQ} (h : w.rangeAt g o (csQ x)) : w.cell? ⟨g, o, none⟩ = some (.string x.n) ∧ w.cell? ⟨g, o + 1, none⟩ = some (.int .i64 x.t) ∧ w.cell? ⟨g, o + 2, none⟩ = some (.int .i64 x.c) := ⟨h 0 _ rfl, h 1 _ rfl, h 2 _ rfl⟩
/-- A row of one record is made. -/
theorem build_r (r : MR) (A : Option Addr) (n cap : Nat) (w : World) : (Instr.buildSlice 52 1 #[(0, recV r (.slice A n cap))]).run Tryz.prog w = .ok (.slice (some ⟨w.heap.size, 0, none⟩) 1 1) (w.alloc (.cells (cellsR r (.slice A n cap)) 32)) := by
  unfold recV cellsR
  go_simp
theorem wpList_build1 {ops : Array Oper} {rest : List Oper} {o : Oper} {a : Act} {w w' : World} {Q : Exit → Act → World → Prop} (hgd : o.guard = none) (ts : TypeId) (x : Operand) (ho : o.op = .buildSlice ts 1 #[(0, x)]) (V u : Value) (hx : a.eval x = V) (hb : (Instr.buildSlice ts 1 #[(0, V)]).run Tryz.prog w = .ok u w')
    (h : wpList Tryz.prog ops Q rest (a.put o.dst u) w') : wpList Tryz.prog ops Q (o :: rest) a w := by
  refine wpList_plain hgd fun K hK => ?_
  unfold Oper.wp execOp
  simp only [ho, List.map_toArray, List.map_cons, List.map_nil, hx, Sem.run_bind, Sem.run_pure, hb, Result.andThen_ok]
  exact hK _ _ h
theorem wpList_load1 {ops : Array Oper} {rest : List Oper} {o : Oper} {a : Act} {w : World} {Q : Exit → Act → World → Prop} (hgd : o.guard = none) (t : TypeId) (x : Operand) (ho : o.op = .load t x) (p V : Value) (hx : a.eval x = p) (hb : (Instr.loadAt t p).run Tryz.prog w = .ok V w)
    (h : wpList Tryz.prog ops Q rest (a.put o.dst V) w) : wpList Tryz.prog ops Q (o :: rest) a w := by
  refine wpList_plain hgd fun K hK => ?_
  unfold Oper.wp execOp
  simp only [ho, hx, Sem.run_bind, Sem.run_pure, hb, Result.andThen_ok]
  exact hK _ _ h
/-! ### The loops -/
/-- What the first loop keeps. -/
structure Lq (w0 : World) (b g k : Nat) (v1 v2 : Value) (wr : World) (F : Nat → Prop) (s : PS) (E : List Nat) (Q : List MQ) : Prop where
  bb : BB w0 wr b g F s v1 E v2 Q nilS []
  good : GoodR s
  ch : Ch (RQs s.l) Q E 0 s.l.length
  len : s.l.length ≤ 259 * k
  few : Q.length ≤ k
/-- What the second loop keeps. -/
structure Lr (w0 : World) (b g k : Nat) (v1 v2 v3 : Value) (EQ : List Nat) (Q : List MQ) (e0 : Nat) (L : List RV) (wr : World) (F : Nat → Prop) (s : PS) (ER : List Nat) (R : List RV) : Prop where
  bb : BB w0 wr b g F s v1 (EQ ++ ER) v2 Q v3 R
  good : GoodR s
  chq : Ch (RQs s.l) Q EQ 0 e0
  chr : Ch (RRs s.l) R ER e0 s.l.length
  len : s.l.length ≤ 5180 + 2305 * k
  few : R.length ≤ k
  of : ∀ x ∈ R, x ∈ L
section
variable {w0 w : World} {b g k : Nat} {F : Nat → Prop} {s : PS} {v1 v2 v3 : Value} {E EQ ER : List Nat} {Q : List MQ} {R L : List RV} {e0 : Nat}
theorem Ch.app {α : Type} {Rl Rl' : Nat → Nat → α → Prop} {X : List α} {E : List Nat} {a e : Nat} (h : Ch Rl X E a e) (hR : ∀ a n x, Rl a n x → Rl' a n x) : Ch Rl' X E a e := h.mono hR
theorem chq_app {l : List UInt8} {Q : List MQ} {E : List Nat} {a e : Nat} (h : Ch (RQs l) Q E a e) {l' : List UInt8} (hy : ∃ y, l' = l ++ y) : Ch (RQs l') Q E a e := by
  obtain ⟨y, rfl⟩ := hy
  exact h.mono fun _ _ _ hx => hx.app
theorem chr_app {l : List UInt8} {R : List RV} {E : List Nat} {a e : Nat} (h : Ch (RRs l) R E a e) {l' : List UInt8} (hy : ∃ y, l' = l ++ y) : Ch (RRs l') R E a e := by
  obtain ⟨y, rfl⟩ := hy
  exact h.mono fun _ _ _ hx => hx.app
/-- A question was put, and is among the rows. -/
theorem Lq.more (h : Lq w0 b g k v1 v2 w F s E Q) {q : MQ} {s' : PS} (hg : GoodR s') (hy : ∃ y, s'.l = s.l ++ y) (hl : s'.l.length ≤ s.l.length + 259) (hr : RQs s'.l s.l.length s'.l.length q) {w' : World} {F' : Nat → Prop} {v1' v2' : Value} (hb : BB w0 w' b g F' s' v1' (E ++ [s'.l.length]) v2' (Q ++ [q]) nilS []) :
    Lq w0 b g (k + 1) v1' v2' w' F' s' (E ++ [s'.l.length]) (Q ++ [q]) :=
  ⟨hb, hg, (chq_app h.ch hy).snoc hr, by have := h.len; omega, by have := h.few; simp; omega⟩
theorem Lq.stay (h : Lq w0 b g k v1 v2 w F s E Q) {w' : World} {F' : Nat → Prop} (hb : BB w0 w' b g F' s v1 E v2 Q nilS []) : Lq w0 b g (k + 1) v1 v2 w' F' s E Q :=
  ⟨hb, h.good, h.ch, by have := h.len; omega, by have := h.few; omega⟩
theorem Lr.more (h : Lr w0 b g k v1 v2 v3 EQ Q e0 L w F s ER R) {r : RV} (hrL : r ∈ L) {s' : PS} (hg : GoodR s') (hy : ∃ y, s'.l = s.l ++ y) (hl : s'.l.length ≤ s.l.length + 2305) (hr : RRs s'.l s.l.length s'.l.length r) {w' : World} {F' : Nat → Prop} {v1' v3' : Value} (hb : BB w0 w' b g F' s' v1' (EQ ++ ER ++ [s'.l.length]) v2 Q v3' (R ++ [r])) :
    Lr w0 b g (k + 1) v1' v2 v3' EQ Q e0 L w' F' s' (ER ++ [s'.l.length]) (R ++ [r]) :=
  ⟨by rw [← List.append_assoc]; exact hb, hg, chq_app h.chq hy, (chr_app h.chr hy).snoc hr, by have := h.len; omega, by have := h.few; simp; omega, fun x hx => (List.mem_append.1 hx).elim (h.of x) (fun e => by rw [List.mem_singleton.1 e]; exact hrL)⟩
theorem Lr.stay (h : Lr w0 b g k v1 v2 v3 EQ Q e0 L w F s ER R) {w' : World} {F' : Nat → Prop} (hb : BB w0 w' b g F' s v1 (EQ ++ ER) v2 Q v3 R) : Lr w0 b g (k + 1) v1 v2 v3 EQ Q e0 L w' F' s ER R :=
  ⟨hb, h.good, h.chq, h.chr, by have := h.len; omega, by have := h.few; omega, h.of⟩
theorem OwnC.ptr {α : Type} {cs : α → List Value} {k : Nat} {t : TypeId} (hk : ∀ x, (cs x).length = k) {w : World} {base n cap : Nat} {A : Option Addr} {D : List α} (h : OwnC cs k t w base (.slice A n cap) D) {j : Nat} (hj : j < D.length) : ∃ g, A = some ⟨g, 0, none⟩ := by
  obtain ⟨g', e, _⟩ := h.at hk j hj
  exact ⟨g', e⟩
theorem sameQ_refl (q : MQ) : sameQ q q = true := by simp [sameQ]
theorem sameR_refl (r : MR) : sameR r r = true := by
  unfold sameR
  rw [sameQ_refl, (sameD_iff _ _).2 rfl]
  simp
end
end Go.Proofs.YtdpgcgaalamgkaaGreat
