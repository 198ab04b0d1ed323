/-
  What is put does not hang on what octets stand ahead, but on how many; data that are put are read back, whatever stands behind: plain mathematics. Conditions as stated. Data, questions, records that are put are read back, whatever stands behind: plain mathematics. Conditions as stated. Questions and records that are put are read back, whatever stands behind: plain mathematics. Conditions as stated. The walk of the law's own light; unlike records have unlike octets. Conditions: as each theorem names them.
-/
import Derived.Test.YtodedbokeodmkaaGreatZk42
import Derived.Test.YtodedbokeodmkaaGreatZk43
import Derived.Test.YtodedbokeodmkaaGreatZk45
namespace Go.Proofs.YtodedbokeodmkaaGreat
open Go.RowKit
set_option linter.unusedVariables false

def lay (s : PS) (l : List UInt8) : PS := { s with l := l }
/-- F adds octets, which do not hang on those ahead. -/
def Sw (F : PS → Nat × PS) : Prop := ∀ s l', l'.length = s.l.length → ∃ y, (F s).2.l = s.l ++ y ∧ (F s).2.o = s.o ∧ F (lay s l') = ((F s).1, lay (F s).2 (l' ++ y))
theorem sw_put (M : Nat) (x : List UInt8) : Sw fun s => putS M s x := by
  intro s l' h
  unfold putS putW lay
  by_cases hf : s.f = 0
  · by_cases hl : M < s.l.length + x.length
    · refine ⟨[], ?_⟩
      simp [hf, hl, h]
    · refine ⟨x, ?_⟩
      simp [hf, hl, h]
  · refine ⟨[], ?_⟩
    simp [hf]
theorem sw_num (M v : Nat) (n : Int) : Sw fun s => numS M s v n := by
  intro s l' h
  unfold numS numW putW lay
  by_cases hf : s.f = 0
  · by_cases hr : room v n = false
    · refine ⟨[], ?_⟩
      simp [hf, hr]
    · by_cases hl : M < s.l.length + (octs v n.toNat).length
      · refine ⟨[], ?_⟩
        simp [hf, hr, hl, h]
      · refine ⟨octs v n.toNat, ?_⟩
        simp [hf, hr, hl, h]
  · refine ⟨[], ?_⟩
    simp [hf]
/-- One behind the other. -/
theorem Sw.seq {F G : PS → Nat × PS} (hF : Sw F) (hG : Sw G) : Sw fun s => if (F s).1 = 0 then G (F s).2 else F s := by
  intro s l' h
  obtain ⟨y, h1, h2, h3⟩ := hF s l' h
  by_cases hz : (F s).1 = 0
  · obtain ⟨y', g1, g2, g3⟩ := hG (F s).2 (l' ++ y) (by rw [h1, List.length_append, List.length_append, h])
    refine ⟨y ++ y', ?_⟩
    simp only [hz, if_true, h3]
    exact ⟨by rw [g1, h1, List.append_assoc], by rw [g2, h2], by rw [g3, List.append_assoc]⟩
  · refine ⟨y, ?_⟩
    simp only [hz, if_false, h3]
    exact ⟨h1, h2, trivial⟩
theorem lay_keep (s : PS) (r l : List UInt8) (a : Nat) : keepS (lay s l) r a = lay (keepS s r a) l := by
  unfold keepS lay
  split <;> rfl
theorem keep_l (s : PS) (r : List UInt8) (a : Nat) : (keepS s r a).l = s.l ∧ (keepS s r a).o = s.o := by
  unfold keepS
  split <;> exact ⟨rfl, rfl⟩
theorem sw_nameF (M : Nat) : ∀ (k : Nat) (r : List UInt8), Sw fun s => nameF M k r s
  | 0, r => fun s l' h => ⟨[], by simp [nameF, lay]⟩
  | k + 1, r => by
    intro s l' h
    by_cases hr : r = []
    · subst hr
      simp only [nameF_nil]
      exact sw_put M [0] s l' h
    · cases hm : s.m r with
      | some a =>
        simp only [nameF_some hr hm, nameF_some (s := lay s l') hr hm]
        exact sw_num M (49152 + a) 2 s l' h
      | none =>
        obtain ⟨y, h1, h2, h3⟩ := (show ∃ y, (putS M s (headN r)).2.l = s.l ++ y ∧ (putS M s (headN r)).2.o = s.o ∧ putS M (lay s l') (headN r) = ((putS M s (headN r)).1, lay (putS M s (headN r)).2 (l' ++ y)) from sw_put M (headN r) s l' h)
        by_cases hp : (putS M s (headN r)).1 = 0
        · have hp' : (putS M (lay s l') (headN r)).1 = 0 := by rw [h3]; exact hp
          simp only [nameF_next hr hm hp, nameF_next (s := lay s l') hr hm hp']
          rw [h3]
          simp only
          rw [lay_keep, show (lay s l').l.length = s.l.length from h]
          obtain ⟨y', g1, g2, g3⟩ := sw_nameF M k (restN r) (keepS (putS M s (headN r)).2 r s.l.length) (l' ++ y) (by rw [(keep_l _ _ _).1, h1, List.length_append, List.length_append, h])
          simp only at g1 g2 g3
          rw [(keep_l _ _ _).1, h1] at g1
          rw [(keep_l _ _ _).2, h2] at g2
          exact ⟨y ++ y', by rw [g1, List.append_assoc], g2, by rw [g3, List.append_assoc]⟩
        · have hp' : ¬ (putS M (lay s l') (headN r)).1 = 0 := by rw [h3]; exact hp
          simp only [nameF_long hr hm hp, nameF_long (s := lay s l') hr hm hp']
          exact ⟨y, h1, h2, h3⟩
theorem sw_plainF (M : Nat) : ∀ (k : Nat) (r : List UInt8), Sw fun s => plainF M k r s
  | 0, r => fun s l' h => ⟨[], by simp [plainF, lay]⟩
  | k + 1, r => by
    intro s l' h
    by_cases hr : r = []
    · subst hr
      simp only [plainF_nil]
      exact sw_put M [0] s l' h
    · obtain ⟨y, h1, h2, h3⟩ := (show ∃ y, (putS M s (headN r)).2.l = s.l ++ y ∧ (putS M s (headN r)).2.o = s.o ∧ putS M (lay s l') (headN r) = ((putS M s (headN r)).1, lay (putS M s (headN r)).2 (l' ++ y)) from sw_put M (headN r) s l' h)
      by_cases hp : (putS M s (headN r)).1 = 0
      · have hp' : (putS M (lay s l') (headN r)).1 = 0 := by rw [h3]; exact hp
        simp only [plainF_next hr hp, plainF_next (s := lay s l') hr hp']
        rw [h3]
        obtain ⟨y', g1, g2, g3⟩ := sw_plainF M k (restN r) (putS M s (headN r)).2 (l' ++ y) (by rw [h1, List.length_append, List.length_append, h])
        simp only at g1 g2 g3
        rw [h1] at g1
        rw [h2] at g2
        exact ⟨y ++ y', by rw [g1, List.append_assoc], g2, by rw [g3, List.append_assoc]⟩
      · have hp' : ¬ (putS M (lay s l') (headN r)).1 = 0 := by rw [h3]; exact hp
        simp only [plainF_long hr hp, plainF_long (s := lay s l') hr hp']
        exact ⟨y, h1, h2, h3⟩
theorem sw_name (M : Nat) (x : List UInt8) : Sw fun s => nameS M s x := by
  intro s l' h
  unfold nameS
  by_cases hf : s.f = 0
  · by_cases hc : chkN x = 0
    · simp only [hf, hc, show (lay s l').f = 0 from hf, ne_eq, not_true_eq_false, if_false]
      exact sw_nameF M _ x s l' h
    · simp only [hf, hc, show (lay s l').f = 0 from hf, ne_eq, not_true_eq_false, not_false_eq_true, if_false, if_true]
      exact ⟨[], by simp, trivial, by simp [lay]⟩
  · simp only [hf, show ¬ (lay s l').f = 0 from hf, ne_eq, not_false_eq_true, if_true]
    exact ⟨[], by simp, trivial, by simp [lay]⟩
theorem sw_plain (M : Nat) (x : List UInt8) : Sw fun s => plainS M s x := by
  intro s l' h
  unfold plainS
  by_cases hf : s.f = 0
  · by_cases hc : chkN x = 0
    · simp only [hf, hc, show (lay s l').f = 0 from hf, ne_eq, not_true_eq_false, if_false]
      exact sw_plainF M _ x s l' h
    · simp only [hf, hc, show (lay s l').f = 0 from hf, ne_eq, not_true_eq_false, not_false_eq_true, if_false, if_true]
      exact ⟨[], by simp, trivial, by simp [lay]⟩
  · simp only [hf, show ¬ (lay s l').f = 0 from hf, ne_eq, not_false_eq_true, if_true]
    exact ⟨[], by simp, trivial, by simp [lay]⟩
theorem sw_nums (M : Nat) : ∀ (vs ns : List Nat), Sw fun s => numsS M vs ns s
  | [], _ => fun s l' h => ⟨[], by simp [numsS, lay]⟩
  | _ :: _, [] => fun s l' h => ⟨[], by simp [numsS, lay]⟩
  | v :: vs, n :: ns => by
    by_cases hn : n = 0
    · have e : (fun s => numsS M (v :: vs) (n :: ns) s) = fun s => numsS M vs ns s := by
        funext s
        conv => lhs; unfold numsS
        rw [if_pos hn]
      rw [e]
      exact sw_nums M vs ns
    · have e : (fun s => numsS M (v :: vs) (n :: ns) s) = fun s => if (numS M s v n).1 = 0 then numsS M vs ns (numS M s v n).2 else numS M s v n := by
        funext s
        conv => lhs; unfold numsS
        rw [if_neg hn]
      rw [e]
      exact (sw_num M v n).seq (sw_nums M vs ns)
theorem sw_texts (M : Nat) : ∀ (L : List ByteArray), Sw fun s => textsS M L s
  | [] => fun s l' h => ⟨[], by simp [textsS, lay]⟩
  | x :: L => by
    have e : (fun s => textsS M (x :: L) s) = fun s => if (textS1 M s x).1 = 0 then textsS M L (textS1 M s x).2 else textS1 M s x := by funext s; rfl
    rw [e]
    have e1 : (fun s => textS1 M s x) = fun s => if (numS M s x.size 1).1 = 0 then putS M (numS M s x.size 1).2 (bs x) else numS M s x.size 1 := rfl
    have h1 : Sw fun s => textS1 M s x := by rw [e1]; exact (sw_num M x.size 1).seq (sw_put M (bs x))
    exact h1.seq (sw_texts M L)
theorem sw_putP (M : Nat) (p : Pt) (d : MD) : Sw fun s => putP M p d s := by
  cases p with
  | adr six => exact sw_put M _
  | nam mail ptd => cases ptd; exact sw_plain M _; exact sw_name M _
  | num a b c e f => exact sw_nums M _ _
  | txt => exact sw_texts M _
  | raw => exact sw_put M _
theorem sw_putK (M : Nat) (d : MD) : ∀ K : List Pt, Sw fun s => putK M K d s
  | [] => fun s l' h => ⟨[], by simp [putK, lay]⟩
  | p :: K => by
    have e : (fun s => putK M (p :: K) d s) = fun s => if (putP M p d s).1 = 0 then putK M K d (putP M p d s).2 else putP M p d s := by funext s; rfl
    rw [e]
    exact (sw_putP M p d).seq (sw_putK M d K)
end Go.Proofs.YtodedbokeodmkaaGreat
namespace Go.Proofs.YtodedbokeodmkaaGreat
open Go.RowKit
set_option linter.unusedVariables false

theorem kind_good : ∀ (K : List Pt) (d : MD) (s : PS), (∀ p ∈ K, wired p = true) → (∀ p ∈ K, chkP p d = 0) → Fit64 d → GoodR s → s.l.length + 255 * K.length ≤ 65535 → GoodR (putK 65535 K d s).2
  | [], d, s, _, _, _, h, _ => h
  | p :: K, d, s, hw, hc, fd, hg, hM => by
    rw [List.length_cons, Nat.mul_add, Nat.mul_one] at hM
    have hM1 : s.l.length + 255 ≤ 65535 := Nat.le_trans (Nat.add_le_add_left (Nat.le_add_left _ _) _) hM
    have hp := part_back (hw p List.mem_cons_self) hg (hc p List.mem_cons_self) fd hM1
    rw [putK_two hp.ok]
    obtain ⟨ok, good, ⟨y, hy, hy1, hy2, hy3⟩, back⟩ := hp
    have hlen := congrArg List.length hy
    rw [List.length_append] at hlen
    exact kind_good K d _ (fun q hq => hw q (List.mem_cons_of_mem _ hq)) (fun q hq => hc q (List.mem_cons_of_mem _ hq)) fd good (by omega)
/-- What data that are put come to. -/
structure DatB (t : Int) (d : MD) (s : PS) (q : Nat × PS) : Prop where
  ok : q.1 = 0
  good : GoodR q.2
  l : ∃ y, q.2.l = s.l ++ y ∧ y.length ≤ sizeD t d
  back : ∀ z, readD (q.2.l ++ z) s.l.length q.2.l.length t = (0, d)
theorem data_back {t : Int} {d : MD} {s : PS} (ht : isT t = true) (h0 : allK (kindK t) d = 0) (fd : Fit64 d) (hg : GoodR s) (hs : s.l.length + 765 ≤ 65535) (hz : s.l.length + sizeK (kindK t) d ≤ 65535) : DatB t d s (putD 65535 t d s) := by
  obtain ⟨hdrop, hchk, h65⟩ := all_facts h0
  have hput : putD 65535 t d s = putK 65535 (kindK t) d s := by
    unfold putD
    rw [ht, if_pos rfl, if_neg (by simp [h0])]
  have hcopy := copy_kind hdrop
  rw [hput]
  have hsz := size_some ht h0
  rcases type_cases t with ⟨hsome, h16, hw, hl3⟩ | ⟨h16, hk⟩ | ⟨hnone, hk⟩
  · obtain ⟨ok, ⟨y, hy, hyl, hyn⟩, back⟩ := kind_back (kindK t) d s hw hchk fd hg (by omega)
    have hgd := kind_good (kindK t) d s hw hchk fd hg (by omega)
    obtain ⟨q, hq⟩ : ∃ q, putK 65535 (kindK t) d s = q := ⟨_, rfl⟩
    rw [hq] at ok hy back hgd ⊢
    have hlen := congrArg List.length hy
    rw [List.length_append] at hlen
    refine ⟨ok, hgd, ⟨y, hy, by rw [hsz]; exact hyl⟩, fun z => ?_⟩
    have b1 := back z q.2.l.length md0 (Nat.le_refl _) (by rw [List.length_append]; omega)
    rw [hcopy] at b1
    rw [readD_in ht (by omega) (by rw [List.length_append]; omega), b1, if_neg (by simp), if_neg]
    simp [h0]
  · rw [hk] at hchk hz h65 ⊢
    have ta := txt_all (hchk _ List.mem_cons_self)
    have hsT : sizeK [.txt] d = sizeT d.L := by simp [sizeK, sizeP]
    have hne : d.L ≠ [] := fun h => by have := hchk .txt List.mem_cons_self; simp [chkP, h] at this
    have pa := texts_put (M := 65535) d.L s hg.good.f ta (by omega)
    have pk : putK 65535 [.txt] d s = (0, { s with l := s.l ++ txB d.L }) := by
      rw [putK_two (show (putP 65535 .txt d s).1 = 0 from by show (textsS 65535 d.L s).1 = 0; rw [pa])]
      show (0, (textsS 65535 d.L s).2) = _
      rw [pa]
    rw [pk]
    have hl := txB_length d.L
    refine ⟨rfl, hg.app (by omega), ⟨_, rfl, (by rw [hsz, hk, hsT, hl]; exact Nat.le_refl _)⟩, fun z => ?_⟩
    simp only
    rw [readD_in ht (by simp) (by simp), hk]
    have hR : (s.l ++ txB d.L ++ z).take (s.l ++ txB d.L).length = s.l ++ txB d.L := List.take_left' rfl
    rw [hR]
    have hrd := texts_rd d.L s.l [] ((s.l ++ txB d.L).length + 1 - s.l.length) ta (fun _ => hne) (by rw [List.length_append]; omega)
    have hrk : rdK (s.l ++ txB d.L ++ z) (s.l ++ txB d.L) [.txt] md0 s.l.length = ⟨0, (s.l ++ txB d.L).length, d⟩ := by
      have e1 : rdP (s.l ++ txB d.L ++ z) (s.l ++ txB d.L) .txt md0 s.l.length = ⟨0, (s.l ++ txB d.L).length, d⟩ := by
        simp only [rdP]
        have hm0 : md0.L = [] := rfl
        rw [hm0, hrd]
        rw [hk] at hcopy
        have hc' : { md0 with L := d.L } = d := hcopy
        simp only [List.nil_append]
        congr 1
      rw [rdK, e1]
      simp [rdK]
    rw [hrk, if_neg (by simp), if_neg]
    rw [hk] at h0
    simp [h0]
  · rw [hk] at hchk hz h65 ⊢
    have hsT : sizeK [.raw] d = d.r.size := by simp [sizeK, sizeP]
    have pa := put0 (M := 65535) (s := s) (x := bs d.r) hg.good.f (by rw [bs_length]; omega)
    have pk : putK 65535 [.raw] d s = (0, { s with l := s.l ++ bs d.r }) := by
      rw [putK_two (show (putP 65535 .raw d s).1 = 0 from by show (putS 65535 s (bs d.r)).1 = 0; rw [pa])]
      show (0, (putS 65535 s (bs d.r)).2) = _
      rw [pa]
    rw [pk]
    have h0' := h0
    rw [hk] at hcopy h0'
    have hc' : { md0 with r := d.r } = d := hcopy
    refine ⟨rfl, hg.app (by rw [bs_length]; omega), ⟨_, rfl, (by rw [hsz, hk, hsT, bs_length]; exact Nat.le_refl _)⟩, fun z => ?_⟩
    simp only
    rw [readD_in ht (by simp) (by simp), hk]
    have hR : (s.l ++ bs d.r ++ z).take (s.l ++ bs d.r).length = s.l ++ bs d.r := List.take_left' rfl
    have hrk : rdK (s.l ++ bs d.r ++ z) (s.l ++ bs d.r) [.raw] md0 s.l.length = ⟨0, (s.l ++ bs d.r).length, d⟩ := by
      simp only [rdK, rdP, ne_eq, not_true_eq_false, if_false]
      rw [List.drop_left' rfl, mkb_bs, hc']
    rw [hR, hrk, if_neg (by simp), if_neg]
    simp [h0']
/-- Texts that were put without an error have had room. -/
theorem texts_fit {M : Nat} : ∀ (L : List ByteArray) (s : PS), s.f = 0 → (∀ x ∈ L, x.size ≤ 255) → s.l.length ≤ M → (textsS M L s).2.f = 0 → s.l.length + sizeT L ≤ M
  | [], s, _, _, h, _ => by simpa [sizeT] using h
  | x :: L, s, hf, hx, hM, h => by
    have hx1 := hx x List.mem_cons_self
    by_cases hl : s.l.length + (1 + x.size) ≤ M
    · have h1 := text1 (M := M) (x := x) hf hx1 hl
      unfold textsS at h
      rw [h1] at h
      simp only [if_true] at h
      have hlen : (s.l ++ (UInt8.ofNat x.size :: bs x)).length = s.l.length + (1 + x.size) := by simp [bs_length]; omega
      have ih := texts_fit L { s with l := s.l ++ (UInt8.ofNat x.size :: bs x) } hf (fun y hy => hx y (List.mem_cons_of_mem _ hy)) (by show (s.l ++ _).length ≤ M; rw [hlen]; exact hl) h
      simp only at ih
      rw [hlen] at ih
      simp [sizeT] at ih ⊢
      omega
    · exfalso
      have h3 : (textS1 M s x).1 ≠ 0 ∧ (textS1 M s x).2.f ≠ 0 := by
        unfold textS1
        by_cases hl1 : s.l.length + 1 ≤ M
        · rw [num1 hf hx1 hl1]
          simp only [if_true]
          have e : putS M { s with l := s.l ++ [UInt8.ofNat x.size] } (bs x) = (3, { s with l := s.l ++ [UInt8.ofNat x.size], f := 3 }) := by
            unfold putS putW
            simp only [hf, ne_eq, not_true_eq_false, if_false]
            rw [if_pos (by simp [bs_length]; omega)]
          rw [e]
          exact ⟨by simp, by simp⟩
        · have e : numS M s x.size 1 = (3, { s with f := 3 }) := by
            unfold numS numW
            rw [if_neg (by simp [hf]), if_neg (by simp [room1 hx1])]
            unfold putW
            rw [if_neg (by simp [hf]), if_pos (by rw [octs_length]; simp; omega)]
          rw [e]
          exact ⟨by simp, by simp⟩
      unfold textsS at h
      rw [if_neg h3.1] at h
      exact h3.2 h
theorem data_fit {t : Int} {d : MD} {s : PS} (ht : isT t = true) (h0 : allK (kindK t) d = 0) (hg : GoodR s) (hs : s.l.length + 765 ≤ 65535) (hf : (putD 65535 t d s).2.f = 0) : (∀ p ∈ kindK t, wired p = true) ∧ (kindK t).length ≤ 3 ∨ s.l.length + sizeK (kindK t) d ≤ 65535 := by
  obtain ⟨hdrop, hchk, h65⟩ := all_facts h0
  have hput : putD 65535 t d s = putK 65535 (kindK t) d s := by
    unfold putD
    rw [ht, if_pos rfl, if_neg (by simp [h0])]
  rw [hput] at hf
  rcases type_cases t with ⟨hsome, h16, hw, hl3⟩ | ⟨h16, hk⟩ | ⟨hnone, hk⟩
  · exact .inl ⟨hw, hl3⟩
  · right
    rw [hk] at hchk hf ⊢
    have ta := txt_all (hchk _ List.mem_cons_self)
    rw [put_one] at hf
    have := texts_fit (M := 65535) d.L s hg.good.f ta (by omega) hf
    simpa [sizeK, sizeP] using this
  · right
    rw [hk] at hf ⊢
    rw [put_one] at hf
    have hf' : (putS 65535 s (bs d.r)).2.f = 0 := hf
    have hsz : sizeK [.raw] d = d.r.size := by simp [sizeK, sizeP]
    rw [hsz]
    refine Classical.byContradiction fun hn => ?_
    unfold putS putW at hf'
    rw [if_neg (by simp [hg.good.f]), if_pos (by rw [bs_length]; omega)] at hf'
    cases hf'
end Go.Proofs.YtodedbokeodmkaaGreat
namespace Go.Proofs.YtodedbokeodmkaaGreat
open Go.RowKit
set_option linter.unusedVariables false
set_option maxRecDepth 10000

theorem numR_whole (A x z : List UInt8) (h1 : 1 ≤ x.length) (h4 : x.length ≤ 4) : numR (A ++ x ++ z) A.length (x.length : Nat) = ⟨x, 0, A.length + x.length⟩ := by
  unfold numR
  rw [if_neg (by simp [isW]; omega)]
  exact takR_whole A x z
theorem numR_octs (A z : List UInt8) (v n : Nat) (h1 : 1 ≤ n) (h4 : n ≤ 4) : numR (A ++ octs v n ++ z) A.length (n : Nat) = ⟨octs v n, 0, A.length + n⟩ := by
  have h := numR_whole A (octs v n) z (by rw [octs_length]; exact h1) (by rw [octs_length]; exact h4)
  rwa [octs_length] at h
/-- What a question that is put comes to. -/
structure QuB (q : MQ) (s : PS) (p : Nat × PS) : Prop where
  ok : p.1 = 0
  good : GoodR p.2
  o : p.2.o = s.o
  l : ∃ y, p.2.l = s.l ++ y ∧ y.length ≤ sizeN (bs q.n) + 4
  back : ∀ z, rdQ (p.2.l ++ z) (s.l.length : Nat) = ⟨0, p.2.l.length, q⟩
theorem quest_back {q : MQ} {s : PS} (hg : GoodR s) (hc : checkQ q = 0) (hs : s.l.length + 300 ≤ 65535) : QuB q s (putQ 65535 q s) := by
  obtain ⟨hn, ht, hcl⟩ := checkQ_zero hc
  obtain ⟨t1, t2⟩ := isT_yes ht
  obtain ⟨c1, c2⟩ := isT_yes hcl
  have hx := chkN_len hn
  have hr0 : refC s.f (checkQ q) = 0 := by rw [hg.good.f, hc]; rfl
  have hsz : sizeN (bs q.n) = (bs q.n).length + 1 := by unfold sizeN; rw [if_pos hn]
  obtain ⟨hg1, c, hru⟩ := nam_back hg hn (by omega)
  obtain ⟨y1, e1, _, l1⟩ := (nameS_good (M := 65535) (x := bs q.n) hg.good hg.inv hn (by omega)).1.l
  obtain ⟨y1', e1', _, o1⟩ : ∃ y, (nameS 65535 s (bs q.n)).2.l = s.l ++ y ∧ True ∧ (nameS 65535 s (bs q.n)).2.o = s.o := by
    obtain ⟨y, a, b, _⟩ := sw_name 65535 (bs q.n) s s.l rfl
    exact ⟨y, a, trivial, b⟩
  obtain ⟨s1, hs1⟩ : ∃ x, (nameS 65535 s (bs q.n)).2 = x := ⟨_, rfl⟩
  rw [hs1] at hg1 hru e1 o1
  have hlen1 := congrArg List.length e1
  rw [List.length_append] at hlen1
  obtain ⟨qn, qt, qc⟩ := q
  simp only at *
  obtain ⟨tn, rfl⟩ := Int.eq_ofNat_of_zero_le t1
  obtain ⟨cn, rfl⟩ := Int.eq_ofNat_of_zero_le c1
  have p2 : numS 65535 s1 tn 2 = (0, { s1 with l := s1.l ++ octs tn 2 }) := numS_ok (n := 2) hg1.good.f (by decide) (by decide) (by omega) (by omega)
  have hg2 : GoodR { s1 with l := s1.l ++ octs tn 2 } := hg1.app (by rw [octs_length]; omega)
  have p3 : numS 65535 { s1 with l := s1.l ++ octs tn 2 } cn 2 = (0, { s1 with l := s1.l ++ octs tn 2 ++ octs cn 2 }) := numS_ok (n := 2) (s := { s1 with l := s1.l ++ octs tn 2 }) hg1.good.f (by decide) (by decide) (by omega) (by simp [octs_length]; omega)
  have hg3 : GoodR { s1 with l := s1.l ++ octs tn 2 ++ octs cn 2 } := GoodR.app (s := { s1 with l := s1.l ++ octs tn 2 }) hg2 (by simp [octs_length]; omega)
  have hput : putQ 65535 ⟨qn, tn, cn⟩ s = (0, { s1 with l := s1.l ++ octs tn 2 ++ octs cn 2 }) := by
    unfold putQ
    rw [if_neg (fun h => h hr0)]
    have e3 : putQ3 65535 ⟨qn, tn, cn⟩ s = { s1 with l := s1.l ++ octs tn 2 ++ octs cn 2 } := by
      unfold putQ3 putQ2 putQ1
      simp only [Int.toNat_natCast]
      rw [hs1, p2]
      simp only
      rw [p3]
    rw [e3]
    show (s1.f, _) = _
    rw [hg1.good.f]
  rw [hput]
  refine ⟨rfl, hg3, o1, ⟨y1 ++ octs tn 2 ++ octs cn 2, by simp [e1], by simp [octs_length]; omega⟩, fun z => ?_⟩
  simp only
  obtain ⟨T, hT⟩ : ∃ T, T = s1.l ++ octs tn 2 ++ octs cn 2 ++ z := ⟨_, rfl⟩
  rw [← hT]
  have hTl : T.length = s1.l.length + 4 + z.length := by rw [hT]; simp [octs_length]; omega
  have r0 : seekR T 0 (s.l.length : Nat) = (0, s.l.length) := seekR_some (by omega)
  have hru' : Ru T s.l.length s.l.length (bs qn) s1.l.length c := by
    have h := hru.app (octs tn 2 ++ octs cn 2 ++ z)
    rwa [show s1.l ++ (octs tn 2 ++ octs cn 2 ++ z) = T by rw [hT]; simp] at h
  obtain ⟨u1, u2, u3⟩ := ru_read hru' hx (by omega) (by omega)
  have r1 : rdNm T s.l.length = ⟨bs qn, 0, s1.l.length⟩ := by
    unfold rdNm
    rw [u1, u2, u3, if_neg (fun h => h rfl), seekR_some (by omega), if_neg (fun h => h rfl)]
  have r2 : numR T s1.l.length 2 = ⟨octs tn 2, 0, s1.l.length + 2⟩ := by
    have h := numR_octs s1.l (octs cn 2 ++ z) tn 2 (by decide) (by decide)
    rwa [show s1.l ++ octs tn 2 ++ (octs cn 2 ++ z) = T by rw [hT]; simp] at h
  have r3 : numR T (s1.l.length + 2) 2 = ⟨octs cn 2, 0, s1.l.length + 2 + 2⟩ := by
    have h := numR_octs (s1.l ++ octs tn 2) z cn 2 (by decide) (by decide)
    rw [List.length_append, octs_length] at h
    rwa [← hT] at h
  have hd : rdQ T (s.l.length : Nat) = ⟨0, s1.l.length + 2 + 2, ⟨mkb (bs qn), (num (octs tn 2) : Nat), (num (octs cn 2) : Nat)⟩⟩ := by
    unfold rdQ
    rw [r0, r1]
    simp only [ne_eq, not_true_eq_false, if_false]
    rw [r2]
    simp only [not_true_eq_false, if_false]
    rw [r3]
    simp only [not_true_eq_false, if_false]
  rw [hd, mkb_bs, num_octs 2 tn (by omega), num_octs 2 cn (by omega)]
  congr 1
  simp [octs_length]
theorem wired_size : ∀ (K : List Pt) (d : MD), (∀ p ∈ K, wired p = true) → sizeK K d ≤ 255 * K.length
  | [], d, _ => Nat.zero_le _
  | p :: K, d, h => by
    have ih := wired_size K d (fun q hq => h q (List.mem_cons_of_mem _ hq))
    have hp := h p List.mem_cons_self
    have h1 : sizeP p d ≤ 255 := by
      cases p with
      | adr six => show (if six then 16 else 4) ≤ 255; split <;> omega
      | nam mail ptd =>
        show sizeN (bs (nameOf mail d)) ≤ 255
        unfold sizeN
        split
        · rename_i hc; have := chkN_len hc; omega
        · omega
      | num a b c e f =>
        simp [wired] at hp
        show a + b + c + e + f ≤ 255
        omega
      | txt => cases hp
      | raw => cases hp
    have hsk : sizeK (p :: K) d = sizeP p d + sizeK K d := by
      show (List.map (fun q => sizeP q d) (p :: K)).sum = _
      rw [List.map_cons, List.sum_cons]
      rfl
    rw [hsk, List.length_cons, Nat.mul_add, Nat.mul_one]
    exact Nat.le_trans (Nat.add_le_add h1 ih) (Nat.le_of_eq (Nat.add_comm _ _))
theorem GoodR.begun {s : PS} (h : GoodR s) (o : List Nat) (h1 : ∀ a ∈ o, a + 2 ≤ s.l.length) (h2 : o.length ≤ s.l.length) : GoodR { s with o := o } :=
  ⟨⟨h.good.f, h.good.marks⟩, ⟨h.inv.le, h.inv.most, h.inv.mark, h1, h2⟩, h.marks⟩
/-- What a record that is put comes to. -/
structure ReB (r : MR) (s : PS) (p : Nat × PS) : Prop where
  ok : p.1 = 0
  good : GoodR p.2
  o : p.2.o = s.o
  l : ∃ y, p.2.l = s.l ++ y ∧ y.length ≤ sizeR r
  back : ∀ z, rdR (p.2.l ++ z) (s.l.length : Nat) = ⟨0, p.2.l.length, r⟩
theorem rec_back {r : MR} {s : PS} (hg : GoodR s) (hc : checkR r = 0) (fd : Fit64 r.d) (hx : r.x < 4294967296) (hs : s.l.length + 1100 ≤ 65535) (hfit : s.l.length + 265 + sizeK (kindK r.t) r.d ≤ 65535 ∨ (putR 65535 r s).2.f = 0) : ReB r s (putR 65535 r s) := by
  obtain ⟨hcq, hcd⟩ := checkR_zero hc
  have hr0 : refC s.f (checkR r) = 0 := by rw [hg.good.f, hc]; rfl
  have hput : putR 65535 r s = ((putR5 65535 r s).f, putR5 65535 r s) := by unfold putR; rw [if_neg (fun h => h hr0)]
  rw [hput] at hfit ⊢
  simp only at hfit
  obtain ⟨_, ht, _⟩ := checkQ_zero hcq
  replace ht : isT r.t = true := ht
  have hall : allK (kindK r.t) r.d = 0 := by
    have ht' : isT r.t = true := ht
    unfold checkD at hcd
    rwa [if_pos ht'] at hcd
  obtain ⟨_, qg, qo, ⟨yq, el1, ll1⟩, qb⟩ := quest_back hg hcq (by omega)
  have e1 : putR1 65535 r s = (putQ 65535 r.q s).2 := rfl
  obtain ⟨s1, hs1⟩ : ∃ x, (putQ 65535 r.q s).2 = x := ⟨_, rfl⟩
  rw [hs1] at qg qo el1 qb e1
  have hn255 := (show sizeN (bs r.q.n) ≤ 255 by
    unfold sizeN
    split
    · rename_i h; have := chkN_len h; omega
    · omega)
  have hlen1 := congrArg List.length el1
  rw [List.length_append] at hlen1
  have p2 : numS 65535 s1 r.x 4 = (0, { s1 with l := s1.l ++ octs r.x 4 }) := numS_ok (n := 4) qg.good.f (by decide) (by decide) hx (by omega)
  have hg2 : GoodR { s1 with l := s1.l ++ octs r.x 4 } := qg.app (by rw [octs_length]; omega)
  have e2 : putR2 65535 r s = { s1 with l := s1.l ++ octs r.x 4 } := by unfold putR2; rw [e1, p2]
  have hl2 : (s1.l ++ octs r.x 4).length = s1.l.length + 4 := by rw [List.length_append, octs_length]
  have p3 : numS 65535 { s1 with l := s1.l ++ octs r.x 4 } 0 2 = (0, { s1 with l := s1.l ++ octs r.x 4 ++ octs 0 2 }) := numS_ok (n := 2) (s := { s1 with l := s1.l ++ octs r.x 4 }) qg.good.f (by decide) (by decide) (by decide) (by show (s1.l ++ octs r.x 4).length + 2 ≤ _; omega)
  have e3 : putR3 65535 r s = ((s1.l ++ octs r.x 4).length, 0, { s1 with l := s1.l ++ octs r.x 4 ++ octs 0 2, o := s1.o ++ [(s1.l ++ octs r.x 4).length] }) := by
    unfold putR3 beginS
    rw [e2, p3]
    rfl
  obtain ⟨s3, hs3⟩ : ∃ x : PS, x = { s1 with l := s1.l ++ octs r.x 4 ++ octs 0 2, o := s1.o ++ [(s1.l ++ octs r.x 4).length] } := ⟨_, rfl⟩
  rw [← hs3] at e3
  have hl3 : s3.l = s1.l ++ octs r.x 4 ++ octs 0 2 := by rw [hs3]
  have ho3 : s3.o = s1.o ++ [(s1.l ++ octs r.x 4).length] := by rw [hs3]
  have hpd : ∀ u : PS, putD 65535 r.t r.d u = putK 65535 (kindK r.t) r.d u := fun u => by
    unfold putD
    rw [ht, if_pos rfl, if_neg (by simp [hall])]
  have e4 : putR4 65535 r s = (putK 65535 (kindK r.t) r.d s3).2 := by unfold putR4; rw [e3, hpd]
  obtain ⟨y, hy, hyo, _⟩ := sw_putK 65535 r.d (kindK r.t) s3 s3.l rfl
  simp only at hy hyo
  obtain ⟨l', hl'⟩ : ∃ x, x = s1.l ++ octs r.x 4 ++ octs y.length 2 := ⟨_, rfl⟩
  have hll : l'.length = s1.l.length + 6 := by rw [hl', List.length_append, hl2, octs_length]
  have hll3 : s3.l.length = s1.l.length + 6 := by rw [hl3, List.length_append, hl2, octs_length]
  obtain ⟨y', hy', _, hv⟩ := sw_putK 65535 r.d (kindK r.t) s3 l' (by rw [hll, hll3])
  simp only at hy' hv
  have hyy : y' = y := List.append_cancel_left (hy'.symm.trans hy)
  subst hyy
  obtain ⟨p4, hp4⟩ : ∃ x, putK 65535 (kindK r.t) r.d s3 = x := ⟨_, rfl⟩
  rw [hp4] at e4 hy hyo hv
  have hbeg : ∀ a ∈ s3.o, a + 2 ≤ s1.l.length + 6 := fun a ha => by
    rw [ho3, List.mem_append, List.mem_singleton] at ha
    rcases ha with h | h
    · have := qg.inv.begun a h; omega
    · rw [h, hl2]; omega
  have hol : s3.o.length ≤ s1.l.length + 6 := by rw [ho3, List.length_append, List.length_singleton]; have := qg.inv.olen; omega
  have hgl : GoodR { s1 with l := l' } := by
    have h := GoodR.app (s := { s1 with l := s1.l ++ octs r.x 4 }) hg2 (y := octs y'.length 2) (by simp [octs_length]; omega)
    rw [hl']
    exact h
  have hg3 : GoodR (lay s3 l') := by
    have h := GoodR.begun hgl s3.o (by show ∀ a ∈ s3.o, a + 2 ≤ l'.length; rw [hll]; exact hbeg) (by show _ ≤ l'.length; rw [hll]; exact hol)
    have e : lay s3 l' = { s1 with l := l', o := s3.o } := by rw [hs3]; rfl
    rw [e]
    exact h
  have hf5 : (putR5 65535 r s).f = p4.2.f := by unfold putR5; rw [endS_f, e4]
  have hz : (lay s3 l').l.length + sizeK (kindK r.t) r.d ≤ 65535 := by
    show l'.length + _ ≤ _
    rw [hll]
    rcases hfit with h | h
    · omega
    · rw [hf5] at h
      rcases data_fit (s := lay s3 l') ht hall hg3 (by show l'.length + 765 ≤ _; omega) (by rw [hpd, hv]; exact h) with ⟨hw, h3⟩ | h'
      · have h1 := wired_size (kindK r.t) r.d hw
        have h2 : 255 * (kindK r.t).length ≤ 765 := Nat.le_trans (Nat.mul_le_mul_left 255 h3) (by decide)
        have h4 := Nat.le_trans h1 h2
        clear h1 h2 h3
        omega
      · have h2 : l'.length + sizeK (kindK r.t) r.d ≤ 65535 := h'
        rwa [hll] at h2
  obtain ⟨dok, dg, ⟨yd, dl, dll⟩, db⟩ := data_back (s := lay s3 l') ht hall fd hg3 (by show l'.length + 765 ≤ _; omega) hz
  rw [hpd, hv] at dok dg dl db
  simp only at dok dl db
  have hyd : yd = y' := List.append_cancel_left (show l' ++ yd = l' ++ y' from dl.symm)
  subst hyd
  have hL : yd.length < 65536 := by
    have h1 := size_some ht hall
    have h2 := (all_facts hall).2.2
    omega
  have hpf : p4.2.f = 0 := dg.good.f
  have h4l : p4.2.l = s1.l ++ octs r.x 4 ++ octs 0 2 ++ yd := by rw [hy, hl3]
  have h4o : p4.2.o = s1.o ++ [(s1.l ++ octs r.x 4).length] := by rw [hyo, ho3]
  have e5 : putR5 65535 r s = { lay p4.2 (l' ++ yd) with o := s1.o } := by
    unfold putR5
    rw [e4, e3]
    unfold endS
    rw [if_neg (by simp [hpf]), h4o, List.getLast?_append]
    simp only [List.getLast?_singleton, Option.some_or, if_true]
    rw [List.dropLast_concat, h4l]
    have hlen : (s1.l ++ octs r.x 4 ++ octs 0 2 ++ yd).length - (s1.l ++ octs r.x 4).length - 2 = yd.length := by simp only [List.length_append, octs_length]; omega
    have hov : over (s1.l ++ octs r.x 4 ++ octs 0 2 ++ yd) (s1.l ++ octs r.x 4).length (octs yd.length 2) = l' ++ yd := by
      unfold over
      rw [List.append_assoc (s1.l ++ octs r.x 4), List.take_left' rfl, octs_length, ← List.drop_drop, List.drop_left' rfl, List.drop_left' (octs_length 2 0), hl']
      simp
    rw [hlen, hov]
    rfl
  have hg5 : GoodR { lay p4.2 (l' ++ yd) with o := s1.o } := GoodR.begun dg s1.o (fun a ha => by have := qg.inv.begun a ha; show _ ≤ (l' ++ yd).length; rw [List.length_append]; omega) (by have := qg.inv.olen; show _ ≤ (l' ++ yd).length; rw [List.length_append]; omega)
  rw [e5]
  refine ⟨hpf, hg5, qo, ⟨yq ++ octs r.x 4 ++ octs yd.length 2 ++ yd, ?_, ?_⟩, fun z => ?_⟩
  · show l' ++ yd = _
    rw [hl', el1]
    simp
  · unfold sizeR
    rw [if_neg (fun h => h hc)]
    simp only [List.length_append, octs_length]
    have : sizeN (bs r.q.n) = sizeN (bs r.n) := rfl
    omega
  · show rdR (l' ++ yd ++ z) _ = ⟨0, (l' ++ yd).length, r⟩
    obtain ⟨T, hT⟩ : ∃ T, T = l' ++ yd ++ z := ⟨_, rfl⟩
    have hT' : T = s1.l ++ octs r.x 4 ++ octs yd.length 2 ++ yd ++ z := by rw [hT, hl']
    have b0 := qb (octs r.x 4 ++ octs yd.length 2 ++ yd ++ z)
    rw [show s1.l ++ (octs r.x 4 ++ octs yd.length 2 ++ yd ++ z) = T by rw [hT']; simp] at b0
    have r4 : numR T s1.l.length 4 = ⟨octs r.x 4, 0, s1.l.length + 4⟩ := by
      have h := numR_octs s1.l (octs yd.length 2 ++ yd ++ z) r.x 4 (by decide) (by decide)
      rwa [show s1.l ++ octs r.x 4 ++ (octs yd.length 2 ++ yd ++ z) = T by rw [hT']; simp] at h
    have r5 : numR T (s1.l.length + 4) 2 = ⟨octs yd.length 2, 0, s1.l.length + 4 + 2⟩ := by
      have h := numR_octs (s1.l ++ octs r.x 4) (yd ++ z) yd.length 2 (by decide) (by decide)
      rw [hl2] at h
      rwa [show s1.l ++ octs r.x 4 ++ octs yd.length 2 ++ (yd ++ z) = T by rw [hT']; simp] at h
    have r6 : takR T (s1.l.length + 4 + 2) (yd.length : Nat) = ⟨yd, 0, s1.l.length + 4 + 2 + yd.length⟩ := by
      have h := takR_whole l' yd z
      rw [hll] at h
      rwa [← hT] at h
    have r7 : readD T (s1.l.length + 4 + 2 : Nat) (s1.l.length + 4 + 2 + yd.length : Nat) r.t = (0, r.d) := by
      have h := db z
      rw [show (lay p4.2 (l' ++ yd)).l = l' ++ yd from rfl, show (lay s3 l').l = l' from rfl, ← hT, List.length_append, hll] at h
      exact h
    rw [← hT]
    unfold rdR
    rw [b0]
    simp only [ne_eq, not_true_eq_false, if_false]
    unfold rdTail
    rw [r4]
    simp only [not_true_eq_false, ne_eq, if_false]
    rw [r5]
    simp only [not_true_eq_false, if_false]
    rw [num_octs 2 yd.length (by omega), r6]
    simp only [not_true_eq_false, if_false]
    rw [show r.q.t = r.t from rfl, r7]
    simp only [not_true_eq_false, if_false]
    rw [num_octs 4 r.x (by omega), List.length_append, hll]
    rfl
end Go.Proofs.YtodedbokeodmkaaGreat
namespace Go.Proofs.YtodedbokeodmkaaGreat
open Go.RowKit Go.Maps
set_option linter.unusedVariables false
set_option maxRecDepth 100000

theorem light_gen (r : MR) (tv : Value) (w : World) (hf : FitR w r tv) (R : World → Bool → Ending → World → Prop) (hR : ∀ W, Below w.heap.size w W → Calls Tryz.prog 23 #[dataV r.d tv] W fun e w' => ∃ b, R W b e w' ∧ e = .returned (.bool b) ∧ Below W.heap.size W w') :
    Calls Tryz.prog 7 #[recV r tv] w fun e w' => ∃ b, e = .returned (.bool b) ∧ Below w.heap.size w w' ∧ (r.n.size ≤ 400 → ∃ W e2, R W b e2 w') ∧ (¬ r.n.size ≤ 400 → b = false) := by
  obtain ⟨A, cap, htv, _, _⟩ := hf.d.row.shape
  have htv' : ∃ n, tv = Value.slice A n cap := ⟨_, htv⟩
  clear htv
  obtain ⟨n, htv⟩ := htv'
  have HB := Lib.hid (boxR w r tv)
  have HL := Lib.hid (hR _ (boxR w r tv))
  clear hR hf
  subst htv
  unfold dataV cellsD recV cellsR at *
  by_cases h0 : r.n.size ≤ 400
  · have d0 : decide ((r.n.size : Int) ≤ 400) = true := decide_eq_true (by omega)
    have d1 : decide (r.n.size ≤ 400) = true := decide_eq_true h0
    have H0 := Lib.hid h0
    clear h0
    go_enter Tryz.func7, Tryz.ntmps7
    go_wp2_with fail
    refine HL.out.mono ?_
    rintro e w1 ⟨b, hr, rfl, hb⟩
    have HR := Lib.hid hr
    have HB1 := Lib.hid (HB.out.trans (hb.mono HB.out.size))
    clear hr hb
    go_wp2
    go_ret
    exact ⟨b, rfl, HB1.out, fun _ => ⟨_, _, HR.out⟩, fun h => absurd H0.out h⟩
  · have d0 : decide ((r.n.size : Int) ≤ 400) = false := decide_eq_false (by omega)
    have d1 : decide (r.n.size ≤ 400) = false := decide_eq_false h0
    have H0 := Lib.hid h0
    clear h0
    go_enter Tryz.func7, Tryz.ntmps7
    go_wp2
    go_ret
    exact ⟨false, rfl, HB.out, fun h => absurd h H0.out, fun _ => rfl⟩
/-- light tells some Boolean. -/
theorem rcLight_any (r : MR) (tv : Value) (w : World) (hf : FitR w r tv) : Calls Tryz.prog 7 #[recV r tv] w (LightR w) := by
  refine (light_gen r tv w hf (fun _ _ _ _ => True) (fun W hb => (Light_any r.d tv W (hf.d.next hb)).mono ?_)).mono ?_
  · rintro e w' ⟨b, h1, h2⟩
    exact ⟨b, trivial, h1, h2⟩
  · rintro e w' ⟨b, h1, h2, _⟩
    exact ⟨b, h1, h2⟩
/-- light exactly, where the data may be. -/
theorem rcLight_small (r : MR) (tv : Value) (w : World) (hf : FitR w r tv) (hs : octD r.d + sizeT r.d.L ≤ 66500) : Calls Tryz.prog 7 #[recV r tv] w (Told w (.bool (decide (r.n.size ≤ 400) && decide (octD r.d + sizeT r.d.L ≤ 2000)))) := by
  refine (light_gen r tv w hf (fun _ b _ _ => b = decide (octD r.d + sizeT r.d.L ≤ 2000)) (fun W hb => (Light_small r.d tv W (hf.d.next hb) hs).mono ?_)).mono ?_
  · rintro e w' ⟨rfl, h2⟩
    exact ⟨_, rfl, rfl, h2⟩
  · rintro e w' ⟨b, rfl, h2, h3, h4⟩
    by_cases h0 : r.n.size ≤ 400
    · obtain ⟨_, _, h⟩ := h3 h0
      refine ⟨?_, h2⟩
      rw [h, decide_eq_true h0, Bool.true_and]
    · refine ⟨?_, h2⟩
      rw [h4 h0, decide_eq_false h0, Bool.false_and]

/-! ### Unlike records, unlike octets -/
theorem putR_ok {r : MR} (h : (putR 65535 r ps0).1 = 0) : checkR r = 0 ∧ (putR 65535 r ps0).2.f = 0 := by
  unfold putR at h ⊢
  by_cases hz : refC ps0.f (checkR r) = 0
  · rw [if_neg (fun h => h hz)] at h ⊢
    exact ⟨(refC_zero hz).2, h⟩
  · rw [if_pos hz] at h
    exact absurd h hz
end Go.Proofs.YtodedbokeodmkaaGreat
