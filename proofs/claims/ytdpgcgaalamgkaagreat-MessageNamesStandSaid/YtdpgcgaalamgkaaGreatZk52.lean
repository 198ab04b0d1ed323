/-
  The document's own reading of names: what it answers. Conditions: the octets are at most 2^40; without pointers: the reading goes well. The document's own Name and Plain (layer 8): what they answer. Conditions: the octets are at most 2^40; Plain: the reading goes well.
-/
import Derived.Test.YtdpgcgaalamgkaaGreatZk1
import Derived.Test.YtdpgcgaalamgkaaGreatZk22
namespace Go.Proofs.YtdpgcgaalamgkaaGreat
open Go.RowKit
set_option linter.unusedVariables false

/-- Where a reading stands. -/
structure RfS (S : ByteArray) (fo : Bool) (a : Nat) (u : US) (s : US) (v1 v10 v11 v12 v13 : Value) (T : ByteArray) : Prop where
  e1 : v1 = .int .i64 (s.p : Nat)
  e10 : v10 = .string T
  e11 : v11 = .int .i64 (if s.j = 0 then -1 else (s.e : Int))
  e12 : v12 = .int .i64 (s.j : Nat)
  e13 : v13 = .int .i64 ((if fo then s.r else a : Nat) : Int)
  hT : bs T = s.l
  inv : InvU S.size s
  f : s.f = 0
  r0 : fo = false → s.r = 0
  fuel : ∃ k, muU (bs S) s ≤ k ∧ runU (bs S) k s = u
def RfRel (S : ByteArray) (fo : Bool) (a : Nat) (u : US) (v1 v10 v11 v12 v13 : Value) : Prop := ∃ s T, RfS S fo a u s v1 v10 v11 v12 v13 T
section
variable {S T : ByteArray} {fo : Bool} {a : Nat} {u s : US} {v1 v10 v11 v12 v13 : Value}
/-- The fuel, a step less. -/
theorem RfS.step (h : RfS S fo a u s v1 v10 v11 v12 v13 T) : ∃ k, muU (bs S) s ≤ k + 1 ∧ runU (bs S) (k + 1) s = u := by
  obtain ⟨k, h1, h2⟩ := h.fuel
  rcases k with _ | k
  · have := h1
    unfold muU at this
    rw [if_neg (by have := h.f; omega)] at this
    omega
  · exact ⟨k, h1, h2⟩
theorem RfS.bad (h : RfS S fo a u s v1 v10 v11 v12 v13 T) {e : Nat} (hs : ∀ k, runU (bs S) (k + 1) s = failU s e) : u.l = [] ∧ u.e = 0 ∧ u.j = 0 ∧ u.f = e := by
  obtain ⟨k, _, h2⟩ := h.step
  rw [hs] at h2
  subst h2
  exact ⟨rfl, rfl, rfl, rfl⟩
theorem RfS.end_ (h : RfS S fo a u s v1 v10 v11 v12 v13 T) {c : UInt8} {t : List UInt8} (hd : (bs S).drop s.p = c :: t) (hc : c.toNat = 0) : u.l = s.l ∧ u.e = (if s.j = 0 then s.p + 1 else s.e) ∧ u.j = s.j ∧ u.f = 0 := by
  obtain ⟨k, _, h2⟩ := h.step
  rw [ru_zero h.f hd hc] at h2
  subst h2
  exact ⟨rfl, rfl, rfl, h.f⟩
theorem RfS.lab (h : RfS S fo a u s v1 v10 v11 v12 v13 T) {c : UInt8} {t : List UInt8} (hd : (bs S).drop s.p = c :: t) (h0 : 0 < c.toNat) (hc : c.toNat < 64) (hl : c.toNat ≤ t.length) :
    (254 < s.l.length + (1 + c.toNat) → u.l = [] ∧ u.e = 0 ∧ u.j = 0 ∧ u.f = 3) ∧
    (s.l.length + (1 + c.toNat) ≤ 254 → ∀ T', bs T' = s.l ++ (c :: t).take (1 + c.toNat) → RfS S fo a u (keepU (overU (bs S) s (1 + c.toNat))) (.int .i64 ((s.p + (1 + c.toNat) : Nat) : Int)) (.string T') v11 v12 v13 T') := by
  obtain ⟨k, h1, h2⟩ := h.step
  have hp := part_lab hc hl
  rw [← hd] at hp
  have htl : (overU (bs S) s (1 + c.toNat)).t.length = 1 + c.toNat := by
    have := overU_t (x := bs S) (s := s) (by rw [hp])
    rw [hp] at this
    exact this
  rw [ru_lab h.f hd h0 hc hl] at h2
  refine ⟨fun hlong => ?_, fun hshort T' hT' => ?_⟩
  · have hk : keepU (overU (bs S) s (1 + c.toNat)) = failU (overU (bs S) s (1 + c.toNat)) 3 := by
      unfold keepU
      rw [if_pos (by rw [htl]; exact hlong)]
    rw [hk, runU_stop (by show (3 : Nat) ≠ 0; decide)] at h2
    subst h2
    exact ⟨rfl, rfl, rfl, rfl⟩
  · have hk : keepU (overU (bs S) s (1 + c.toNat)) = { overU (bs S) s (1 + c.toNat) with l := s.l ++ (overU (bs S) s (1 + c.toNat)).t } := by
      unfold keepU
      rw [if_neg (by rw [htl]; show ¬ 254 < s.l.length + _; omega)]
      rfl
    have hinv := keepU_inv (overU_inv (x := bs S) (by rw [bs_length]; exact h.inv) (by rw [hp]))
    rw [hp, bs_length] at hinv
    have hmu := mu_keep (x := bs S) (by rw [bs_length]; exact h.inv) (by rw [hp]) h.f h1
    rw [hp] at hmu
    refine ⟨by rw [hk]; rfl, rfl, ?_, ?_, ?_, ?_, hinv, by rw [hk]; exact h.f, (fun e => by rw [hk]; exact h.r0 e), ⟨k, hmu, h2⟩⟩
    · rw [hk, h.e11]
      show _ = Value.int .i64 (if s.j = 0 then -1 else (((if s.j = 0 then s.p + (1 + c.toNat) else s.e) : Nat) : Int))
      by_cases hj : s.j = 0
      · rw [if_pos hj, if_pos hj]
      · rw [if_neg hj, if_neg hj, if_neg hj]
    · rw [hk, h.e12]; rfl
    · rw [hk, h.e13]; rfl
    · rw [hk, hT']
      show _ = s.l ++ ((bs S).drop s.p).take (1 + c.toNat)
      rw [hd]
theorem RfS.ptr (h : RfS S fo a u s v1 v10 v11 v12 v13 T) {c d : UInt8} {t : List UInt8} (hd : (bs S).drop s.p = c :: d :: t) (hc : 192 ≤ c.toNat) :
    (s.r ≤ 256 * (c.toNat - 192) + d.toNat → u.l = [] ∧ u.e = 0 ∧ u.j = 0 ∧ u.f = 4) ∧
    (256 * (c.toNat - 192) + d.toNat < s.r → RfS S true a u (followU (overU (bs S) s 2)) (.int .i64 ((256 * (c.toNat - 192) + d.toNat : Nat) : Int)) v10 (.int .i64 (if s.j = 0 then ((s.p + 2 : Nat) : Int) else (s.e : Int))) (.int .i64 ((s.j + 1 : Nat) : Int)) (.int .i64 ((256 * (c.toNat - 192) + d.toNat : Nat) : Int)) T) := by
  obtain ⟨k, h1, h2⟩ := h.step
  have hp := part_ptr (d := d) (t := t) hc
  rw [← hd] at hp
  have hto := to_two hd
  rw [ref_ru_ptr h.f hd hc] at h2
  refine ⟨fun hlong => ?_, fun hshort => ?_⟩
  · have hk : followU (overU (bs S) s 2) = failU (overU (bs S) s 2) 4 := by
      unfold followU
      rw [if_pos (by rw [hto]; exact hlong)]
    rw [hk, runU_stop (by show (4 : Nat) ≠ 0; decide)] at h2
    subst h2
    exact ⟨rfl, rfl, rfl, rfl⟩
  · have hk : followU (overU (bs S) s 2) = { overU (bs S) s 2 with r := 256 * (c.toNat - 192) + d.toNat, p := 256 * (c.toNat - 192) + d.toNat, j := s.j + 1 } := by
      unfold followU
      rw [if_neg (by rw [hto]; show ¬ s.r ≤ _; omega), hto]
      rfl
    have hinv := followU_inv (overU_inv (x := bs S) (by rw [bs_length]; exact h.inv) (by rw [hp]))
    rw [hp, bs_length] at hinv
    have hmu := mu_follow (x := bs S) (by rw [bs_length]; exact h.inv) (by rw [hp]) h.f h1
    rw [hp] at hmu
    refine ⟨by rw [hk], h.e10, ?_, by rw [hk], by rw [hk]; rfl, by rw [hk, h.hT]; rfl, hinv, by rw [hk]; exact h.f, (fun e => by cases e), ⟨k, hmu, h2⟩⟩
    rw [hk]
    show _ = Value.int .i64 (if s.j + 1 = 0 then -1 else (((if s.j = 0 then s.p + 2 else s.e) : Nat) : Int))
    rw [if_neg (show ¬ s.j + 1 = 0 by omega)]
    by_cases hj : s.j = 0
    · rw [if_pos hj, if_pos hj]
    · rw [if_neg hj, if_neg hj]
end
theorem RfRel.of {x1 x10 x11 x12 x13 : Value} {S T : ByteArray} {fo : Bool} {a : Nat} {u s : US} {v1 v10 v11 v12 v13 : Value} (h : RfS S fo a u s x1 x10 x11 x12 x13 T) (h1 : v1 = x1) (h10 : v10 = x10) (h11 : v11 = x11) (h12 : v12 = x12) (h13 : v13 = x13) : RfRel S fo a u v1 v10 v11 v12 v13 := by
  subst h1; subst h10; subst h11; subst h12; subst h13
  exact ⟨_, _, h⟩
theorem ival {a b : Int} (h : a = b) : Value.int .i64 a = Value.int .i64 b := by rw [h]
theorem rf_eq {T : ByteArray} {u : US} {e j f : Int} {w : World} (h1 : bs T = u.l) (h2 : e = (u.e : Int)) (h3 : j = (u.j : Int)) (h4 : f = (u.f : Int)) : Ending.returned (.tuple #[.string T, .int .i64 e, .int .i64 j, .int .i64 f]) = .returned (.tuple #[.string ⟨u.l.toArray⟩, .int .i64 u.e, .int .i64 u.j, .int .i64 u.f]) ∧ w = w := by
  refine ⟨?_, rfl⟩
  subst h2; subst h3; subst h4
  rw [← h1, ← bs_eq (a := T) rfl]
theorem bs_cat (A B : ByteArray) : bs (A ++ B) = bs A ++ bs B := by simp [bs]
set_option maxHeartbeats 4000000 in
set_option maxRecDepth 100000 in
theorem refRead_any (S : ByteArray) (fo : Bool) (a : Nat) (w : World) (hs : S.size ≤ 1099511627776) (ha : a ≤ S.size) (u : US) (hu : readU (bs S) a ((if fo then a else 0 : Nat) : Int) = u) (hok : fo = false → u.f = 0) :
    Calls Tryz.prog 95 #[.string S, .int .i64 a, .bool fo] w fun e w' => e = .returned (.tuple #[.string ⟨u.l.toArray⟩, .int .i64 u.e, .int .i64 u.j, .int .i64 u.f]) ∧ w = w' := by
  have HS0 : Hid (RfRel S fo a u (.int .i64 (a : Int)) (.string ⟨#[]⟩) (.int .i64 (-1)) (.int .i64 0) (.int .i64 (a : Int))) := Lib.hid (by
    have hb : readU (bs S) a ((if fo then a else 0 : Nat) : Int) = runU (bs S) (muU (bs S) (begU a (if fo then a else 0))) (begU a (if fo then a else 0)) := if_neg (by rw [bs_length]; omega)
    refine ⟨begU a (if fo then a else 0), ⟨#[]⟩, rfl, rfl, rfl, rfl, ?_, rfl, begU_inv ha (by split <;> omega), rfl, (fun e => by subst e; rfl), _, Nat.le_refl _, by rw [← hu, hb]⟩
    cases fo <;> rfl)
  clear hu
  have ha0 : decide ((a : Int) < 0) = false := by simp
  have ha1 : decide ((S.size : Int) < (a : Int)) = false := by simp; omega
  have ha2 : decide (S.size < a) = false := by simp; omega
  go_enter Tryz.func95, Tryz.ntmps95
  go_wp2
  clear ha0 ha1 ha2
  go_loop [1, 10, 11, 12, 13] (fun v1 v10 v11 v12 v13 => RfRel S fo a u v1 v10 v11 v12 v13) (fun v1 _ _ _ v13 => (intOf v13).toNat * (S.size + 1) + (S.size - (intOf v1).toNat))
  case atStart => exact HS0.out
  case round =>
    clear HS0
    obtain ⟨s, T, hr⟩ := hrel
    have HR := Lib.hid hr
    obtain ⟨rfl, rfl, rfl, rfl, rfl, hT, hi, hf, _, _⟩ := hr
    have hp := hi.p
    have hT2 : T.size = s.l.length := by rw [← bs_length, hT]
    have hT3 := hi.l
    have hTT : (⟨s.l.toArray⟩ : ByteArray) = T := by rw [← hT]; exact (bs_eq rfl).symm
    have HT := Lib.hid hT
    have HTT := Lib.hid hTT
    have he := hi.e
    have hjr := hi.jr
    clear hT hi hf hTT
    obtain ⟨bg, hbg⟩ : ∃ n, (if fo then s.r else a) = n := ⟨_, rfl⟩
    have HR' := HR
    rw [hbg] at HR ⊢
    have HBg := Lib.hid hbg
    clear hbg HR'
    by_cases hj : s.j = 0
    all_goals
      simp only [hj, if_true, if_false]
      have HJ := Lib.hid hj
      clear hj
      rcases Nat.lt_or_ge s.p S.size with hlt | hge
      · have HD := Lib.hid (drop_at S s.p hlt)
        have HTl : Hid (((bs S).drop (s.p + 1)).length = S.size - (s.p + 1)) := Lib.hid (by rw [List.length_drop, bs_length])
        have hc256 : S[s.p].toNat < 256 := UInt8.toNat_lt _
        rcases Nat.lt_or_ge S[s.p].toNat 64 with hc | hc
        · rcases Nat.eq_zero_or_pos S[s.p].toNat with h0 | h0
          · have X := Lib.hid (HR.out.end_ HD.out h0)
            have h0b : ((S[s.p].toNat : Int) == 0) = true := by rw [beq_iff_eq]; omega
            clear h0
            go_wp2
            first
            | (refine bodyPost_ret (v := .tuple #[.string T, .int .i64 ((s.p : Int) + 1), .int .i64 0, .int .i64 0]) (by simp [results, Tryz.results95, go_sem]) rfl ?_; exact rf_eq (by rw [X.out.1]; exact HT.out) (by rw [X.out.2.1, if_pos HJ.out]; simp) (by rw [X.out.2.2.1, HJ.out]; rfl) (by rw [X.out.2.2.2]; rfl))
            | (refine bodyPost_ret (v := .tuple #[.string T, .int .i64 (s.e : Int), .int .i64 (s.j : Int), .int .i64 0]) (by simp [results, Tryz.results95, go_sem]) rfl ?_; exact rf_eq (by rw [X.out.1]; exact HT.out) (by rw [X.out.2.1, if_neg HJ.out]) (by rw [X.out.2.2.1]) (by rw [X.out.2.2.2]; rfl))
          · have h0b : ((S[s.p].toNat : Int) == 0) = false := by rw [beq_eq_false_iff_ne]; omega
            have hc' : (S[s.p].toNat : Int) < 64 := by omega
            rcases Nat.lt_or_ge (S.size - (s.p + 1)) S[s.p].toNat with hl | hl
            · have hb : (S.size : Int) < (s.p : Int) + 1 + (S[s.p].toNat : Int) := by omega
              have hX := HR.out.bad (fun k => ru_short HR.out.f HD.out hc (by rw [HTl.out]; exact hl))
              have X := Lib.hid hX
              clear hX
              go_wp2
              refine bodyPost_ret (v := .tuple #[.string ⟨#[]⟩, .int .i64 0, .int .i64 0, .int .i64 8]) (by simp [results, Tryz.results95, go_sem]) rfl ?_
              exact rf_eq (by rw [X.out.1]; rfl) (by rw [X.out.2.1]; rfl) (by rw [X.out.2.2.1]; rfl) (by rw [X.out.2.2.2]; rfl)
            · have hb : (s.p : Int) + 1 + (S[s.p].toNat : Int) ≤ (S.size : Int) := by omega
              have HL := Lib.hid (HR.out.lab HD.out h0 hc (by rw [HTl.out]; exact hl))
              have HTX : Hid (bs (T ++ S.extract s.p (s.p + 1 + S[s.p].toNat)) = s.l ++ (S[s.p] :: (bs S).drop (s.p + 1)).take (1 + S[s.p].toNat)) := Lib.hid (by
                rw [bs_cat, HT.out, bs_extract, ← HD.out]
                congr 2
                omega)
              clear h0
              go_wp2
              all_goals first
                | (refine bodyPost_ret (v := .tuple #[.string ⟨#[]⟩, .int .i64 0, .int .i64 0, .int .i64 3]) (by simp [results, Tryz.results95, go_sem]) rfl ?_; exact rf_eq (by rw [(HL.out.1 (by omega)).1]; rfl) (by rw [(HL.out.1 (by omega)).2.1]; rfl) (by rw [(HL.out.1 (by omega)).2.2.1]; rfl) (by rw [(HL.out.1 (by omega)).2.2.2]; rfl))
                | (go_round
                   case rel => exact RfRel.of (HL.out.2 (by omega) _ HTX.out) (ival (by omega)) rfl (ival (by first | (rw [if_pos HJ.out]) | (rw [if_neg HJ.out]))) (ival (by first | rfl | (rw [HJ.out]))) rfl
                   case measure => simp [intOf]; omega)
        · have h0b : ((S[s.p].toNat : Int) == 0) = false := by rw [beq_eq_false_iff_ne]; omega
          have hc' : 64 ≤ (S[s.p].toNat : Int) := by omega
          rcases Nat.lt_or_ge S[s.p].toNat 192 with hm | hm
          · have hm' : (S[s.p].toNat : Int) < 192 := by omega
            have hX := HR.out.bad (fun k => ru_mid HR.out.f HD.out (by omega) hm)
            have X := Lib.hid hX
            clear hX
            go_wp2
            refine bodyPost_ret (v := .tuple #[.string ⟨#[]⟩, .int .i64 0, .int .i64 0, .int .i64 4]) (by simp [results, Tryz.results95, go_sem]) rfl ?_
            exact rf_eq (by rw [X.out.1]; rfl) (by rw [X.out.2.1]; rfl) (by rw [X.out.2.2.1]; rfl) (by rw [X.out.2.2.2]; rfl)
          · have hm' : 192 ≤ (S[s.p].toNat : Int) := by omega
            cases fo
            · exfalso
              have h0 := hok rfl
              rcases Nat.lt_or_ge (s.p + 1) S.size with hl | hl
              · have hd2 := HD.out
                rw [drop_at S (s.p + 1) hl] at hd2
                have := (HR.out.ptr hd2 hm).1 (by rw [HR.out.r0 rfl]; omega)
                omega
              · have hd2 := HD.out
                rw [List.drop_eq_nil_of_le (show (bs S).length ≤ s.p + 1 by rw [bs_length]; exact hl)] at hd2
                have := (HR.out.bad (fun k => ru_pshort HR.out.f hd2 hm)).2.2.2
                omega
            · rcases Nat.lt_or_ge (s.p + 1) S.size with hl | hl
              · have hb2 : (s.p : Int) + 2 ≤ (S.size : Int) := by omega
                have HP := Lib.hid (HR.out.ptr (d := S[s.p + 1]) (t := (bs S).drop (s.p + 1 + 1)) (by rw [HD.out, drop_at S (s.p + 1) hl]) hm)
                have hd256 : S[s.p + 1].toNat < 256 := UInt8.toNat_lt _
                have HBs : Hid (bg = s.r) := Lib.hid HBg.out.symm
                go_wp2
                all_goals first
                | (refine bodyPost_ret (v := .tuple #[.string ⟨#[]⟩, .int .i64 0, .int .i64 0, .int .i64 4]) (by simp [results, Tryz.results95, go_sem]) rfl ?_; have hlong : s.r ≤ 256 * (S[s.p].toNat - 192) + S[s.p + 1].toNat := by (have := HBs.out; omega)
                   exact rf_eq (by rw [(HP.out.1 hlong).1]; rfl) (by rw [(HP.out.1 hlong).2.1]; rfl) (by rw [(HP.out.1 hlong).2.2.1]; rfl) (by rw [(HP.out.1 hlong).2.2.2]; rfl))
                | (have hsh : 256 * (S[s.p].toNat - 192) + S[s.p + 1].toNat < s.r := by (have := HBs.out; omega)
                   have hrel : RfRel S true a u (.int .i64 (256 * ((S[s.p].toNat : Int) - 192) + (S[s.p + 1].toNat : Int))) (.string T) (.int .i64 (if s.j = 0 then ((s.p : Int) + 2) else (s.e : Int))) (.int .i64 ((s.j : Int) + 1)) (.int .i64 (256 * ((S[s.p].toNat : Int) - 192) + (S[s.p + 1].toNat : Int))) := RfRel.of (HP.out.2 hsh) (ival (by omega)) rfl (ival (by by_cases h : s.j = 0 <;> simp [h])) (ival (by omega)) (ival (by omega))
                   have hms : (256 * (S[s.p].toNat - 192) + S[s.p + 1].toNat + 1) * (S.size + 1) ≤ bg * (S.size + 1) := Nat.mul_le_mul_right _ (by have := HBs.out; omega)
                   first | rw [if_pos HJ.out, HJ.out] at hrel | rw [if_neg HJ.out] at hrel
                   go_round
                   case rel => exact hrel
                   case measure =>
                     have e1 : (256 * ((S[s.p].toNat : Int) - 192) + (S[s.p + 1].toNat : Int)).toNat = 256 * (S[s.p].toNat - 192) + S[s.p + 1].toNat := by omega
                     simp only [intOf, e1]
                     rw [Nat.add_mul] at hms
                     simp
                     omega)
              · have hb2 : (S.size : Int) < (s.p : Int) + 2 := by omega
                have hd2 := HD.out
                rw [List.drop_eq_nil_of_le (show (bs S).length ≤ s.p + 1 by rw [bs_length]; exact hl)] at hd2
                have HD2 := Lib.hid hd2
                clear hd2
                have hX := HR.out.bad (fun k => ru_pshort HR.out.f HD2.out hm)
                have X := Lib.hid hX
                clear hX
                go_wp2
                refine bodyPost_ret (v := .tuple #[.string ⟨#[]⟩, .int .i64 0, .int .i64 0, .int .i64 8]) (by simp [results, Tryz.results95, go_sem]) rfl ?_
                exact rf_eq (by rw [X.out.1]; rfl) (by rw [X.out.2.1]; rfl) (by rw [X.out.2.2.1]; rfl) (by rw [X.out.2.2.2]; rfl)
      · have hnil : (bs S).drop s.p = [] := List.drop_eq_nil_of_le (by rw [bs_length]; exact hge)
        have HN := Lib.hid hnil
        clear hnil
        have hX := HR.out.bad (fun k => ru_nil HR.out.f HN.out)
        have X := Lib.hid hX
        clear hX
        go_wp2
        refine bodyPost_ret (v := .tuple #[.string ⟨#[]⟩, .int .i64 0, .int .i64 0, .int .i64 8]) (by simp [results, Tryz.results95, go_sem]) rfl ?_
        exact rf_eq (by rw [X.out.1]; rfl) (by rw [X.out.2.1]; rfl) (by rw [X.out.2.2.1]; rfl) (by rw [X.out.2.2.2]; rfl)
end Go.Proofs.YtdpgcgaalamgkaaGreat
namespace Go.Proofs.YtdpgcgaalamgkaaGreat
open Go.RowKit
set_option linter.unusedVariables false

set_option maxHeartbeats 1000000 in
set_option maxRecDepth 100000 in
theorem refRead_no (S : ByteArray) (fo : Bool) (a : Int) (w : World) (ha : a < 0 ∨ (S.size : Int) < a) :
    Calls Tryz.prog 95 #[.string S, .int .i64 a, .bool fo] w fun e w' => e = .returned (.tuple #[.string ⟨#[]⟩, .int .i64 0, .int .i64 0, .int .i64 2]) ∧ w = w' := by
  rcases ha with h | h
  · have h0 : decide (a < 0) = true := decide_eq_true h
    clear h
    go_enter Tryz.func95, Tryz.ntmps95
    go_wp2
    refine bodyPost_ret (v := .tuple #[.string ⟨#[]⟩, .int .i64 0, .int .i64 0, .int .i64 2]) (by simp [results, Tryz.results95, go_sem]) rfl ?_
    exact ⟨rfl, rfl⟩
  · have h0 : decide (a < 0) = false := decide_eq_false (by omega)
    have h1 : decide ((S.size : Int) < a) = true := decide_eq_true h
    clear h
    go_enter Tryz.func95, Tryz.ntmps95
    go_wp2
    refine bodyPost_ret (v := .tuple #[.string ⟨#[]⟩, .int .i64 0, .int .i64 0, .int .i64 2]) (by simp [results, Tryz.results95, go_sem]) rfl ?_
    exact ⟨rfl, rfl⟩
theorem refRead_self (S : ByteArray) (a : Int) (w : World) (hs : S.size ≤ 1099511627776) :
    Calls Tryz.prog 95 #[.string S, .int .i64 a, .bool true] w fun e w' => e = .returned (.tuple #[.string ⟨(readU (bs S) a a).l.toArray⟩, .int .i64 (readU (bs S) a a).e, .int .i64 (readU (bs S) a a).j, .int .i64 (readU (bs S) a a).f]) ∧ w = w' := by
  by_cases h : a < 0 ∨ (S.size : Int) < a
  · rw [show readU (bs S) a a = failU (begU 0 0) 2 from if_pos (by rw [bs_length]; exact h)]
    exact refRead_no S true a w h
  · obtain ⟨a, rfl⟩ := Int.eq_ofNat_of_zero_le (show 0 ≤ a by omega)
    exact refRead_any S true a w hs (by omega) _ rfl (fun e => by cases e)
set_option maxHeartbeats 1000000 in
theorem refName_any (S : ByteArray) (a : Int) (w : World) (hs : S.size ≤ 1099511627776) :
    Calls Tryz.prog 41 #[.string S, .int .i64 a] w fun e w' => e = .returned (.tuple #[.string ⟨(readU (bs S) a a).l.toArray⟩, .int .i64 (readU (bs S) a a).e, .int .i64 (readU (bs S) a a).f]) ∧ w = w' := by
  have HR := Lib.hid fun wx => refRead_self S a wx hs
  obtain ⟨u, hu⟩ : ∃ u, readU (bs S) a a = u := ⟨_, rfl⟩
  rw [hu] at HR ⊢
  clear hu
  go_enter Tryz.func41, Tryz.ntmps41
  go_wp2_with (go_at_call 95; (with_reducible refine (HR.out _).mono ?_); rintro e1 w1 ⟨rfl, rfl⟩)
  go_ret3
  exact ⟨rfl, rfl⟩
end Go.Proofs.YtdpgcgaalamgkaaGreat
