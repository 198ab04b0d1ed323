/-
  A step of reading a name where it stands, by its first octet: plain mathematics. Conditions as stated. The document's own reading of names: what it answers. Conditions: the octets are at most 2^40; without pointers: the reading goes well. The document's own Name and Plain (layer 8): what they answer. Conditions: the octets are at most 2^40; Plain: the reading goes well. The document's own cursor over data (layer 9), where reading goes well; what a type has. Conditions: as each theorem names them. What a type has, as the document's own answer tells it (layer 9); the law's own numbers. No condition beyond those that each theorem names. The document's own addresses out of octets (layer 4). Conditions: as each theorem names them. The document's own address out of sixteen octets (layer 4). Conditions: as each theorem names them. What the document's own Check of a name answers: the walk. Condition: the name is no longer than Go's own limit. The document's own check, size, Check of data (layer 9), where they may be. Conditions: as each theorem names them. The document's own check, size of texts (layer 9), where they may be. Conditions: as each theorem names them.
-/
import Derived.Test.YtodedbokeodmkaaGreatZk6
import Derived.Test.YtodedbokeodmkaaGreatZk2
import Derived.Test.YtodedbokeodmkaaGreatZk29
import Derived.Test.YtodedbokeodmkaaGreatZk8
import Derived.Test.YtodedbokeodmkaaGreatQui
import Derived.Deep.QuietTactic
import Derived.BigQuiet
import Derived.Test.YtodedbokeodmkaaGreatZk43
import Derived.Test.YtodedbokeodmkaaGreatZk32
import Derived.Deep.RegionHeld3
import Derived.Test.YtodedbokeodmkaaGreatZk7
import Derived.Test.YtodedbokeodmkaaGreatZk3
namespace Go.Proofs.YtodedbokeodmkaaGreat
set_option linter.unusedVariables false

section
variable {x t : List UInt8} {s : US} {k : Nat} {c d : UInt8}
theorem ru_nil (hf : s.f = 0) (h : x.drop s.p = []) : runU x (k + 1) s = failU s 8 := by
  have := runU_bad (x := x) (k := k) hf (by rw [h]; decide)
  rw [h] at this
  exact this
theorem part_zero (hc : c.toNat = 0) : partU (c :: t) = (1, 0) := by
  rw [partU_cons, if_neg (by omega), if_neg (by omega), if_neg (by omega), hc]
theorem part_lab (hc : c.toNat < 64) (hl : c.toNat ≤ t.length) : partU (c :: t) = (1 + c.toNat, 0) := by
  rw [partU_cons, if_neg (by omega), if_neg (by omega), if_neg (by omega)]
theorem part_ptr (hc : 192 ≤ c.toNat) : partU (c :: d :: t) = (2, 0) := by
  rw [partU_cons, if_pos hc, if_neg (by simp)]
theorem ru_zero (hf : s.f = 0) (h : x.drop s.p = c :: t) (hc : c.toNat = 0) : runU x (k + 1) s = overU x s 1 := by
  have hp := part_zero (t := t) hc
  rw [← h] at hp
  have := runU_end (x := x) (k := k) hf (by rw [hp]) (by
    rw [hp]
    show (x.drop s.p).take 1 = [0]
    rw [h, List.take_succ_cons, List.take_zero]
    congr 1
    exact UInt8.toNat_inj.1 hc)
  rw [hp] at this
  exact this
theorem ru_short (hf : s.f = 0) (h : x.drop s.p = c :: t) (hc : c.toNat < 64) (hl : t.length < c.toNat) : runU x (k + 1) s = failU s 8 := by
  have hp : partU (x.drop s.p) = (0, 8) := by rw [h, partU_cons, if_neg (by omega), if_neg (by omega), if_pos hl]
  have := runU_bad (x := x) (k := k) hf (by rw [hp]; decide)
  rw [hp] at this
  exact this
theorem ru_mid (hf : s.f = 0) (h : x.drop s.p = c :: t) (hc : 63 < c.toNat) (hc2 : c.toNat < 192) : runU x (k + 1) s = failU s 4 := by
  have hp : partU (x.drop s.p) = (0, 4) := by rw [h, partU_cons, if_neg (by omega), if_pos hc]
  have := runU_bad (x := x) (k := k) hf (by rw [hp]; decide)
  rw [hp] at this
  exact this
theorem ru_pshort (hf : s.f = 0) (h : x.drop s.p = [c]) (hc : 192 ≤ c.toNat) : runU x (k + 1) s = failU s 8 := by
  have hp : partU (x.drop s.p) = (0, 8) := by rw [h, partU_cons, if_pos hc, if_pos (by simp)]
  have := runU_bad (x := x) (k := k) hf (by rw [hp]; decide)
  rw [hp] at this
  exact this
theorem ru_lab (hf : s.f = 0) (h : x.drop s.p = c :: t) (h0 : 0 < c.toNat) (hc : c.toNat < 64) (hl : c.toNat ≤ t.length) : runU x (k + 1) s = runU x k (keepU (overU x s (1 + c.toNat))) := by
  have hp := part_lab hc hl
  rw [← h] at hp
  have hov : (overU x s (1 + c.toNat)).t = c :: t.take c.toNat := by
    show (x.drop s.p).take (1 + c.toNat) = _
    rw [h, Nat.add_comm, List.take_succ_cons]
  have := runU_lab (x := x) (k := k) hf (by rw [hp]) (by
    rw [hp]
    show (overU x s (1 + c.toNat)).t ≠ [0]
    rw [hov]
    intro e
    injection e with e
    rw [e] at h0
    exact absurd h0 (by decide)) (by
    rw [hp]
    show isPtr (overU x s (1 + c.toNat)).t = false
    rw [hov]
    unfold isPtr
    simp
    omega)
  rw [hp] at this
  exact this
theorem ref_ru_ptr (hf : s.f = 0) (h : x.drop s.p = c :: d :: t) (hc : 192 ≤ c.toNat) : runU x (k + 1) s = runU x k (followU (overU x s 2)) := by
  have hp := part_ptr (d := d) (t := t) hc
  rw [← h] at hp
  have hov : (overU x s 2).t = [c, d] := by
    show (x.drop s.p).take 2 = _
    rw [h]
    rfl
  have := runU_ptr (x := x) (k := k) hf (by rw [hp]) (by
    rw [hp]
    show (overU x s 2).t ≠ [0]
    rw [hov]
    simp) (by
    rw [hp]
    show isPtr (overU x s 2).t = true
    rw [hov]
    unfold isPtr
    simpa using hc)
  rw [hp] at this
  exact this
theorem to_two (h : x.drop s.p = c :: d :: t) : toU (overU x s 2).t = 256 * (c.toNat - 192) + d.toNat := by
  have hov : (overU x s 2).t = [c, d] := by
    show (x.drop s.p).take 2 = _
    rw [h]
    rfl
  rw [hov]
  rfl
end
end Go.Proofs.YtodedbokeodmkaaGreat
namespace Go.Proofs.YtodedbokeodmkaaGreat
open Go.RowKit
set_option linter.unusedVariables false

/-- Where a reading stands. -/
structure RfS (S : ByteArray) (fo : Bool) (a : Nat) (u : US) (s : US) (v1 v10 v11 v12 v13 : Value) (T : ByteArray) : Prop where
  e1 : v1 = .int .i64 (s.p : Nat)
  e10 : v10 = .string T
  e11 : v11 = .int .i64 (if s.j = 0 then -1 else (s.e : Int))
  e12 : v12 = .int .i64 (s.j : Nat)
  e13 : v13 = .int .i64 ((if fo then s.r else a : Nat) : Int)
  hT : bs T = s.l
  inv : InvU S.size s
  f : s.f = 0
  r0 : fo = false → s.r = 0
  fuel : ∃ k, muU (bs S) s ≤ k ∧ runU (bs S) k s = u
def RfRel (S : ByteArray) (fo : Bool) (a : Nat) (u : US) (v1 v10 v11 v12 v13 : Value) : Prop := ∃ s T, RfS S fo a u s v1 v10 v11 v12 v13 T
section
variable {S T : ByteArray} {fo : Bool} {a : Nat} {u s : US} {v1 v10 v11 v12 v13 : Value}
/-- The fuel, a step less. -/
theorem RfS.step (h : RfS S fo a u s v1 v10 v11 v12 v13 T) : ∃ k, muU (bs S) s ≤ k + 1 ∧ runU (bs S) (k + 1) s = u := by
  obtain ⟨k, h1, h2⟩ := h.fuel
  rcases k with _ | k
  · have := h1
    unfold muU at this
    rw [if_neg (by have := h.f; omega)] at this
    omega
  · exact ⟨k, h1, h2⟩
theorem RfS.bad (h : RfS S fo a u s v1 v10 v11 v12 v13 T) {e : Nat} (hs : ∀ k, runU (bs S) (k + 1) s = failU s e) : u.l = [] ∧ u.e = 0 ∧ u.j = 0 ∧ u.f = e := by
  obtain ⟨k, _, h2⟩ := h.step
  rw [hs] at h2
  subst h2
  exact ⟨rfl, rfl, rfl, rfl⟩
theorem RfS.end_ (h : RfS S fo a u s v1 v10 v11 v12 v13 T) {c : UInt8} {t : List UInt8} (hd : (bs S).drop s.p = c :: t) (hc : c.toNat = 0) : u.l = s.l ∧ u.e = (if s.j = 0 then s.p + 1 else s.e) ∧ u.j = s.j ∧ u.f = 0 := by
  obtain ⟨k, _, h2⟩ := h.step
  rw [ru_zero h.f hd hc] at h2
  subst h2
  exact ⟨rfl, rfl, rfl, h.f⟩
theorem RfS.lab (h : RfS S fo a u s v1 v10 v11 v12 v13 T) {c : UInt8} {t : List UInt8} (hd : (bs S).drop s.p = c :: t) (h0 : 0 < c.toNat) (hc : c.toNat < 64) (hl : c.toNat ≤ t.length) :
    (254 < s.l.length + (1 + c.toNat) → u.l = [] ∧ u.e = 0 ∧ u.j = 0 ∧ u.f = 3) ∧
    (s.l.length + (1 + c.toNat) ≤ 254 → ∀ T', bs T' = s.l ++ (c :: t).take (1 + c.toNat) → RfS S fo a u (keepU (overU (bs S) s (1 + c.toNat))) (.int .i64 ((s.p + (1 + c.toNat) : Nat) : Int)) (.string T') v11 v12 v13 T') := by
  obtain ⟨k, h1, h2⟩ := h.step
  have hp := part_lab hc hl
  rw [← hd] at hp
  have htl : (overU (bs S) s (1 + c.toNat)).t.length = 1 + c.toNat := by
    have := overU_t (x := bs S) (s := s) (by rw [hp])
    rw [hp] at this
    exact this
  rw [ru_lab h.f hd h0 hc hl] at h2
  refine ⟨fun hlong => ?_, fun hshort T' hT' => ?_⟩
  · have hk : keepU (overU (bs S) s (1 + c.toNat)) = failU (overU (bs S) s (1 + c.toNat)) 3 := by
      unfold keepU
      rw [if_pos (by rw [htl]; exact hlong)]
    rw [hk, runU_stop (by show (3 : Nat) ≠ 0; decide)] at h2
    subst h2
    exact ⟨rfl, rfl, rfl, rfl⟩
  · have hk : keepU (overU (bs S) s (1 + c.toNat)) = { overU (bs S) s (1 + c.toNat) with l := s.l ++ (overU (bs S) s (1 + c.toNat)).t } := by
      unfold keepU
      rw [if_neg (by rw [htl]; show ¬ 254 < s.l.length + _; omega)]
      rfl
    have hinv := keepU_inv (overU_inv (x := bs S) (by rw [bs_length]; exact h.inv) (by rw [hp]))
    rw [hp, bs_length] at hinv
    have hmu := mu_keep (x := bs S) (by rw [bs_length]; exact h.inv) (by rw [hp]) h.f h1
    rw [hp] at hmu
    refine ⟨by rw [hk]; rfl, rfl, ?_, ?_, ?_, ?_, hinv, by rw [hk]; exact h.f, (fun e => by rw [hk]; exact h.r0 e), ⟨k, hmu, h2⟩⟩
    · rw [hk, h.e11]
      show _ = Value.int .i64 (if s.j = 0 then -1 else (((if s.j = 0 then s.p + (1 + c.toNat) else s.e) : Nat) : Int))
      by_cases hj : s.j = 0
      · rw [if_pos hj, if_pos hj]
      · rw [if_neg hj, if_neg hj, if_neg hj]
    · rw [hk, h.e12]; rfl
    · rw [hk, h.e13]; rfl
    · rw [hk, hT']
      show _ = s.l ++ ((bs S).drop s.p).take (1 + c.toNat)
      rw [hd]
theorem RfS.ptr (h : RfS S fo a u s v1 v10 v11 v12 v13 T) {c d : UInt8} {t : List UInt8} (hd : (bs S).drop s.p = c :: d :: t) (hc : 192 ≤ c.toNat) :
    (s.r ≤ 256 * (c.toNat - 192) + d.toNat → u.l = [] ∧ u.e = 0 ∧ u.j = 0 ∧ u.f = 4) ∧
    (256 * (c.toNat - 192) + d.toNat < s.r → RfS S true a u (followU (overU (bs S) s 2)) (.int .i64 ((256 * (c.toNat - 192) + d.toNat : Nat) : Int)) v10 (.int .i64 (if s.j = 0 then ((s.p + 2 : Nat) : Int) else (s.e : Int))) (.int .i64 ((s.j + 1 : Nat) : Int)) (.int .i64 ((256 * (c.toNat - 192) + d.toNat : Nat) : Int)) T) := by
  obtain ⟨k, h1, h2⟩ := h.step
  have hp := part_ptr (d := d) (t := t) hc
  rw [← hd] at hp
  have hto := to_two hd
  rw [ref_ru_ptr h.f hd hc] at h2
  refine ⟨fun hlong => ?_, fun hshort => ?_⟩
  · have hk : followU (overU (bs S) s 2) = failU (overU (bs S) s 2) 4 := by
      unfold followU
      rw [if_pos (by rw [hto]; exact hlong)]
    rw [hk, runU_stop (by show (4 : Nat) ≠ 0; decide)] at h2
    subst h2
    exact ⟨rfl, rfl, rfl, rfl⟩
  · have hk : followU (overU (bs S) s 2) = { overU (bs S) s 2 with r := 256 * (c.toNat - 192) + d.toNat, p := 256 * (c.toNat - 192) + d.toNat, j := s.j + 1 } := by
      unfold followU
      rw [if_neg (by rw [hto]; show ¬ s.r ≤ _; omega), hto]
      rfl
    have hinv := followU_inv (overU_inv (x := bs S) (by rw [bs_length]; exact h.inv) (by rw [hp]))
    rw [hp, bs_length] at hinv
    have hmu := mu_follow (x := bs S) (by rw [bs_length]; exact h.inv) (by rw [hp]) h.f h1
    rw [hp] at hmu
    refine ⟨by rw [hk], h.e10, ?_, by rw [hk], by rw [hk]; rfl, by rw [hk, h.hT]; rfl, hinv, by rw [hk]; exact h.f, (fun e => by cases e), ⟨k, hmu, h2⟩⟩
    rw [hk]
    show _ = Value.int .i64 (if s.j + 1 = 0 then -1 else (((if s.j = 0 then s.p + 2 else s.e) : Nat) : Int))
    rw [if_neg (show ¬ s.j + 1 = 0 by omega)]
    by_cases hj : s.j = 0
    · rw [if_pos hj, if_pos hj]
    · rw [if_neg hj, if_neg hj]
end
theorem RfRel.of {x1 x10 x11 x12 x13 : Value} {S T : ByteArray} {fo : Bool} {a : Nat} {u s : US} {v1 v10 v11 v12 v13 : Value} (h : RfS S fo a u s x1 x10 x11 x12 x13 T) (h1 : v1 = x1) (h10 : v10 = x10) (h11 : v11 = x11) (h12 : v12 = x12) (h13 : v13 = x13) : RfRel S fo a u v1 v10 v11 v12 v13 := by
  subst h1; subst h10; subst h11; subst h12; subst h13
  exact ⟨_, _, h⟩
theorem ival {a b : Int} (h : a = b) : Value.int .i64 a = Value.int .i64 b := by rw [h]
theorem rf_eq {T : ByteArray} {u : US} {e j f : Int} {w : World} (h1 : bs T = u.l) (h2 : e = (u.e : Int)) (h3 : j = (u.j : Int)) (h4 : f = (u.f : Int)) : Ending.returned (.tuple #[.string T, .int .i64 e, .int .i64 j, .int .i64 f]) = .returned (.tuple #[.string ⟨u.l.toArray⟩, .int .i64 u.e, .int .i64 u.j, .int .i64 u.f]) ∧ w = w := by
  refine ⟨?_, rfl⟩
  subst h2; subst h3; subst h4
  rw [← h1, ← bs_eq (a := T) rfl]
theorem bs_cat (A B : ByteArray) : bs (A ++ B) = bs A ++ bs B := by simp [bs]
set_option maxHeartbeats 4000000 in
set_option maxRecDepth 100000 in
theorem refRead_any (S : ByteArray) (fo : Bool) (a : Nat) (w : World) (hs : S.size ≤ 1099511627776) (ha : a ≤ S.size) (u : US) (hu : readU (bs S) a ((if fo then a else 0 : Nat) : Int) = u) (hok : fo = false → u.f = 0) :
    Calls Tryz.prog 114 #[.string S, .int .i64 a, .bool fo] w fun e w' => e = .returned (.tuple #[.string ⟨u.l.toArray⟩, .int .i64 u.e, .int .i64 u.j, .int .i64 u.f]) ∧ w = w' := by
  have HS0 : Hid (RfRel S fo a u (.int .i64 (a : Int)) (.string ⟨#[]⟩) (.int .i64 (-1)) (.int .i64 0) (.int .i64 (a : Int))) := Lib.hid (by
    have hb : readU (bs S) a ((if fo then a else 0 : Nat) : Int) = runU (bs S) (muU (bs S) (begU a (if fo then a else 0))) (begU a (if fo then a else 0)) := if_neg (by rw [bs_length]; omega)
    refine ⟨begU a (if fo then a else 0), ⟨#[]⟩, rfl, rfl, rfl, rfl, ?_, rfl, begU_inv ha (by split <;> omega), rfl, (fun e => by subst e; rfl), _, Nat.le_refl _, by rw [← hu, hb]⟩
    cases fo <;> rfl)
  clear hu
  have ha0 : decide ((a : Int) < 0) = false := by simp
  have ha1 : decide ((S.size : Int) < (a : Int)) = false := by simp; omega
  have ha2 : decide (S.size < a) = false := by simp; omega
  go_enter Tryz.func114, Tryz.ntmps114
  go_wp2
  clear ha0 ha1 ha2
  go_loop [1, 10, 11, 12, 13] (fun v1 v10 v11 v12 v13 => RfRel S fo a u v1 v10 v11 v12 v13) (fun v1 _ _ _ v13 => (intOf v13).toNat * (S.size + 1) + (S.size - (intOf v1).toNat))
  case atStart => exact HS0.out
  case round =>
    clear HS0
    obtain ⟨s, T, hr⟩ := hrel
    have HR := Lib.hid hr
    obtain ⟨rfl, rfl, rfl, rfl, rfl, hT, hi, hf, _, _⟩ := hr
    have hp := hi.p
    have hT2 : T.size = s.l.length := by rw [← bs_length, hT]
    have hT3 := hi.l
    have hTT : (⟨s.l.toArray⟩ : ByteArray) = T := by rw [← hT]; exact (bs_eq rfl).symm
    have HT := Lib.hid hT
    have HTT := Lib.hid hTT
    have he := hi.e
    have hjr := hi.jr
    clear hT hi hf hTT
    obtain ⟨bg, hbg⟩ : ∃ n, (if fo then s.r else a) = n := ⟨_, rfl⟩
    have HR' := HR
    rw [hbg] at HR ⊢
    have HBg := Lib.hid hbg
    clear hbg HR'
    by_cases hj : s.j = 0
    all_goals
      simp only [hj, if_true, if_false]
      have HJ := Lib.hid hj
      clear hj
      rcases Nat.lt_or_ge s.p S.size with hlt | hge
      · have HD := Lib.hid (drop_at S s.p hlt)
        have HTl : Hid (((bs S).drop (s.p + 1)).length = S.size - (s.p + 1)) := Lib.hid (by rw [List.length_drop, bs_length])
        have hc256 : S[s.p].toNat < 256 := UInt8.toNat_lt _
        rcases Nat.lt_or_ge S[s.p].toNat 64 with hc | hc
        · rcases Nat.eq_zero_or_pos S[s.p].toNat with h0 | h0
          · have X := Lib.hid (HR.out.end_ HD.out h0)
            have h0b : ((S[s.p].toNat : Int) == 0) = true := by rw [beq_iff_eq]; omega
            clear h0
            go_wp2
            first
            | (refine bodyPost_ret (v := .tuple #[.string T, .int .i64 ((s.p : Int) + 1), .int .i64 0, .int .i64 0]) (by simp [results, Tryz.results114, go_sem]) rfl ?_; exact rf_eq (by rw [X.out.1]; exact HT.out) (by rw [X.out.2.1, if_pos HJ.out]; simp) (by rw [X.out.2.2.1, HJ.out]; rfl) (by rw [X.out.2.2.2]; rfl))
            | (refine bodyPost_ret (v := .tuple #[.string T, .int .i64 (s.e : Int), .int .i64 (s.j : Int), .int .i64 0]) (by simp [results, Tryz.results114, go_sem]) rfl ?_; exact rf_eq (by rw [X.out.1]; exact HT.out) (by rw [X.out.2.1, if_neg HJ.out]) (by rw [X.out.2.2.1]) (by rw [X.out.2.2.2]; rfl))
          · have h0b : ((S[s.p].toNat : Int) == 0) = false := by rw [beq_eq_false_iff_ne]; omega
            have hc' : (S[s.p].toNat : Int) < 64 := by omega
            rcases Nat.lt_or_ge (S.size - (s.p + 1)) S[s.p].toNat with hl | hl
            · have hb : (S.size : Int) < (s.p : Int) + 1 + (S[s.p].toNat : Int) := by omega
              have hX := HR.out.bad (fun k => ru_short HR.out.f HD.out hc (by rw [HTl.out]; exact hl))
              have X := Lib.hid hX
              clear hX
              go_wp2
              refine bodyPost_ret (v := .tuple #[.string ⟨#[]⟩, .int .i64 0, .int .i64 0, .int .i64 8]) (by simp [results, Tryz.results114, go_sem]) rfl ?_
              exact rf_eq (by rw [X.out.1]; rfl) (by rw [X.out.2.1]; rfl) (by rw [X.out.2.2.1]; rfl) (by rw [X.out.2.2.2]; rfl)
            · have hb : (s.p : Int) + 1 + (S[s.p].toNat : Int) ≤ (S.size : Int) := by omega
              have HL := Lib.hid (HR.out.lab HD.out h0 hc (by rw [HTl.out]; exact hl))
              have HTX : Hid (bs (T ++ S.extract s.p (s.p + 1 + S[s.p].toNat)) = s.l ++ (S[s.p] :: (bs S).drop (s.p + 1)).take (1 + S[s.p].toNat)) := Lib.hid (by
                rw [bs_cat, HT.out, bs_extract, ← HD.out]
                congr 2
                omega)
              clear h0
              go_wp2
              all_goals first
                | (refine bodyPost_ret (v := .tuple #[.string ⟨#[]⟩, .int .i64 0, .int .i64 0, .int .i64 3]) (by simp [results, Tryz.results114, go_sem]) rfl ?_; exact rf_eq (by rw [(HL.out.1 (by omega)).1]; rfl) (by rw [(HL.out.1 (by omega)).2.1]; rfl) (by rw [(HL.out.1 (by omega)).2.2.1]; rfl) (by rw [(HL.out.1 (by omega)).2.2.2]; rfl))
                | (go_round
                   case rel => exact RfRel.of (HL.out.2 (by omega) _ HTX.out) (ival (by omega)) rfl (ival (by first | (rw [if_pos HJ.out]) | (rw [if_neg HJ.out]))) (ival (by first | rfl | (rw [HJ.out]))) rfl
                   case measure => simp [intOf]; omega)
        · have h0b : ((S[s.p].toNat : Int) == 0) = false := by rw [beq_eq_false_iff_ne]; omega
          have hc' : 64 ≤ (S[s.p].toNat : Int) := by omega
          rcases Nat.lt_or_ge S[s.p].toNat 192 with hm | hm
          · have hm' : (S[s.p].toNat : Int) < 192 := by omega
            have hX := HR.out.bad (fun k => ru_mid HR.out.f HD.out (by omega) hm)
            have X := Lib.hid hX
            clear hX
            go_wp2
            refine bodyPost_ret (v := .tuple #[.string ⟨#[]⟩, .int .i64 0, .int .i64 0, .int .i64 4]) (by simp [results, Tryz.results114, go_sem]) rfl ?_
            exact rf_eq (by rw [X.out.1]; rfl) (by rw [X.out.2.1]; rfl) (by rw [X.out.2.2.1]; rfl) (by rw [X.out.2.2.2]; rfl)
          · have hm' : 192 ≤ (S[s.p].toNat : Int) := by omega
            cases fo
            · exfalso
              have h0 := hok rfl
              rcases Nat.lt_or_ge (s.p + 1) S.size with hl | hl
              · have hd2 := HD.out
                rw [drop_at S (s.p + 1) hl] at hd2
                have := (HR.out.ptr hd2 hm).1 (by rw [HR.out.r0 rfl]; omega)
                omega
              · have hd2 := HD.out
                rw [List.drop_eq_nil_of_le (show (bs S).length ≤ s.p + 1 by rw [bs_length]; exact hl)] at hd2
                have := (HR.out.bad (fun k => ru_pshort HR.out.f hd2 hm)).2.2.2
                omega
            · rcases Nat.lt_or_ge (s.p + 1) S.size with hl | hl
              · have hb2 : (s.p : Int) + 2 ≤ (S.size : Int) := by omega
                have HP := Lib.hid (HR.out.ptr (d := S[s.p + 1]) (t := (bs S).drop (s.p + 1 + 1)) (by rw [HD.out, drop_at S (s.p + 1) hl]) hm)
                have hd256 : S[s.p + 1].toNat < 256 := UInt8.toNat_lt _
                have HBs : Hid (bg = s.r) := Lib.hid HBg.out.symm
                go_wp2
                all_goals first
                | (refine bodyPost_ret (v := .tuple #[.string ⟨#[]⟩, .int .i64 0, .int .i64 0, .int .i64 4]) (by simp [results, Tryz.results114, go_sem]) rfl ?_; have hlong : s.r ≤ 256 * (S[s.p].toNat - 192) + S[s.p + 1].toNat := by (have := HBs.out; omega)
                   exact rf_eq (by rw [(HP.out.1 hlong).1]; rfl) (by rw [(HP.out.1 hlong).2.1]; rfl) (by rw [(HP.out.1 hlong).2.2.1]; rfl) (by rw [(HP.out.1 hlong).2.2.2]; rfl))
                | (have hsh : 256 * (S[s.p].toNat - 192) + S[s.p + 1].toNat < s.r := by (have := HBs.out; omega)
                   have hrel : RfRel S true a u (.int .i64 (256 * ((S[s.p].toNat : Int) - 192) + (S[s.p + 1].toNat : Int))) (.string T) (.int .i64 (if s.j = 0 then ((s.p : Int) + 2) else (s.e : Int))) (.int .i64 ((s.j : Int) + 1)) (.int .i64 (256 * ((S[s.p].toNat : Int) - 192) + (S[s.p + 1].toNat : Int))) := RfRel.of (HP.out.2 hsh) (ival (by omega)) rfl (ival (by by_cases h : s.j = 0 <;> simp [h])) (ival (by omega)) (ival (by omega))
                   have hms : (256 * (S[s.p].toNat - 192) + S[s.p + 1].toNat + 1) * (S.size + 1) ≤ bg * (S.size + 1) := Nat.mul_le_mul_right _ (by have := HBs.out; omega)
                   first | rw [if_pos HJ.out, HJ.out] at hrel | rw [if_neg HJ.out] at hrel
                   go_round
                   case rel => exact hrel
                   case measure =>
                     have e1 : (256 * ((S[s.p].toNat : Int) - 192) + (S[s.p + 1].toNat : Int)).toNat = 256 * (S[s.p].toNat - 192) + S[s.p + 1].toNat := by omega
                     simp only [intOf, e1]
                     rw [Nat.add_mul] at hms
                     simp
                     omega)
              · have hb2 : (S.size : Int) < (s.p : Int) + 2 := by omega
                have hd2 := HD.out
                rw [List.drop_eq_nil_of_le (show (bs S).length ≤ s.p + 1 by rw [bs_length]; exact hl)] at hd2
                have HD2 := Lib.hid hd2
                clear hd2
                have hX := HR.out.bad (fun k => ru_pshort HR.out.f HD2.out hm)
                have X := Lib.hid hX
                clear hX
                go_wp2
                refine bodyPost_ret (v := .tuple #[.string ⟨#[]⟩, .int .i64 0, .int .i64 0, .int .i64 8]) (by simp [results, Tryz.results114, go_sem]) rfl ?_
                exact rf_eq (by rw [X.out.1]; rfl) (by rw [X.out.2.1]; rfl) (by rw [X.out.2.2.1]; rfl) (by rw [X.out.2.2.2]; rfl)
      · have hnil : (bs S).drop s.p = [] := List.drop_eq_nil_of_le (by rw [bs_length]; exact hge)
        have HN := Lib.hid hnil
        clear hnil
        have hX := HR.out.bad (fun k => ru_nil HR.out.f HN.out)
        have X := Lib.hid hX
        clear hX
        go_wp2
        refine bodyPost_ret (v := .tuple #[.string ⟨#[]⟩, .int .i64 0, .int .i64 0, .int .i64 8]) (by simp [results, Tryz.results114, go_sem]) rfl ?_
        exact rf_eq (by rw [X.out.1]; rfl) (by rw [X.out.2.1]; rfl) (by rw [X.out.2.2.1]; rfl) (by rw [X.out.2.2.2]; rfl)
end Go.Proofs.YtodedbokeodmkaaGreat
namespace Go.Proofs.YtodedbokeodmkaaGreat
open Go.RowKit
set_option linter.unusedVariables false

set_option maxHeartbeats 1000000 in
set_option maxRecDepth 100000 in
theorem refRead_no (S : ByteArray) (fo : Bool) (a : Int) (w : World) (ha : a < 0 ∨ (S.size : Int) < a) :
    Calls Tryz.prog 114 #[.string S, .int .i64 a, .bool fo] w fun e w' => e = .returned (.tuple #[.string ⟨#[]⟩, .int .i64 0, .int .i64 0, .int .i64 2]) ∧ w = w' := by
  rcases ha with h | h
  · have h0 : decide (a < 0) = true := decide_eq_true h
    clear h
    go_enter Tryz.func114, Tryz.ntmps114
    go_wp2
    refine bodyPost_ret (v := .tuple #[.string ⟨#[]⟩, .int .i64 0, .int .i64 0, .int .i64 2]) (by simp [results, Tryz.results114, go_sem]) rfl ?_
    exact ⟨rfl, rfl⟩
  · have h0 : decide (a < 0) = false := decide_eq_false (by omega)
    have h1 : decide ((S.size : Int) < a) = true := decide_eq_true h
    clear h
    go_enter Tryz.func114, Tryz.ntmps114
    go_wp2
    refine bodyPost_ret (v := .tuple #[.string ⟨#[]⟩, .int .i64 0, .int .i64 0, .int .i64 2]) (by simp [results, Tryz.results114, go_sem]) rfl ?_
    exact ⟨rfl, rfl⟩
theorem refRead_self (S : ByteArray) (a : Int) (w : World) (hs : S.size ≤ 1099511627776) :
    Calls Tryz.prog 114 #[.string S, .int .i64 a, .bool true] w fun e w' => e = .returned (.tuple #[.string ⟨(readU (bs S) a a).l.toArray⟩, .int .i64 (readU (bs S) a a).e, .int .i64 (readU (bs S) a a).j, .int .i64 (readU (bs S) a a).f]) ∧ w = w' := by
  by_cases h : a < 0 ∨ (S.size : Int) < a
  · rw [show readU (bs S) a a = failU (begU 0 0) 2 from if_pos (by rw [bs_length]; exact h)]
    exact refRead_no S true a w h
  · obtain ⟨a, rfl⟩ := Int.eq_ofNat_of_zero_le (show 0 ≤ a by omega)
    exact refRead_any S true a w hs (by omega) _ rfl (fun e => by cases e)
set_option maxHeartbeats 1000000 in
theorem refName_any (S : ByteArray) (a : Int) (w : World) (hs : S.size ≤ 1099511627776) :
    Calls Tryz.prog 85 #[.string S, .int .i64 a] w fun e w' => e = .returned (.tuple #[.string ⟨(readU (bs S) a a).l.toArray⟩, .int .i64 (readU (bs S) a a).e, .int .i64 (readU (bs S) a a).f]) ∧ w = w' := by
  have HR := Lib.hid fun wx => refRead_self S a wx hs
  obtain ⟨u, hu⟩ : ∃ u, readU (bs S) a a = u := ⟨_, rfl⟩
  rw [hu] at HR ⊢
  clear hu
  go_enter Tryz.func85, Tryz.ntmps85
  go_wp2_with (go_at_call 114; (with_reducible refine (HR.out _).mono ?_); rintro e1 w1 ⟨rfl, rfl⟩)
  go_ret3
  exact ⟨rfl, rfl⟩
set_option maxHeartbeats 1000000 in
theorem refPlain_ok (S : ByteArray) (a : Nat) (w : World) (hs : S.size ≤ 1099511627776) (ha : a ≤ S.size) (h0 : (readU (bs S) a 0).f = 0) :
    Calls Tryz.prog 86 #[.string S, .int .i64 a] w fun e w' => e = .returned (.tuple #[.string ⟨(readU (bs S) a 0).l.toArray⟩, .int .i64 (readU (bs S) a 0).e, .int .i64 (readU (bs S) a 0).f]) ∧ w = w' := by
  have HR := Lib.hid fun wx => refRead_any S false a wx hs ha (readU (bs S) a 0) rfl (fun _ => h0)
  clear h0
  obtain ⟨u, hu⟩ : ∃ u, readU (bs S) a 0 = u := ⟨_, rfl⟩
  rw [hu] at HR ⊢
  clear hu
  go_enter Tryz.func86, Tryz.ntmps86
  go_wp2_with (go_at_call 114; (with_reducible refine (HR.out _).mono ?_); rintro e1 w1 ⟨rfl, rfl⟩)
  go_ret3
  exact ⟨rfl, rfl⟩
end Go.Proofs.YtodedbokeodmkaaGreat
namespace Go.Proofs.YtodedbokeodmkaaGreat
open Go.RowKit
set_option linter.unusedVariables false
set_option maxRecDepth 100000

/-- A cursor over S at a, up to z, without an error. -/
abbrev cursC (S : ByteArray) (a z : Nat) : Array Value := #[.string S, .int .i64 (a : Int), .int .i64 (z : Int), .int .i64 0]
/-- It hands back v, and stands at n. -/
def CurO (w : World) (c : Nat) (S : ByteArray) (n z : Nat) (v : Value) (e : Ending) (w' : World) : Prop := e = .returned v ∧ Lies w' c 91 (cursC S n z) ∧ w.grownBy w' (some c)
theorem drewN_grown (w : World) (n : Nat) (r : Option Nat) : w.grownBy (w.drewN n) r := below_to_grown (below_draws (Below.refl w.heap.size w) n)
set_option maxHeartbeats 2000000 in
theorem refTake_ok (S : ByteArray) (a z n : Nat) (w : World) (c : Nat) (hL : Lies w c 91 (cursC S a z)) (hn : a + n ≤ z) (hz : z ≤ S.size) (hs : S.size ≤ 1099511627776) :
    Calls Tryz.prog 45 #[.pointer (some ⟨c, 0, none⟩), .int .i64 (n : Int)] w (CurO w c S (a + n) z (.string (S.extract a (a + n)))) := by
  have HL := Lib.hid hL
  have c0 : w.cell? ⟨c, 0, none⟩ = some (.string S) := hL.cell 0
  have c1 : w.cell? ⟨c, 1, none⟩ = some (.int .i64 (a : Int)) := hL.cell 1
  have c2 : w.cell? ⟨c, 2, none⟩ = some (.int .i64 (z : Int)) := hL.cell 2
  have c3 : w.cell? ⟨c, 3, none⟩ = some (.int .i64 0) := hL.cell 3
  have z1 : IntKind.i64.wrap ((z : Int) - (a : Int)) = (z : Int) - (a : Int) := IntWalk.i64_in _ (by omega)
  have z2 : decide ((z : Int) - (a : Int) < (n : Int)) = false := by simp; omega
  have z3 : (n : Int) ≤ (z : Int) - (a : Int) := by omega
  clear hL
  go_enter Tryz.func45, Tryz.ntmps45
  go_wp2
  go_quiet (fail)
  have hL2 : Lies (w.drewN nq) c 91 (cursC S a z) := HL.out.next (below_draws (Below.refl _ _) nq)
  have hG := drewN_grown w nq (some c)
  obtain ⟨w1, hw1⟩ : ∃ w1, w1 = w.drewN nq := ⟨_, rfl⟩
  rw [← hw1] at hL2 hG ⊢
  have HL2 := Lib.hid hL2
  have HG := Lib.hid hG
  have d0 : w1.cell? ⟨c, 0, none⟩ = some (.string S) := hL2.cell 0
  have d1 : w1.cell? ⟨c, 1, none⟩ = some (.int .i64 (a : Int)) := hL2.cell 1
  have d3 : w1.cell? ⟨c, 3, none⟩ = some (.int .i64 0) := hL2.cell 3
  have df : ∀ j, w1.frozen? ⟨c, j, none⟩ = false := fun j => hL2.free j
  clear hw1 c0 c1 c2 c3 z1 z2 z3 hL2 hG
  go_wp2
  have hL3 : Lies (w1.setCell ⟨c, 1, none⟩ (.int .i64 ((a : Int) + (n : Int)))) c 91 #[.string S, .int .i64 ((a : Int) + (n : Int)), .int .i64 (z : Int), .int .i64 0] := HL2.out.set 1 _
  have HG3 : Hid (w.grownBy (w1.setCell ⟨c, 1, none⟩ (.int .i64 ((a : Int) + (n : Int)))) (some c)) := Lib.hid (HG.out.trans (grown_set (base := 0) w1 c 1 _))
  obtain ⟨w2, hw2⟩ : ∃ w2, w2 = w1.setCell ⟨c, 1, none⟩ (.int .i64 ((a : Int) + (n : Int))) := ⟨_, rfl⟩
  rw [← hw2] at hL3 HG3 ⊢
  have HL3 := Lib.hid hL3
  have e0 : w2.cell? ⟨c, 0, none⟩ = some (.string S) := hL3.cell 0
  have e1 : w2.cell? ⟨c, 1, none⟩ = some (.int .i64 ((a : Int) + (n : Int))) := hL3.cell 1
  have z1 : IntKind.i64.wrap ((a : Int) + (n : Int) - (n : Int)) = (a : Int) := by rw [show (a : Int) + (n : Int) - (n : Int) = (a : Int) by omega]; exact IntWalk.i64_in _ (by omega)
  have z2 : ((a : Int) + (n : Int)).toNat = a + n := by omega
  have z3 : 0 ≤ (a : Int) + (n : Int) := by omega
  have z4 : (a : Int) ≤ (a : Int) + (n : Int) := by omega
  have z5 : (a : Int) + (n : Int) ≤ (S.size : Int) := by omega
  clear hw2 hL3 d0 d1 d3 df
  go_quiet (fail)
  go_wp2
  go_ret
  exact ⟨rfl, by unfold cursC; rw [Int.natCast_add]; exact HL3.out.drewN nq, HG3.out.trans (drewN_grown _ _ _)⟩
theorem ival32 {a b : Int} (h : a = b) : Value.int .u32 a = Value.int .u32 b := by rw [h]
/-- What number makes of octets. -/
def numL (l : List UInt8) : Nat := l.foldl (fun v c => (v * 256 + c.toNat) % 4294967296) 0
theorem numL_snoc (l : List UInt8) (c : UInt8) : numL (l ++ [c]) = (numL l * 256 + c.toNat) % 4294967296 := by simp [numL]
set_option maxHeartbeats 2000000 in
theorem refNumber_ok (S : ByteArray) (a z n : Nat) (w : World) (c : Nat) (hL : Lies w c 91 (cursC S a z)) (hn : a + n ≤ z) (hz : z ≤ S.size) (hs : S.size ≤ 1099511627776) (h4 : n ≤ 4) :
    Calls Tryz.prog 47 #[.pointer (some ⟨c, 0, none⟩), .int .i64 (n : Int)] w (CurO w c S (a + n) z (.int .u32 (numL (((bs S).drop a).take n) : Nat))) := by
  have HT := Lib.hid (refTake_ok S a z n w c hL hn hz hs)
  obtain ⟨T, hT⟩ : ∃ T, S.extract a (a + n) = T := ⟨_, rfl⟩
  have hb : ((bs S).drop a).take n = bs T := by rw [← hT, bs_extract]; congr 1; omega
  rw [hT] at HT
  rw [hb]
  have hTs : T.size ≤ 1099511627776 := by have : (bs T).length ≤ n := by rw [← hb]; exact List.length_take_le _ _
                                          rw [bs_length] at this; omega
  clear hb hT hL
  go_enter Tryz.func47, Tryz.ntmps47
  go_wp2_with (go_at_call 45; (with_reducible refine HT.out.mono ?_); rintro e w1 ⟨rfl, hl, hg⟩; have HL1 := Lib.hid hl; have HG1 := Lib.hid hg; clear hl hg)
  go_loop [6, 7] (fun v i => ∃ k : Nat, i = .int .i64 k ∧ k ≤ T.size ∧ v = .int .u32 (numL ((bs T).take k) : Nat)) (fun _ i => T.size - (intOf i).toNat)
  case atStart => exact ⟨0, rfl, Nat.zero_le _, rfl⟩
  case round =>
    obtain ⟨k, rfl, hk, rfl⟩ := hrel
    rcases Nat.lt_or_ge k T.size with hlt | hge
    · have hsn : (bs T).take (k + 1) = (bs T).take k ++ [T[k]] := by rw [List.take_succ_eq_append_getElem (by rw [bs_length]; exact hlt)]; rfl
      have HSn := Lib.hid (numL_snoc ((bs T).take k) T[k])
      rw [← hsn] at HSn
      have hlt256 : T[k].toNat < 256 := UInt8.toNat_lt _
      clear hsn
      go_wp2
      go_round
      case rel => exact ⟨k + 1, by go_num, by omega, by rw [HSn.out]; exact ival32 (by omega)⟩
      case measure => simp [intOf]; omega
    · obtain rfl : k = T.size := by omega
      go_wp2
      go_ret
      exact ⟨by rw [List.take_of_length_le (by rw [bs_length]; exact Nat.le_refl _)]; rfl, HL1.out, HG1.out⟩
set_option maxHeartbeats 4000000 in
/-- A name, read with pointers, within the data. -/
theorem refCName_no (S : ByteArray) (a z : Nat) (w : World) (c : Nat) (hL : Lies w c 91 (cursC S a z)) (hz : z ≤ S.size) (hs : S.size ≤ 1099511627776) (u : US) (hu : readU (bs S) a a = u) (hf : u.f = 0) (he : u.e ≤ z) :
    Calls Tryz.prog 46 #[.pointer (some ⟨c, 0, none⟩), .bool false] w (CurO w c S u.e z (.string ⟨u.l.toArray⟩)) := by
  have HN : Hid (∀ wx, Calls Tryz.prog 85 #[.string S, .int .i64 a] wx fun e w' => e = .returned (.tuple #[.string ⟨u.l.toArray⟩, .int .i64 u.e, .int .i64 0]) ∧ wx = w') := Lib.hid fun wx => by
    have := refName_any S a wx hs
    rw [hu, hf] at this
    exact this
  have HL := Lib.hid hL
  have HC := Lib.hid fun k => (⟨(HL.out.drewN k).cell 0, (HL.out.drewN k).cell 1, (HL.out.drewN k).cell 2, (HL.out.drewN k).cell 3, (HL.out.drewN k).free 1⟩ : (w.drewN k).cell? ⟨c, 0, none⟩ = some (.string S) ∧ (w.drewN k).cell? ⟨c, 1, none⟩ = some (.int .i64 (a : Int)) ∧ (w.drewN k).cell? ⟨c, 2, none⟩ = some (.int .i64 (z : Int)) ∧ (w.drewN k).cell? ⟨c, 3, none⟩ = some (.int .i64 0) ∧ (w.drewN k).frozen? ⟨c, 1, none⟩ = false)
  have HE : Hid (∀ k, CurO w c S u.e z (.string ⟨u.l.toArray⟩) (.returned (.string ⟨u.l.toArray⟩)) ((w.drewN k).setCell ⟨c, 1, none⟩ (.int .i64 (u.e : Int)))) := Lib.hid fun k => ⟨rfl, (HL.out.drewN k).set 1 _, (drewN_grown w k _).trans (grown_set (base := 0) _ c 1 _)⟩
  obtain ⟨c0, c1, c2, c3, cf⟩ : w.cell? ⟨c, 0, none⟩ = some (.string S) ∧ w.cell? ⟨c, 1, none⟩ = some (.int .i64 (a : Int)) ∧ w.cell? ⟨c, 2, none⟩ = some (.int .i64 (z : Int)) ∧ w.cell? ⟨c, 3, none⟩ = some (.int .i64 0) ∧ w.frozen? ⟨c, 1, none⟩ = false := HC.out 0
  have hze : decide ((z : Int) < (u.e : Int)) = false := by simp; omega
  have hze2 : decide (z < u.e) = false := by simp; omega
  clear hL hu hf
  go_enter Tryz.func46, Tryz.ntmps46
  go_wp2
  go_quiet ((go_at_call 85; exact Calls.quiet_of_same ((HN.out _).mono fun _ _ h => ⟨h.1, h.2.symm⟩)))
  clear c0 c1 c2 c3 cf
  obtain ⟨c0, c1, c2, c3, cf⟩ := HC.out nq
  go_wp2
  go_ret
  exact HE.out nq
set_option maxHeartbeats 4000000 in
/-- A name, read without pointers, within the data. -/
theorem refCName_yes (S : ByteArray) (a z : Nat) (w : World) (c : Nat) (hL : Lies w c 91 (cursC S a z)) (ha : a ≤ z) (hz : z ≤ S.size) (hs : S.size ≤ 1099511627776) (u : US) (hu : readU (bs S) a 0 = u) (hf : u.f = 0) (he : u.e ≤ z) :
    Calls Tryz.prog 46 #[.pointer (some ⟨c, 0, none⟩), .bool true] w (CurO w c S u.e z (.string ⟨u.l.toArray⟩)) := by
  have HN := Lib.hid fun wx => refName_any S a wx hs
  obtain ⟨v, hv⟩ : ∃ v, readU (bs S) a a = v := ⟨_, rfl⟩
  rw [hv] at HN
  have HP : Hid (∀ wx, Calls Tryz.prog 86 #[.string S, .int .i64 a] wx fun e w' => e = .returned (.tuple #[.string ⟨u.l.toArray⟩, .int .i64 u.e, .int .i64 0]) ∧ wx = w') := Lib.hid fun wx => by
    have := refPlain_ok S a wx hs (by omega) (by rw [hu]; exact hf)
    rw [hu, hf] at this
    exact this
  have HL := Lib.hid hL
  have HC := Lib.hid fun k => (⟨(HL.out.drewN k).cell 0, (HL.out.drewN k).cell 1, (HL.out.drewN k).cell 2, (HL.out.drewN k).cell 3, (HL.out.drewN k).free 1⟩ : (w.drewN k).cell? ⟨c, 0, none⟩ = some (.string S) ∧ (w.drewN k).cell? ⟨c, 1, none⟩ = some (.int .i64 (a : Int)) ∧ (w.drewN k).cell? ⟨c, 2, none⟩ = some (.int .i64 (z : Int)) ∧ (w.drewN k).cell? ⟨c, 3, none⟩ = some (.int .i64 0) ∧ (w.drewN k).frozen? ⟨c, 1, none⟩ = false)
  have HE : Hid (∀ k, CurO w c S u.e z (.string ⟨u.l.toArray⟩) (.returned (.string ⟨u.l.toArray⟩)) ((w.drewN k).setCell ⟨c, 1, none⟩ (.int .i64 (u.e : Int)))) := Lib.hid fun k => ⟨rfl, (HL.out.drewN k).set 1 _, (drewN_grown w k _).trans (grown_set (base := 0) _ c 1 _)⟩
  obtain ⟨c0, c1, c2, c3, cf⟩ : w.cell? ⟨c, 0, none⟩ = some (.string S) ∧ w.cell? ⟨c, 1, none⟩ = some (.int .i64 (a : Int)) ∧ w.cell? ⟨c, 2, none⟩ = some (.int .i64 (z : Int)) ∧ w.cell? ⟨c, 3, none⟩ = some (.int .i64 0) ∧ w.frozen? ⟨c, 1, none⟩ = false := HC.out 0
  have hze : decide ((z : Int) < (u.e : Int)) = false := by simp; omega
  have hze2 : decide (z < u.e) = false := by simp; omega
  clear hL hu hf hv
  go_enter Tryz.func46, Tryz.ntmps46
  go_wp2
  go_quiet ((go_at_call 85; exact Calls.quiet_of_same ((HN.out _).mono fun _ _ h => ⟨h.1, h.2.symm⟩)))
  clear c0 c1 c2 c3 cf
  obtain ⟨c0, c1, c2, c3, cf⟩ := HC.out nq
  go_wp2
  obtain ⟨Ix, f, i0, hf0, hff⟩ : ∃ (Ix : Type) (f : Ix → World) (i0 : Ix), (w.drewN nq).drew = f i0 ∧ ∀ n, ∃ m, f n = w.drewN m := ⟨Nat, fun n => w.drewN n, nq + 1, rfl, fun n => ⟨n, rfl⟩⟩
  have HFF := Lib.hid hff
  haveI : Nonempty Ix := ⟨i0⟩
  have V0 := Lib.hid (fun n => (HP.out (f n)).mono (fun _ _ h => (⟨h.1, ⟨n, h.2.symm⟩⟩ : _ ∧ ∃ m, _ = f m)))
  have d0 : ∀ n, (f n).cell? ⟨c, 0, none⟩ = some (.string S) := fun n => by obtain ⟨m, e⟩ := HFF.out n; rw [e]; exact (HC.out m).1
  have d1 : ∀ n, (f n).cell? ⟨c, 1, none⟩ = some (.int .i64 (a : Int)) := fun n => by obtain ⟨m, e⟩ := HFF.out n; rw [e]; exact (HC.out m).2.1
  clear hff c0 c1 c2 c3 cf
  refine wp_region_class f (by kernel_rfl) (lexB_of (by kernel_rfl) (by as_aux_lemma => kernel_rfl)) i0 hf0 ?_
  clear hf0
  repeat (go_big_quiet_step (with_reducible exact V0.out _))
  refine wpQuiet_nil ?_
  intro w7 hw'
  obtain ⟨nE, hw''⟩ := hw'
  obtain ⟨mE, hmE⟩ := HFF.out nE
  rw [hmE] at hw''
  subst hw''
  clear hmE V0 d0 d1 HFF
  obtain ⟨c0, c1, c2, c3, cf⟩ := HC.out mE
  go_wp2
  go_ret
  exact HE.out mE
end Go.Proofs.YtodedbokeodmkaaGreat
namespace Go.Proofs.YtodedbokeodmkaaGreat
open Go.RowKit
set_option linter.unusedVariables false
set_option maxRecDepth 100000

abbrev hasC (a n m t r : Bool) (k w : Int) : Array Value := #[.bool a, .bool n, .bool m, .bool t, .bool r, .int .i64 k, .int .i64 w]
theorem has_1 (w : World) : Calls Tryz.prog 43 #[.int .i64 1] w (Told w (.agg (hasC true false false false false 0 0))) := by
  go_enter Tryz.func43, Tryz.ntmps43
  go_wp2
  refine bodyPost_ret (v := .agg (hasC true false false false false 0 0)) (by simp [results, Tryz.results43, go_sem]) rfl ⟨rfl, (Below.refl _ _).alloc (Nat.le_refl _) _⟩
theorem has_28 (w : World) : Calls Tryz.prog 43 #[.int .i64 28] w (Told w (.agg (hasC true false false false false 0 0))) := by
  go_enter Tryz.func43, Tryz.ntmps43
  go_wp2
  refine bodyPost_ret (v := .agg (hasC true false false false false 0 0)) (by simp [results, Tryz.results43, go_sem]) rfl ⟨rfl, (Below.refl _ _).alloc (Nat.le_refl _) _⟩
theorem has_2 (w : World) : Calls Tryz.prog 43 #[.int .i64 2] w (Told w (.agg (hasC false true false false false 0 0))) := by
  go_enter Tryz.func43, Tryz.ntmps43
  go_wp2
  refine bodyPost_ret (v := .agg (hasC false true false false false 0 0)) (by simp [results, Tryz.results43, go_sem]) rfl ⟨rfl, (Below.refl _ _).alloc (Nat.le_refl _) _⟩
theorem has_5 (w : World) : Calls Tryz.prog 43 #[.int .i64 5] w (Told w (.agg (hasC false true false false false 0 0))) := by
  go_enter Tryz.func43, Tryz.ntmps43
  go_wp2
  refine bodyPost_ret (v := .agg (hasC false true false false false 0 0)) (by simp [results, Tryz.results43, go_sem]) rfl ⟨rfl, (Below.refl _ _).alloc (Nat.le_refl _) _⟩
theorem has_12 (w : World) : Calls Tryz.prog 43 #[.int .i64 12] w (Told w (.agg (hasC false true false false false 0 0))) := by
  go_enter Tryz.func43, Tryz.ntmps43
  go_wp2
  refine bodyPost_ret (v := .agg (hasC false true false false false 0 0)) (by simp [results, Tryz.results43, go_sem]) rfl ⟨rfl, (Below.refl _ _).alloc (Nat.le_refl _) _⟩
theorem has_6 (w : World) : Calls Tryz.prog 43 #[.int .i64 6] w (Told w (.agg (hasC false true true false false 5 4))) := by
  go_enter Tryz.func43, Tryz.ntmps43
  go_wp2
  refine bodyPost_ret (v := .agg (hasC false true true false false 5 4)) (by simp [results, Tryz.results43, go_sem]) rfl ⟨rfl, (Below.refl _ _).alloc (Nat.le_refl _) _⟩
theorem has_15 (w : World) : Calls Tryz.prog 43 #[.int .i64 15] w (Told w (.agg (hasC false true false false false 1 2))) := by
  go_enter Tryz.func43, Tryz.ntmps43
  go_wp2
  refine bodyPost_ret (v := .agg (hasC false true false false false 1 2)) (by simp [results, Tryz.results43, go_sem]) rfl ⟨rfl, (Below.refl _ _).alloc (Nat.le_refl _) _⟩
theorem has_33 (w : World) : Calls Tryz.prog 43 #[.int .i64 33] w (Told w (.agg (hasC false true false false false 3 2))) := by
  go_enter Tryz.func43, Tryz.ntmps43
  go_wp2
  refine bodyPost_ret (v := .agg (hasC false true false false false 3 2)) (by simp [results, Tryz.results43, go_sem]) rfl ⟨rfl, (Below.refl _ _).alloc (Nat.le_refl _) _⟩
theorem has_16 (w : World) : Calls Tryz.prog 43 #[.int .i64 16] w (Told w (.agg (hasC false false false true false 0 0))) := by
  go_enter Tryz.func43, Tryz.ntmps43
  go_wp2
  refine bodyPost_ret (v := .agg (hasC false false false true false 0 0)) (by simp [results, Tryz.results43, go_sem]) rfl ⟨rfl, (Below.refl _ _).alloc (Nat.le_refl _) _⟩
theorem has_raw (t : Int) (w : World) (h : t ≠ 1 ∧ t ≠ 28 ∧ t ≠ 2 ∧ t ≠ 5 ∧ t ≠ 12 ∧ t ≠ 6 ∧ t ≠ 15 ∧ t ≠ 33 ∧ t ≠ 16) : Calls Tryz.prog 43 #[.int .i64 t] w (Told w (.agg (hasC false false false false true 0 0))) := by
  have h1 : (t == 1) = false := by rw [beq_eq_false_iff_ne]; exact h.1
  have h28 : (t == 28) = false := by rw [beq_eq_false_iff_ne]; exact h.2.1
  have h2 : (t == 2) = false := by rw [beq_eq_false_iff_ne]; exact h.2.2.1
  have h5 : (t == 5) = false := by rw [beq_eq_false_iff_ne]; exact h.2.2.2.1
  have h12 : (t == 12) = false := by rw [beq_eq_false_iff_ne]; exact h.2.2.2.2.1
  have h6 : (t == 6) = false := by rw [beq_eq_false_iff_ne]; exact h.2.2.2.2.2.1
  have h15 : (t == 15) = false := by rw [beq_eq_false_iff_ne]; exact h.2.2.2.2.2.2.1
  have h33 : (t == 33) = false := by rw [beq_eq_false_iff_ne]; exact h.2.2.2.2.2.2.2.1
  have h16 : (t == 16) = false := by rw [beq_eq_false_iff_ne]; exact h.2.2.2.2.2.2.2.2
  clear h
  go_enter Tryz.func43, Tryz.ntmps43
  go_wp2
  refine bodyPost_ret (v := .agg (hasC false false false false true 0 0)) (by simp [results, Tryz.results43, go_sem]) rfl ⟨rfl, (Below.refl _ _).alloc (Nat.le_refl _) _⟩

/-- What the law's own number makes of octets. -/
def numI (l : List UInt8) : Nat := l.foldl (fun v c => 256 * v + c.toNat) 0
theorem numI_snoc (l : List UInt8) (c : UInt8) : numI (l ++ [c]) = 256 * numI l + c.toNat := by simp [numI]
theorem numI_lt : ∀ (n : Nat) (l : List UInt8), l.length = n → numI l < 256 ^ n := by
  intro n
  induction n with
  | zero => intro l h; rw [List.length_eq_zero_iff.1 h]; decide
  | succ n ih =>
    intro l h
    have hne : l ≠ [] := fun e => by rw [e] at h; cases h
    rw [← List.dropLast_concat_getLast hne, numI_snoc, Nat.pow_succ]
    have := ih l.dropLast (by rw [List.length_dropLast]; omega)
    have h2 := UInt8.toNat_lt (l.getLast hne)
    omega
set_option maxHeartbeats 2000000 in
theorem lawNumber_any (S : ByteArray) (a n : Nat) (w : World) (hn : n ≤ 4) (ha : a + n ≤ S.size) (hs : S.size ≤ 1099511627776) :
    Calls Tryz.prog 13 #[.string S, .int .i64 (a : Int), .int .i64 (n : Int)] w fun e w' => e = .returned (.int .i64 (numI (((bs S).drop a).take n) : Nat)) ∧ w = w' := by
  go_enter Tryz.func13, Tryz.ntmps13
  go_wp2
  go_loop [7, 8] (fun v i => ∃ k : Nat, i = .int .i64 k ∧ k ≤ n ∧ v = .int .i64 (numI (((bs S).drop a).take k) : Nat)) (fun _ i => n - (intOf i).toNat)
  case atStart => exact ⟨0, rfl, Nat.zero_le _, rfl⟩
  case round =>
    obtain ⟨k, rfl, hk, rfl⟩ := hrel
    rcases Nat.lt_or_ge k n with hlt | hge
    · have hak : a + k < S.size := by omega
      have hsn : ((bs S).drop a).take (k + 1) = ((bs S).drop a).take k ++ [S[a + k]] := by
        rw [List.take_succ_eq_append_getElem (by rw [List.length_drop, bs_length]; omega), List.getElem_drop]
        rfl
      have HSn := Lib.hid (numI_snoc (((bs S).drop a).take k) S[a + k])
      rw [← hsn] at HSn
      have hlt256 : S[a + k].toNat < 256 := UInt8.toNat_lt _
      have hb : numI (((bs S).drop a).take k) < 16777216 := by
        have h1 := numI_lt k (((bs S).drop a).take k) (by rw [List.length_take, List.length_drop, bs_length]; omega)
        have h2 : 256 ^ k ≤ 256 ^ 3 := Nat.pow_le_pow_right (by decide) (by omega)
        have h3 : 256 ^ 3 = 16777216 := by decide
        omega
      clear hsn
      go_wp2
      go_round
      case rel => exact ⟨k + 1, by go_num, by omega, by rw [HSn.out]; first | exact ival (by omega) | skip⟩
      case measure => simp [intOf]; omega
    · obtain rfl : k = n := by omega
      go_wp2
      go_ret
      exact ⟨rfl, rfl⟩
end Go.Proofs.YtodedbokeodmkaaGreat
namespace Go.Proofs.YtodedbokeodmkaaGreat
open Go.RowKit
set_option linter.unusedVariables false
set_option maxRecDepth 100000
/-- What is put below a number whose lowest bits are noughts. -/
theorem or_low (x k y : Nat) (hy : y < 2 ^ k) (h : x * 2 ^ k < 18446744073709551616) (h2 : y < 18446744073709551616) : bits BinOp.or IntKind.u64 ((x * 2 ^ k : Nat) : Int) (y : Int) = ((x * 2 ^ k + y : Nat) : Int) := by
  rw [u64_or_nat (x * 2 ^ k) y h h2]
  have h1 := Nat.shiftLeft_add_eq_or_of_lt hy x
  rw [Nat.shiftLeft_eq] at h1
  rw [h1]
theorem four_e3 (a b : Nat) : a * 2 ^ 24 + b * 65536 = (a * 256 + b) * 2 ^ 16 := by omega
theorem four_e5 (N c : Nat) : N * 2 ^ 16 + c * 256 = (N * 256 + c) * 2 ^ 8 := by omega
theorem four_eq (a b c d : Nat) (ha : a < 256) (hb : b < 256) (hc : c < 256) (hd : d < 256) : bits BinOp.or IntKind.u64 (bits BinOp.or IntKind.u64 (bits BinOp.or IntKind.u64 ((a : Int) * 16777216) ((b : Int) * 65536)) ((c : Int) * 256)) (d : Int) = ((((a * 256 + b) * 256 + c) * 256 + d : Nat) : Int) := by
  have e1 : (a : Int) * 16777216 = ((a * 2 ^ 24 : Nat) : Int) := by omega
  have e2 : (b : Int) * 65536 = ((b * 65536 : Nat) : Int) := by omega
  rw [e1, e2, or_low a 24 (b * 65536) (by omega) (by omega) (by omega)]
  have e3 : ((a * 2 ^ 24 + b * 65536 : Nat) : Int) = (((a * 256 + b) * 2 ^ 16 : Nat) : Int) := by rw [four_e3]
  have e4 : (c : Int) * 256 = ((c * 256 : Nat) : Int) := by omega
  rw [e3, e4, or_low (a * 256 + b) 16 (c * 256) (by omega) (by omega) (by omega)]
  have e5 : (((a * 256 + b) * 2 ^ 16 + c * 256 : Nat) : Int) = ((((a * 256 + b) * 256 + c) * 2 ^ 8 : Nat) : Int) := by rw [four_e5]
  rw [e5]
  have hM : (a * 256 + b) * 256 + c < 16777216 := by omega
  clear e1 e2 e3 e4 e5
  generalize (a * 256 + b) * 256 + c = M at hM ⊢
  rw [or_low M 8 d (by omega) (Nat.lt_of_lt_of_le (Nat.mul_lt_mul_of_pos_right hM (by decide)) (by decide)) (by omega)]
set_option maxHeartbeats 1000000 in
theorem refFour_any (a b c d : Nat) (w : World) (ha : a < 256) (hb : b < 256) (hc : c < 256) (hd : d < 256) :
    Calls Tryz.prog 84 #[.int .u8 (a : Int), .int .u8 (b : Int), .int .u8 (c : Int), .int .u8 (d : Int)] w (Told w (.agg #[.bool false, .int .u64 0, .int .u64 ((((a * 256 + b) * 256 + c) * 256 + d : Nat) : Int)])) := by
  go_enter Tryz.func84, Tryz.ntmps84
  go_wp2
  rw [four_eq a b c d ha hb hc hd]
  refine bodyPost_ret (v := .agg #[.bool false, .int .u64 0, .int .u64 ((((a * 256 + b) * 256 + c) * 256 + d : Nat) : Int)]) (by simp [results, Tryz.results84, go_sem]) rfl ⟨rfl, (Below.refl _ _).alloc (Nat.le_refl _) _⟩
set_option maxHeartbeats 2000000 in
/-- Four octets are an elder address. -/
theorem refOf_4 (S : ByteArray) (w : World) (i0 : 0 < S.size) (i1 : 1 < S.size) (i2 : 2 < S.size) (i3 : 3 < S.size) (b0 : ((S.size : Int) != 4) = false) (b1 : ((S.size : Int) == 4) = true) :
    Calls Tryz.prog 44 #[.string S] w (Told w (.tuple #[.agg #[.bool false, .int .u64 0, .int .u64 ((((S[0].toNat * 256 + S[1].toNat) * 256 + S[2].toNat) * 256 + S[3].toNat : Nat) : Int)], .int .i64 0])) := by
  have HF := Lib.hid fun wx => refFour_any S[0].toNat S[1].toNat S[2].toNat S[3].toNat wx (UInt8.toNat_lt _) (UInt8.toNat_lt _) (UInt8.toNat_lt _) (UInt8.toNat_lt _)
  have HB0 : Hid (Below w.heap.size w (w.alloc (.cells #[.bool false, .int .u64 0, .int .u64 0] 26))) := Lib.hid ((Below.refl _ _).alloc (Nat.le_refl _) _)
  have HL0 : Hid (Lies (w.alloc (.cells #[.bool false, .int .u64 0, .int .u64 0] 26)) w.heap.size 26 #[.bool false, .int .u64 0, .int .u64 0]) := Lib.hid (Lies.new _ _ _)
  obtain ⟨M, hM⟩ : ∃ M, (((S[0].toNat * 256 + S[1].toNat) * 256 + S[2].toNat) * 256 + S[3].toNat : Nat) = M := ⟨_, rfl⟩
  rw [hM] at HF ⊢
  clear hM
  go_enter Tryz.func44, Tryz.ntmps44
  go_wp2
  obtain ⟨w0, hw0⟩ : ∃ x, x = w.alloc (.cells #[.bool false, .int .u64 0, .int .u64 0] 26) := ⟨_, rfl⟩
  rw [← hw0] at HB0 HL0 ⊢
  clear hw0
  have HBd : Hid (Below w.heap.size w w0.drew) := Lib.hid (below_draws HB0.out 1)
  go_region_held3 (fun _ => True) (first | go_keep | trivial) (first | (go_at_call 84; (with_reducible refine (HF.out _).mono ?_); rintro e w1 ⟨rfl, hb1⟩; have HL1 := Lib.hid (Lies.next (Lies.drew HL0.out) hb1); have HB1 := Lib.hid (next HBd.out hb1); have k0 := HL1.out.cell 0; have k1 := HL1.out.cell 1; have k2 := HL1.out.cell 2; have f0 := HL1.out.free 0; have f1 := HL1.out.free 1; have f2 := HL1.out.free 2; clear hb1) | fail)
  all_goals
    go_wp2
    refine bodyPost_ret (ret_ad2 rfl _ _ w.heap.size (false, 0, M) rfl (AdB.put (six := false) (hi := 0) (lo := 0) HL1.out false (0 : Nat) M)) rfl ?_
    exact ⟨rfl, put3 HB1.out (Nat.le_refl _) _ _ _⟩
end Go.Proofs.YtodedbokeodmkaaGreat
namespace Go.Proofs.YtodedbokeodmkaaGreat
open Go.RowKit
set_option linter.unusedVariables false
set_option maxRecDepth 100000

theorem or_oct (x c : Nat) (hx : x < 72057594037927936) (hc : c < 256) : bits BinOp.or IntKind.u64 ((x : Int) * 256) (c : Int) = ((256 * x + c : Nat) : Int) := by
  have := or_low x 8 c (by omega) (by omega) (by omega)
  rw [show ((x : Int) * 256) = ((x * 2 ^ 8 : Nat) : Int) by omega, this]
  omega
/-- How the loop stands. -/
def O16 (S : ByteArray) (w : World) (g2 g4 : Nat) (i : Value) (wr : World) : Prop := ∃ k : Nat, i = .int .i64 k ∧ k ≤ 8 ∧ Lies wr g4 26 #[.bool true, .int .u64 (numI ((bs S).take k) : Nat), .int .u64 (numI (((bs S).drop 8).take k) : Nat)] ∧ Lies wr g2 26 #[.bool false, .int .u64 0, .int .u64 0] ∧ Below w.heap.size w wr
set_option maxHeartbeats 4000000 in
theorem refOf_16 (S : ByteArray) (w : World) (h16 : 15 < S.size) (b0 : ((S.size : Int) != 4) = true) (b1 : ((S.size : Int) == 4) = false) (b2 : ((S.size : Int) != 16) = false) :
    Calls Tryz.prog 44 #[.string S] w (Told w (.tuple #[.agg #[.bool true, .int .u64 (numI ((bs S).take 8) : Nat), .int .u64 (numI (((bs S).drop 8).take 8) : Nat)], .int .i64 0])) := by
  go_enter Tryz.func44, Tryz.ntmps44
  go_wp2
  clear b0 b1 b2
  have hs : (w.alloc (.cells #[.bool false, .int .u64 0, .int .u64 0] 26)).heap.size = w.heap.size + 1 := by simp
  have HR0 : Hid (O16 S w w.heap.size (w.heap.size + 1) (.int .i64 0) ((w.alloc (.cells #[.bool false, .int .u64 0, .int .u64 0] 26)).alloc (.cells #[.bool true, .int .u64 0, .int .u64 0] 26))) := Lib.hid ⟨0, rfl, by omega, by
    have := Lies.new (w.alloc (.cells #[.bool false, .int .u64 0, .int .u64 0] 26)) 26 #[.bool true, .int .u64 0, .int .u64 0]
    rw [hs] at this
    exact this, (Lies.new _ _ _).alloc _, ((Below.refl _ _).alloc (Nat.le_refl _) _).alloc (by simp) _⟩
  clear hs
  go_loopw [5] (fun i wr => O16 S w w.heap.size (w.heap.size + 1) i wr) (fun i _ => 8 - (intOf i).toNat)
  case atStart => exact HR0.out
  case round =>
    clear HR0
    obtain ⟨k, rfl, hk, hl4, hl2, hb⟩ := hrel
    have HL4 := Lib.hid hl4
    have HL2 := Lib.hid hl2
    have HB := Lib.hid hb
    rcases Nat.lt_or_ge k 8 with hlt | hge
    · have hb1 : numI ((bs S).take k) < 72057594037927936 := by
        have h1 := numI_lt k ((bs S).take k) (by rw [List.length_take, bs_length]; omega)
        have h2 : 256 ^ k ≤ 256 ^ 7 := Nat.pow_le_pow_right (by decide) (by omega)
        have h3 : 256 ^ 7 = 72057594037927936 := by decide
        omega
      have hb2 : numI (((bs S).drop 8).take k) < 72057594037927936 := by
        have h1 := numI_lt k (((bs S).drop 8).take k) (by rw [List.length_take, List.length_drop, bs_length]; omega)
        have h2 : 256 ^ k ≤ 256 ^ 7 := Nat.pow_le_pow_right (by decide) (by omega)
        have h3 : 256 ^ 7 = 72057594037927936 := by decide
        omega
      have hk1 : k < S.size := by omega
      have hk2 : 8 + k < S.size := by omega
      have hs1 : (bs S).take (k + 1) = (bs S).take k ++ [S[k]] := by
        rw [List.take_succ_eq_append_getElem (by rw [bs_length]; omega)]; rfl
      have hs2 : ((bs S).drop 8).take (k + 1) = ((bs S).drop 8).take k ++ [S[8 + k]] := by
        rw [List.take_succ_eq_append_getElem (by rw [List.length_drop, bs_length]; omega), List.getElem_drop]; rfl
      have HS1 := Lib.hid (numI_snoc ((bs S).take k) S[k])
      have HS2 := Lib.hid (numI_snoc (((bs S).drop 8).take k) S[8 + k])
      rw [← hs1] at HS1
      rw [← hs2] at HS2
      have c1 := UInt8.toNat_lt S[k]
      have c2 := UInt8.toNat_lt S[8 + k]
      obtain ⟨n1, hn1⟩ : ∃ n, numI ((bs S).take k) = n := ⟨_, rfl⟩
      obtain ⟨n2, hn2⟩ : ∃ n, numI (((bs S).drop 8).take k) = n := ⟨_, rfl⟩
      rw [hn1] at hl4 HS1 hb1 HL4
      rw [hn2] at hl4 HS2 hb2 HL4
      have e1 := or_oct n1 S[k].toNat hb1 c1
      have e2 := or_oct n2 S[8 + k].toNat hb2 c2
      have E1 := Lib.hid e1
      have E2 := Lib.hid e2
      have x1 := hl4.cell 1
      have x2 := hl4.cell 2
      have f1 := hl4.free 1
      have f2 := hl4.free 2
      clear hl4 hl2 hb hs1 hs2 hn1 hn2 e1 e2
      have z2 : (0 : Int) ≤ 8 + (k : Int) := by omega
      have z3 : (8 + (k : Int)).toNat = 8 + k := by omega
      have z4 : 8 + (k : Int) < (S.size : Int) := by omega
      have z1 : IntKind.i64.wrap (8 + (k : Int)) = 8 + (k : Int) := IntWalk.i64_in _ (by omega)
      go_wp2
      go_region
      rw [E1.out, E2.out]
      clear z1
      go_wp2
      go_roundw
      case rel =>
        refine ⟨k + 1, by go_num, by omega, ?_, ?_, ?_⟩
        · rw [HS1.out, HS2.out]
          exact ((Lies.drew HL4.out).set 1 _).set 2 _
        · have hne : w.heap.size ≠ w.heap.size + 1 := by omega
          exact (heap_setCell_other _ ⟨w.heap.size + 1, 2, none⟩ w.heap.size _ hne).trans ((heap_setCell_other _ ⟨w.heap.size + 1, 1, none⟩ w.heap.size _ hne).trans (Lies.drew HL2.out))
        · exact (((below_draws HB.out 1).setCell (p := ⟨w.heap.size + 1, 1, none⟩) (by simp) _).setCell (p := ⟨w.heap.size + 1, 2, none⟩) (by simp) _)
      case measure => simp [intOf]; omega
    · obtain rfl : k = 8 := by omega
      have x0 := hl4.cell 0
      have x1 := hl4.cell 1
      have x2 := hl4.cell 2
      have y0 := hl2.cell 0
      have y1 := hl2.cell 1
      have y2 := hl2.cell 2
      have g0 := hl2.free 0
      have g1 := hl2.free 1
      have g2 := hl2.free 2
      clear hl4 hl2 hb
      go_wp2
      refine bodyPost_ret (ret_ad2 rfl _ _ w.heap.size (true, numI ((bs S).take 8), numI (((bs S).drop 8).take 8)) rfl (AdB.put (six := false) (hi := 0) (lo := 0) HL2.out true _ _)) rfl ?_
      exact ⟨rfl, put3 HB.out (Nat.le_refl _) _ _ _⟩
end Go.Proofs.YtodedbokeodmkaaGreat
namespace Go.Proofs.YtodedbokeodmkaaGreat
open Go.RowKit
set_option linter.unusedVariables false

theorem cut_at (n : ByteArray) (k : Nat) (hk : k < n.size) :
    cutL ((bs n).drop k) = if 1 ≤ n[k].toNat ∧ n[k].toNat ≤ 63 ∧ n[k].toNat ≤ n.size - (k + 1) then some (((bs n).drop (k + 1)).take n[k].toNat, (bs n).drop (k + 1 + n[k].toNat)) else none := by
  rw [drop_at n k hk, cutL_cons, List.length_drop, bs_length, List.drop_drop]
/-- What has been gone through. -/
def Gone (n : ByteArray) (k : Nat) (P : List (List UInt8)) : Prop := okN P ∧ bs n = enc P ++ (bs n).drop k
theorem Gone.step {n : ByteArray} {k : Nat} {P : List (List UInt8)} (h : Gone n k P) {x r : List UInt8} (hc : cutL ((bs n).drop k) = some (x, r)) (k' : Nat) (hr : r = (bs n).drop k') : Gone n k' (P ++ [x]) := by
  obtain ⟨h1, h2⟩ := h
  obtain ⟨e, hx⟩ := cutL_some hc
  refine ⟨okN_append.2 ⟨h1, okN_cons.2 ⟨hx, okN_nil⟩⟩, ?_⟩
  rw [enc_snoc, List.append_assoc, ← hr, ← e]
  exact h2
theorem Gone.labs {n : ByteArray} {k : Nat} {P : List (List UInt8)} (h : Gone n k P) : labs (bs n) = P ++ labs ((bs n).drop k) := by
  have := labs_enc P ((bs n).drop k) h.1
  rw [← h.2] at this
  exact this
theorem Gone.len {n : ByteArray} {k : Nat} {P : List (List UInt8)} (h : Gone n k P) (hk : k ≤ n.size) : (enc P).length = k ∧ 2 * P.length ≤ k := by
  have h1 := congrArg List.length h.2
  rw [List.length_append, List.length_drop, bs_length] at h1
  have h2 := enc_two h.1
  omega

/-- The relation of Check's loop. -/
def RcRel (n : ByteArray) (i : Value) : Prop := ∃ (k : Nat) (P : List (List UInt8)), i = .int .i64 k ∧ k ≤ n.size ∧ Hid (Gone n k P)

set_option maxHeartbeats 1000000 in
theorem rnCheck_any (n : ByteArray) (w : World) (hs : n.size ≤ maxLen) : Calls Tryz.prog 60 #[.string n] w fun e w' => e = .returned (.int .i64 (chkN (bs n))) ∧ w = w' := by
  by_cases hl : 254 < n.size
  · have HP := Lib.hid (chkN_long (l := bs n) (by rw [bs_length]; exact hl))
    unfold maxLen at hs
    go_enter Tryz.func60, Tryz.ntmps60
    go_wp2
    go_ret
    exact ⟨by rw [HP.out]; rfl, rfl⟩
  · have hle : n.size ≤ 254 := by omega
    have HP : Hid (chkN (bs n) = if (enc (labs (bs n))).length = n.size then 0 else 4) := Lib.hid (by
      unfold chkN
      rw [bs_length, if_neg hl])
    clear hs hl
    go_enter Tryz.func60, Tryz.ntmps60
    go_wp2
    go_loop [3] (fun i => RcRel n i) (fun i => n.size - (intOf i).toNat)
    case atStart => exact ⟨0, [], rfl, Nat.zero_le _, Lib.hid ⟨okN_nil, rfl⟩⟩
    case round =>
      obtain ⟨k, P, rfl, hk, hg⟩ := hrel
      by_cases hlt : k < n.size
      · have hc := cut_at n k hlt
        have b := n[k].toNat_lt
        by_cases hok : 1 ≤ n[k].toNat ∧ n[k].toNat ≤ 63 ∧ n[k].toNat ≤ n.size - (k + 1)
        · rw [if_pos hok] at hc
          have HN : Hid (Gone n (k + 1 + n[k].toNat) (P ++ [((bs n).drop (k + 1)).take n[k].toNat])) := Lib.hid (hg.out.step hc _ rfl)
          obtain ⟨o1, o2, o3⟩ := hok
          have o4 : ¬ (n.size : Int) < k + 1 + n[k].toNat := by omega
          clear hc
          go_wp2
          go_round
          case rel => exact ⟨k + 1 + n[k].toNat, _, by go_num, by omega, HN⟩
          case measure => simp [intOf]; omega
        · rw [if_neg hok] at hc
          have HE : Hid (chkN (bs n) = 4) := Lib.hid (by
            have h1 := hg.out.labs
            rw [labs_none hc, List.append_nil] at h1
            have h2 := (hg.out.len hk).1
            rw [HP.out, h1, h2, if_neg (by omega)])
          clear hc
          by_cases o1 : n[k].toNat < 1
          · clear hok
            go_wp2
            go_ret
            exact ⟨by rw [HE.out]; rfl, rfl⟩
          · by_cases o2 : 63 < n[k].toNat
            · clear hok
              go_wp2
              go_ret
              exact ⟨by rw [HE.out]; rfl, rfl⟩
            · have o3 : (n.size : Int) < k + 1 + n[k].toNat := by omega
              clear hok
              go_wp2
              go_ret
              exact ⟨by rw [HE.out]; rfl, rfl⟩
      · have HE : Hid (chkN (bs n) = 0) := Lib.hid (by
          have h1 := hg.out.labs
          rw [drop_end n k (by omega)] at h1
          have h2 := (hg.out.len hk).1
          rw [HP.out, h1, labs_nil, List.append_nil, h2, if_pos (by omega)])
        go_wp2
        go_ret
        exact ⟨by rw [HE.out]; rfl, rfl⟩

end Go.Proofs.YtodedbokeodmkaaGreat
namespace Go.Proofs.YtodedbokeodmkaaGreat
open Go.RowKit
set_option linter.unusedVariables false
set_option maxRecDepth 100000

theorem nm_le {n : ByteArray} (h : chkN (bs n) = 0) : n.size ≤ 254 := by have := (chkN_iff.1 h).1; rwa [bs_length] at this
theorem rn_zero {n : ByteArray} (hc : chkN (bs n) = 0) (wx : World) : Calls Tryz.prog 60 #[.string n] wx fun e w' => e = .returned (.int .i64 0) ∧ wx = w' := by
  have := rnCheck_any n wx (by have := nm_le hc; unfold maxLen; omega)
  rw [hc] at this
  exact this.mono fun _ _ h => ⟨h.1, by first | exact h.2.symm | exact h.2⟩
theorem rn_none (wx : World) : Calls Tryz.prog 60 #[.string ⟨#[]⟩] wx fun e w' => e = .returned (.int .i64 0) ∧ wx = w' := rn_zero (n := ⟨#[]⟩) rfl wx
theorem ad_none (wx : World) : (Op.equalIn 10000 26 (.agg #[.bool false, .int .u64 0, .int .u64 0]) (.agg #[.bool false, .int .u64 0, .int .u64 0])).run Tryz.prog wx = .ok true wx := by have := ad_eql false 0 0 false 0 0 wx; simpa using this
set_option maxHeartbeats 1000000 in
theorem refACheck_6 (hi lo : Nat) (w : World) : Calls Tryz.prog 115 #[.agg #[.bool true, .int .u64 (hi : Int), .int .u64 (lo : Int)]] w (Told w (.int .i64 0)) := by
  have HB : Hid (∀ o : Obj, Below w.heap.size w (w.alloc o)) := Lib.hid fun o => (Below.refl _ _).alloc (Nat.le_refl _) o
  go_enter Tryz.func115, Tryz.ntmps115
  go_wp2
  go_ret
  exact ⟨rfl, HB.out _⟩
set_option maxHeartbeats 1000000 in
theorem refACheck_4 (lo : Nat) (h : lo < 4294967296) (w : World) : Calls Tryz.prog 115 #[.agg #[.bool false, .int .u64 0, .int .u64 (lo : Int)]] w (Told w (.int .i64 0)) := by
  have HB : Hid (∀ o : Obj, Below w.heap.size w (w.alloc o)) := Lib.hid fun o => (Below.refl _ _).alloc (Nat.le_refl _) o
  have hlo : decide ((4294967296 : Int) ≤ (lo : Int)) = false := decide_eq_false (by omega)
  clear h
  go_enter Tryz.func115, Tryz.ntmps115
  go_wp2
  go_ret
  exact ⟨rfl, HB.out _⟩
set_option maxHeartbeats 4000000 in
theorem refCheck_a4 (lo : Nat) (hlo : lo < 4294967296) (hh : ∀ wx, Calls Tryz.prog 43 #[.int .i64 1] wx (Told wx (.agg (hasC true false false false false 0 0)))) (w : World) :
    Calls Tryz.prog 87 #[.int .i64 1, dataV ⟨false, 0, lo, ⟨#[]⟩, ⟨#[]⟩, 0, 0, 0, 0, 0, [], ⟨#[]⟩⟩ nilS] w (Told w (.int .i64 0)) := by
  have HH := Lib.hid hh
  have HN : Hid (∀ wx, Calls Tryz.prog 60 #[.string ⟨#[]⟩] wx fun e w' => e = .returned (.int .i64 0) ∧ wx = w') := Lib.hid fun wx => rn_none wx
  have HM : Hid (∀ wx, Calls Tryz.prog 60 #[.string ⟨#[]⟩] wx fun e w' => e = .returned (.int .i64 0) ∧ wx = w') := Lib.hid fun wx => rn_none wx
  have HC := Lib.hid fun wx => refACheck_4 lo hlo wx
  clear hh
  have hB : Below w.heap.size w (w.alloc (.cells #[.bool false, .int .u64 0, .int .u64 (lo : Int), .string ⟨#[]⟩, .string ⟨#[]⟩, .int .u32 0, .int .u32 0, .int .u32 0, .int .u32 0, .int .u32 0, .slice none 0 0, .string ⟨#[]⟩] 30)) := (Below.refl _ _).alloc (Nat.le_refl _) _
  have hl : Lies (w.alloc (.cells #[.bool false, .int .u64 0, .int .u64 (lo : Int), .string ⟨#[]⟩, .string ⟨#[]⟩, .int .u32 0, .int .u32 0, .int .u32 0, .int .u32 0, .int .u32 0, .slice none 0 0, .string ⟨#[]⟩] 30)) w.heap.size 30 #[.bool false, .int .u64 0, .int .u64 (lo : Int), .string ⟨#[]⟩, .string ⟨#[]⟩, .int .u32 0, .int .u32 0, .int .u32 0, .int .u32 0, .int .u32 0, .slice none 0 0, .string ⟨#[]⟩] := Lies.new _ _ _
  unfold dataV cellsD nilS
  go_enter Tryz.func87, Tryz.ntmps87
  go_wp2_with fail
  obtain ⟨W, hW⟩ : ∃ W, W = w.alloc (.cells #[.bool false, .int .u64 0, .int .u64 (lo : Int), .string ⟨#[]⟩, .string ⟨#[]⟩, .int .u32 0, .int .u32 0, .int .u32 0, .int .u32 0, .int .u32 0, .slice none 0 0, .string ⟨#[]⟩] 30) := ⟨_, rfl⟩
  rw [← hW] at hB hl
  have hW2 : w.alloc (.cells #[.bool false, .int .u64 ((0 : Nat) : Int), .int .u64 (lo : Int), .string ⟨#[]⟩, .string ⟨#[]⟩, .int .u32 ((0 : Nat) : Int), .int .u32 ((0 : Nat) : Int), .int .u32 ((0 : Nat) : Int), .int .u32 ((0 : Nat) : Int), .int .u32 ((0 : Nat) : Int), .slice none 0 0, .string ⟨#[]⟩] 30) = W := hW.symm
  first | rw [hW2] | rw [← hW]
  clear hW hW2
  refine (HH.out _).mono ?_
  rintro e w1 ⟨rfl, hb⟩
  have hl1 := (hl.next hb).alloc (.cells (hasC true false false false false 0 0) 93)
  have hh1 := Lies.new w1 93 (hasC true false false false false 0 0)
  have hb1 := (hB.trans (hb.mono hB.size)).alloc (hB.trans (hb.mono hB.size)).size (.cells (hasC true false false false false 0 0) 93)
  go_upto_region 4 with (fail)
  obtain ⟨w2, hw2⟩ : ∃ x, x = w1.alloc (.cells (hasC true false false false false 0 0) 93) := ⟨_, rfl⟩
  rw [← hw2] at hl1 hh1 hb1
  have hw3 : w1.alloc (.cells #[.bool true, .bool false, .bool false, .bool false, .bool false, .int .i64 0, .int .i64 0] 93) = w2 := hw2.symm
  first | rw [hw3] | rw [← hw2]
  obtain ⟨g, hg⟩ : ∃ x, x = w1.heap.size := ⟨_, rfl⟩
  rw [← hg] at hh1 ⊢
  clear hw2 hw3 hg
  have HB := Lib.hid hb1
  have x0 := hl1.cell 0
  have x1 := hl1.cell 1
  have x2 := hl1.cell 2
  have x3 := hl1.cell 3
  have x4 := hl1.cell 4
  have x5 := hl1.cell 5
  have x6 := hl1.cell 6
  have x7 := hl1.cell 7
  have x8 := hl1.cell 8
  have x9 := hl1.cell 9
  have x10 := hl1.cell 10
  have x11 := hl1.cell 11
  have h0 := hh1.cell 0
  have h1 := hh1.cell 1
  have h2 := hh1.cell 2
  have h3 := hh1.cell 3
  have h4 := hh1.cell 4
  have h5 := hh1.cell 5
  have h6 := hh1.cell 6
  have HL := Lib.hid hl1
  have HG := Lib.hid hh1
  clear hl hl1 hh1 hb1 hb hB HH
  simp at x0 x1 x2 x3 x4 x5 x6 x7 x8 x9 x10 x11 h0 h1 h2 h3 h4 h5 h6
  go_upto_region 6 with (fail)
  go_wp2_with fail
  refine (HC.out _).mono ?_
  rintro e w3 ⟨rfl, hb3⟩
  have HB3 := Lib.hid (HB.out.trans (hb3.mono HB.out.size))
  have hl1 := HL.out.next hb3
  have hh1 := HG.out.next hb3
  clear x0 x1 x2 x3 x4 x5 x6 x7 x8 x9 x10 x11 h0 h1 h2 h3 h4 h5 h6
  have x0 := hl1.cell 0
  have x1 := hl1.cell 1
  have x2 := hl1.cell 2
  have x3 := hl1.cell 3
  have x4 := hl1.cell 4
  have x5 := hl1.cell 5
  have x6 := hl1.cell 6
  have x7 := hl1.cell 7
  have x8 := hl1.cell 8
  have x9 := hl1.cell 9
  have x10 := hl1.cell 10
  have x11 := hl1.cell 11
  have h0 := hh1.cell 0
  have h1 := hh1.cell 1
  have h2 := hh1.cell 2
  have h3 := hh1.cell 3
  have h4 := hh1.cell 4
  have h5 := hh1.cell 5
  have h6 := hh1.cell 6
  clear hl1 hh1 hb3
  simp at x0 x1 x2 x3 x4 x5 x6 x7 x8 x9 x10 x11 h0 h1 h2 h3 h4 h5 h6
  go_wp2
  go_loop [6] (fun i => ∃ k : Nat, i = .int .i64 k ∧ k ≤ 5) (fun i => 5 - (intOf i).toNat)
  case atStart => exact ⟨0, rfl, by omega⟩
  case round =>
    obtain ⟨k, rfl, hk⟩ := hrel
    obtain rfl | rfl | rfl | rfl | rfl | rfl : k = 0 ∨ k = 1 ∨ k = 2 ∨ k = 3 ∨ k = 4 ∨ k = 5 := by omega
    · go_wp2
      go_round
      case rel => exact ⟨1, by go_num, by omega⟩
      case measure => simp [intOf]
    · go_wp2
      go_round
      case rel => exact ⟨2, by go_num, by omega⟩
      case measure => simp [intOf]
    · go_wp2
      go_round
      case rel => exact ⟨3, by go_num, by omega⟩
      case measure => simp [intOf]
    · go_wp2
      go_round
      case rel => exact ⟨4, by go_num, by omega⟩
      case measure => simp [intOf]
    · go_wp2
      go_round
      case rel => exact ⟨5, by go_num, by omega⟩
      case measure => simp [intOf]
    · go_wp2_with (go_at_call 60; (first | (with_reducible refine (HN.out _).mono ?_) | (with_reducible refine (HM.out _).mono ?_)); rintro e w' ⟨rfl, rfl⟩)
      go_loop [7, 8] (fun v i => v = .int .i64 0 ∧ i = .int .i64 0) (fun _ _ => 0)
      case atStart => exact ⟨rfl, rfl⟩
      case round =>
        obtain ⟨rfl, rfl⟩ := hrel
        go_wp2
        go_ret
        exact ⟨rfl, HB3.out⟩
set_option maxHeartbeats 4000000 in
theorem refCheck_a6 (hi lo : Nat) (hhi : hi < 18446744073709551616) (hlo : lo < 18446744073709551616) (hh : ∀ wx, Calls Tryz.prog 43 #[.int .i64 28] wx (Told wx (.agg (hasC true false false false false 0 0)))) (w : World) :
    Calls Tryz.prog 87 #[.int .i64 28, dataV ⟨true, hi, lo, ⟨#[]⟩, ⟨#[]⟩, 0, 0, 0, 0, 0, [], ⟨#[]⟩⟩ nilS] w (Told w (.int .i64 0)) := by
  have HH := Lib.hid hh
  have HN : Hid (∀ wx, Calls Tryz.prog 60 #[.string ⟨#[]⟩] wx fun e w' => e = .returned (.int .i64 0) ∧ wx = w') := Lib.hid fun wx => rn_none wx
  have HM : Hid (∀ wx, Calls Tryz.prog 60 #[.string ⟨#[]⟩] wx fun e w' => e = .returned (.int .i64 0) ∧ wx = w') := Lib.hid fun wx => rn_none wx
  have HC := Lib.hid fun wx => refACheck_6 hi lo wx
  clear hh
  have hB : Below w.heap.size w (w.alloc (.cells #[.bool true, .int .u64 (hi : Int), .int .u64 (lo : Int), .string ⟨#[]⟩, .string ⟨#[]⟩, .int .u32 0, .int .u32 0, .int .u32 0, .int .u32 0, .int .u32 0, .slice none 0 0, .string ⟨#[]⟩] 30)) := (Below.refl _ _).alloc (Nat.le_refl _) _
  have hl : Lies (w.alloc (.cells #[.bool true, .int .u64 (hi : Int), .int .u64 (lo : Int), .string ⟨#[]⟩, .string ⟨#[]⟩, .int .u32 0, .int .u32 0, .int .u32 0, .int .u32 0, .int .u32 0, .slice none 0 0, .string ⟨#[]⟩] 30)) w.heap.size 30 #[.bool true, .int .u64 (hi : Int), .int .u64 (lo : Int), .string ⟨#[]⟩, .string ⟨#[]⟩, .int .u32 0, .int .u32 0, .int .u32 0, .int .u32 0, .int .u32 0, .slice none 0 0, .string ⟨#[]⟩] := Lies.new _ _ _
  unfold dataV cellsD nilS
  go_enter Tryz.func87, Tryz.ntmps87
  go_wp2_with fail
  obtain ⟨W, hW⟩ : ∃ W, W = w.alloc (.cells #[.bool true, .int .u64 (hi : Int), .int .u64 (lo : Int), .string ⟨#[]⟩, .string ⟨#[]⟩, .int .u32 0, .int .u32 0, .int .u32 0, .int .u32 0, .int .u32 0, .slice none 0 0, .string ⟨#[]⟩] 30) := ⟨_, rfl⟩
  rw [← hW] at hB hl
  have hW2 : w.alloc (.cells #[.bool true, .int .u64 (hi : Int), .int .u64 (lo : Int), .string ⟨#[]⟩, .string ⟨#[]⟩, .int .u32 ((0 : Nat) : Int), .int .u32 ((0 : Nat) : Int), .int .u32 ((0 : Nat) : Int), .int .u32 ((0 : Nat) : Int), .int .u32 ((0 : Nat) : Int), .slice none 0 0, .string ⟨#[]⟩] 30) = W := hW.symm
  first | rw [hW2] | rw [← hW]
  clear hW hW2
  refine (HH.out _).mono ?_
  rintro e w1 ⟨rfl, hb⟩
  have hl1 := (hl.next hb).alloc (.cells (hasC true false false false false 0 0) 93)
  have hh1 := Lies.new w1 93 (hasC true false false false false 0 0)
  have hb1 := (hB.trans (hb.mono hB.size)).alloc (hB.trans (hb.mono hB.size)).size (.cells (hasC true false false false false 0 0) 93)
  go_upto_region 4 with (fail)
  obtain ⟨w2, hw2⟩ : ∃ x, x = w1.alloc (.cells (hasC true false false false false 0 0) 93) := ⟨_, rfl⟩
  rw [← hw2] at hl1 hh1 hb1
  have hw3 : w1.alloc (.cells #[.bool true, .bool false, .bool false, .bool false, .bool false, .int .i64 0, .int .i64 0] 93) = w2 := hw2.symm
  first | rw [hw3] | rw [← hw2]
  obtain ⟨g, hg⟩ : ∃ x, x = w1.heap.size := ⟨_, rfl⟩
  rw [← hg] at hh1 ⊢
  clear hw2 hw3 hg
  have HB := Lib.hid hb1
  have x0 := hl1.cell 0
  have x1 := hl1.cell 1
  have x2 := hl1.cell 2
  have x3 := hl1.cell 3
  have x4 := hl1.cell 4
  have x5 := hl1.cell 5
  have x6 := hl1.cell 6
  have x7 := hl1.cell 7
  have x8 := hl1.cell 8
  have x9 := hl1.cell 9
  have x10 := hl1.cell 10
  have x11 := hl1.cell 11
  have h0 := hh1.cell 0
  have h1 := hh1.cell 1
  have h2 := hh1.cell 2
  have h3 := hh1.cell 3
  have h4 := hh1.cell 4
  have h5 := hh1.cell 5
  have h6 := hh1.cell 6
  have HL := Lib.hid hl1
  have HG := Lib.hid hh1
  clear hl hl1 hh1 hb1 hb hB HH
  simp at x0 x1 x2 x3 x4 x5 x6 x7 x8 x9 x10 x11 h0 h1 h2 h3 h4 h5 h6
  go_upto_region 6 with (fail)
  go_wp2_with fail
  refine (HC.out _).mono ?_
  rintro e w3 ⟨rfl, hb3⟩
  have HB3 := Lib.hid (HB.out.trans (hb3.mono HB.out.size))
  have hl1 := HL.out.next hb3
  have hh1 := HG.out.next hb3
  clear x0 x1 x2 x3 x4 x5 x6 x7 x8 x9 x10 x11 h0 h1 h2 h3 h4 h5 h6
  have x0 := hl1.cell 0
  have x1 := hl1.cell 1
  have x2 := hl1.cell 2
  have x3 := hl1.cell 3
  have x4 := hl1.cell 4
  have x5 := hl1.cell 5
  have x6 := hl1.cell 6
  have x7 := hl1.cell 7
  have x8 := hl1.cell 8
  have x9 := hl1.cell 9
  have x10 := hl1.cell 10
  have x11 := hl1.cell 11
  have h0 := hh1.cell 0
  have h1 := hh1.cell 1
  have h2 := hh1.cell 2
  have h3 := hh1.cell 3
  have h4 := hh1.cell 4
  have h5 := hh1.cell 5
  have h6 := hh1.cell 6
  clear hl1 hh1 hb3
  simp at x0 x1 x2 x3 x4 x5 x6 x7 x8 x9 x10 x11 h0 h1 h2 h3 h4 h5 h6
  go_wp2
  go_loop [6] (fun i => ∃ k : Nat, i = .int .i64 k ∧ k ≤ 5) (fun i => 5 - (intOf i).toNat)
  case atStart => exact ⟨0, rfl, by omega⟩
  case round =>
    obtain ⟨k, rfl, hk⟩ := hrel
    obtain rfl | rfl | rfl | rfl | rfl | rfl : k = 0 ∨ k = 1 ∨ k = 2 ∨ k = 3 ∨ k = 4 ∨ k = 5 := by omega
    · go_wp2
      go_round
      case rel => exact ⟨1, by go_num, by omega⟩
      case measure => simp [intOf]
    · go_wp2
      go_round
      case rel => exact ⟨2, by go_num, by omega⟩
      case measure => simp [intOf]
    · go_wp2
      go_round
      case rel => exact ⟨3, by go_num, by omega⟩
      case measure => simp [intOf]
    · go_wp2
      go_round
      case rel => exact ⟨4, by go_num, by omega⟩
      case measure => simp [intOf]
    · go_wp2
      go_round
      case rel => exact ⟨5, by go_num, by omega⟩
      case measure => simp [intOf]
    · go_wp2_with (go_at_call 60; (first | (with_reducible refine (HN.out _).mono ?_) | (with_reducible refine (HM.out _).mono ?_)); rintro e w' ⟨rfl, rfl⟩)
      go_loop [7, 8] (fun v i => v = .int .i64 0 ∧ i = .int .i64 0) (fun _ _ => 0)
      case atStart => exact ⟨rfl, rfl⟩
      case round =>
        obtain ⟨rfl, rfl⟩ := hrel
        go_wp2
        go_ret
        exact ⟨rfl, HB3.out⟩
set_option maxHeartbeats 4000000 in
theorem refCheck_name (t : Int) (n : ByteArray) (ht0 : 0 ≤ t) (ht1 : t ≤ 65535) (hta : t ≠ 1 ∧ t ≠ 28) (hn : chkN (bs n) = 0) (hh : ∀ wx, Calls Tryz.prog 43 #[.int .i64 t] wx (Told wx (.agg (hasC false true false false false 0 0)))) (w : World) :
    Calls Tryz.prog 87 #[.int .i64 t, dataV ⟨false, 0, 0, n, ⟨#[]⟩, 0, 0, 0, 0, 0, [], ⟨#[]⟩⟩ nilS] w (Told w (.int .i64 0)) := by
  have HH := Lib.hid hh
  have HN : Hid (∀ wx, Calls Tryz.prog 60 #[.string n] wx fun e w' => e = .returned (.int .i64 0) ∧ wx = w') := Lib.hid fun wx => rn_zero hn wx
  have HM : Hid (∀ wx, Calls Tryz.prog 60 #[.string ⟨#[]⟩] wx fun e w' => e = .returned (.int .i64 0) ∧ wx = w') := Lib.hid fun wx => rn_none wx
  have d0 : decide (t < 0) = false := decide_eq_false (by omega)
  have d1 : decide (65535 < t) = false := decide_eq_false (by omega)
  clear hh hn
  have hB : Below w.heap.size w (w.alloc (.cells #[.bool false, .int .u64 0, .int .u64 0, .string n, .string ⟨#[]⟩, .int .u32 0, .int .u32 0, .int .u32 0, .int .u32 0, .int .u32 0, .slice none 0 0, .string ⟨#[]⟩] 30)) := (Below.refl _ _).alloc (Nat.le_refl _) _
  have hl : Lies (w.alloc (.cells #[.bool false, .int .u64 0, .int .u64 0, .string n, .string ⟨#[]⟩, .int .u32 0, .int .u32 0, .int .u32 0, .int .u32 0, .int .u32 0, .slice none 0 0, .string ⟨#[]⟩] 30)) w.heap.size 30 #[.bool false, .int .u64 0, .int .u64 0, .string n, .string ⟨#[]⟩, .int .u32 0, .int .u32 0, .int .u32 0, .int .u32 0, .int .u32 0, .slice none 0 0, .string ⟨#[]⟩] := Lies.new _ _ _
  unfold dataV cellsD nilS
  go_enter Tryz.func87, Tryz.ntmps87
  go_wp2_with fail
  obtain ⟨W, hW⟩ : ∃ W, W = w.alloc (.cells #[.bool false, .int .u64 0, .int .u64 0, .string n, .string ⟨#[]⟩, .int .u32 0, .int .u32 0, .int .u32 0, .int .u32 0, .int .u32 0, .slice none 0 0, .string ⟨#[]⟩] 30) := ⟨_, rfl⟩
  rw [← hW] at hB hl
  have hW2 : w.alloc (.cells #[.bool false, .int .u64 ((0 : Nat) : Int), .int .u64 ((0 : Nat) : Int), .string n, .string ⟨#[]⟩, .int .u32 ((0 : Nat) : Int), .int .u32 ((0 : Nat) : Int), .int .u32 ((0 : Nat) : Int), .int .u32 ((0 : Nat) : Int), .int .u32 ((0 : Nat) : Int), .slice none 0 0, .string ⟨#[]⟩] 30) = W := hW.symm
  first | rw [hW2] | rw [← hW]
  clear hW hW2
  refine (HH.out _).mono ?_
  rintro e w1 ⟨rfl, hb⟩
  have hl1 := (hl.next hb).alloc (.cells (hasC false true false false false 0 0) 93)
  have hh1 := Lies.new w1 93 (hasC false true false false false 0 0)
  have hb1 := (hB.trans (hb.mono hB.size)).alloc (hB.trans (hb.mono hB.size)).size (.cells (hasC false true false false false 0 0) 93)
  go_upto_region 4 with (fail)
  obtain ⟨w2, hw2⟩ : ∃ x, x = w1.alloc (.cells (hasC false true false false false 0 0) 93) := ⟨_, rfl⟩
  rw [← hw2] at hl1 hh1 hb1
  have hw3 : w1.alloc (.cells #[.bool false, .bool true, .bool false, .bool false, .bool false, .int .i64 0, .int .i64 0] 93) = w2 := hw2.symm
  first | rw [hw3] | rw [← hw2]
  obtain ⟨g, hg⟩ : ∃ x, x = w1.heap.size := ⟨_, rfl⟩
  rw [← hg] at hh1 ⊢
  clear hw2 hw3 hg
  have HB := Lib.hid hb1
  have x0 := hl1.cell 0
  have x1 := hl1.cell 1
  have x2 := hl1.cell 2
  have x3 := hl1.cell 3
  have x4 := hl1.cell 4
  have x5 := hl1.cell 5
  have x6 := hl1.cell 6
  have x7 := hl1.cell 7
  have x8 := hl1.cell 8
  have x9 := hl1.cell 9
  have x10 := hl1.cell 10
  have x11 := hl1.cell 11
  have h0 := hh1.cell 0
  have h1 := hh1.cell 1
  have h2 := hh1.cell 2
  have h3 := hh1.cell 3
  have h4 := hh1.cell 4
  have h5 := hh1.cell 5
  have h6 := hh1.cell 6
  have ha := ad_none w2
  clear hl hl1 hh1 hb1 hb hB HH
  simp at x0 x1 x2 x3 x4 x5 x6 x7 x8 x9 x10 x11 h0 h1 h2 h3 h4 h5 h6
  go_wp2
  clear ha
  go_loop [6] (fun i => ∃ k : Nat, i = .int .i64 k ∧ k ≤ 5) (fun i => 5 - (intOf i).toNat)
  case atStart => exact ⟨0, rfl, by omega⟩
  case round =>
    obtain ⟨k, rfl, hk⟩ := hrel
    obtain rfl | rfl | rfl | rfl | rfl | rfl : k = 0 ∨ k = 1 ∨ k = 2 ∨ k = 3 ∨ k = 4 ∨ k = 5 := by omega
    · go_wp2
      go_round
      case rel => exact ⟨1, by go_num, by omega⟩
      case measure => simp [intOf]
    · go_wp2
      go_round
      case rel => exact ⟨2, by go_num, by omega⟩
      case measure => simp [intOf]
    · go_wp2
      go_round
      case rel => exact ⟨3, by go_num, by omega⟩
      case measure => simp [intOf]
    · go_wp2
      go_round
      case rel => exact ⟨4, by go_num, by omega⟩
      case measure => simp [intOf]
    · go_wp2
      go_round
      case rel => exact ⟨5, by go_num, by omega⟩
      case measure => simp [intOf]
    · go_wp2_with (go_at_call 60; (first | (with_reducible refine (HN.out _).mono ?_) | (with_reducible refine (HM.out _).mono ?_)); rintro e w' ⟨rfl, rfl⟩)
      go_loop [7, 8] (fun v i => v = .int .i64 0 ∧ i = .int .i64 0) (fun _ _ => 0)
      case atStart => exact ⟨rfl, rfl⟩
      case round =>
        obtain ⟨rfl, rfl⟩ := hrel
        go_wp2
        go_ret
        exact ⟨rfl, HB.out⟩
set_option maxHeartbeats 4000000 in
theorem refCheck_soa (n m : ByteArray) (v0 v1 v2 v3 v4 : Nat) (hn : chkN (bs n) = 0) (hm : chkN (bs m) = 0) (hh : ∀ wx, Calls Tryz.prog 43 #[.int .i64 6] wx (Told wx (.agg (hasC false true true false false 5 4)))) (w : World) :
    Calls Tryz.prog 87 #[.int .i64 6, dataV ⟨false, 0, 0, n, m, v0, v1, v2, v3, v4, [], ⟨#[]⟩⟩ nilS] w (Told w (.int .i64 0)) := by
  have HH := Lib.hid hh
  have HN : Hid (∀ wx, Calls Tryz.prog 60 #[.string n] wx fun e w' => e = .returned (.int .i64 0) ∧ wx = w') := Lib.hid fun wx => rn_zero hn wx
  have HM : Hid (∀ wx, Calls Tryz.prog 60 #[.string m] wx fun e w' => e = .returned (.int .i64 0) ∧ wx = w') := Lib.hid fun wx => rn_zero hm wx
  clear hh hn hm
  have hB : Below w.heap.size w (w.alloc (.cells #[.bool false, .int .u64 0, .int .u64 0, .string n, .string m, .int .u32 (v0 : Int), .int .u32 (v1 : Int), .int .u32 (v2 : Int), .int .u32 (v3 : Int), .int .u32 (v4 : Int), .slice none 0 0, .string ⟨#[]⟩] 30)) := (Below.refl _ _).alloc (Nat.le_refl _) _
  have hl : Lies (w.alloc (.cells #[.bool false, .int .u64 0, .int .u64 0, .string n, .string m, .int .u32 (v0 : Int), .int .u32 (v1 : Int), .int .u32 (v2 : Int), .int .u32 (v3 : Int), .int .u32 (v4 : Int), .slice none 0 0, .string ⟨#[]⟩] 30)) w.heap.size 30 #[.bool false, .int .u64 0, .int .u64 0, .string n, .string m, .int .u32 (v0 : Int), .int .u32 (v1 : Int), .int .u32 (v2 : Int), .int .u32 (v3 : Int), .int .u32 (v4 : Int), .slice none 0 0, .string ⟨#[]⟩] := Lies.new _ _ _
  unfold dataV cellsD nilS
  go_enter Tryz.func87, Tryz.ntmps87
  go_wp2_with fail
  obtain ⟨W, hW⟩ : ∃ W, W = w.alloc (.cells #[.bool false, .int .u64 0, .int .u64 0, .string n, .string m, .int .u32 (v0 : Int), .int .u32 (v1 : Int), .int .u32 (v2 : Int), .int .u32 (v3 : Int), .int .u32 (v4 : Int), .slice none 0 0, .string ⟨#[]⟩] 30) := ⟨_, rfl⟩
  rw [← hW] at hB hl
  have hW2 : w.alloc (.cells #[.bool false, .int .u64 ((0 : Nat) : Int), .int .u64 ((0 : Nat) : Int), .string n, .string m, .int .u32 (v0 : Int), .int .u32 (v1 : Int), .int .u32 (v2 : Int), .int .u32 (v3 : Int), .int .u32 (v4 : Int), .slice none 0 0, .string ⟨#[]⟩] 30) = W := hW.symm
  first | rw [hW2] | rw [← hW]
  clear hW hW2
  refine (HH.out _).mono ?_
  rintro e w1 ⟨rfl, hb⟩
  have hl1 := (hl.next hb).alloc (.cells (hasC false true true false false 5 4) 93)
  have hh1 := Lies.new w1 93 (hasC false true true false false 5 4)
  have hb1 := (hB.trans (hb.mono hB.size)).alloc (hB.trans (hb.mono hB.size)).size (.cells (hasC false true true false false 5 4) 93)
  go_upto_region 4 with (fail)
  obtain ⟨w2, hw2⟩ : ∃ x, x = w1.alloc (.cells (hasC false true true false false 5 4) 93) := ⟨_, rfl⟩
  rw [← hw2] at hl1 hh1 hb1
  have hw3 : w1.alloc (.cells #[.bool false, .bool true, .bool true, .bool false, .bool false, .int .i64 5, .int .i64 4] 93) = w2 := hw2.symm
  first | rw [hw3] | rw [← hw2]
  obtain ⟨g, hg⟩ : ∃ x, x = w1.heap.size := ⟨_, rfl⟩
  rw [← hg] at hh1 ⊢
  clear hw2 hw3 hg
  have HB := Lib.hid hb1
  have x0 := hl1.cell 0
  have x1 := hl1.cell 1
  have x2 := hl1.cell 2
  have x3 := hl1.cell 3
  have x4 := hl1.cell 4
  have x5 := hl1.cell 5
  have x6 := hl1.cell 6
  have x7 := hl1.cell 7
  have x8 := hl1.cell 8
  have x9 := hl1.cell 9
  have x10 := hl1.cell 10
  have x11 := hl1.cell 11
  have h0 := hh1.cell 0
  have h1 := hh1.cell 1
  have h2 := hh1.cell 2
  have h3 := hh1.cell 3
  have h4 := hh1.cell 4
  have h5 := hh1.cell 5
  have h6 := hh1.cell 6
  have ha := ad_none w2
  clear hl hl1 hh1 hb1 hb hB HH
  simp at x0 x1 x2 x3 x4 x5 x6 x7 x8 x9 x10 x11 h0 h1 h2 h3 h4 h5 h6
  go_wp2
  clear ha
  go_loop [6] (fun i => ∃ k : Nat, i = .int .i64 k ∧ k ≤ 5) (fun i => 5 - (intOf i).toNat)
  case atStart => exact ⟨0, rfl, by omega⟩
  case round =>
    obtain ⟨k, rfl, hk⟩ := hrel
    obtain rfl | rfl | rfl | rfl | rfl | rfl : k = 0 ∨ k = 1 ∨ k = 2 ∨ k = 3 ∨ k = 4 ∨ k = 5 := by omega
    · go_wp2
      go_round
      case rel => exact ⟨1, by go_num, by omega⟩
      case measure => simp [intOf]
    · go_wp2
      go_round
      case rel => exact ⟨2, by go_num, by omega⟩
      case measure => simp [intOf]
    · go_wp2
      go_round
      case rel => exact ⟨3, by go_num, by omega⟩
      case measure => simp [intOf]
    · go_wp2
      go_round
      case rel => exact ⟨4, by go_num, by omega⟩
      case measure => simp [intOf]
    · go_wp2
      go_round
      case rel => exact ⟨5, by go_num, by omega⟩
      case measure => simp [intOf]
    · go_wp2_with (go_at_call 60; (first | (with_reducible refine (HN.out _).mono ?_) | (with_reducible refine (HM.out _).mono ?_)); rintro e w' ⟨rfl, rfl⟩)
      go_loop [7, 8] (fun v i => v = .int .i64 0 ∧ i = .int .i64 0) (fun _ _ => 0)
      case atStart => exact ⟨rfl, rfl⟩
      case round =>
        obtain ⟨rfl, rfl⟩ := hrel
        go_wp2
        go_ret
        exact ⟨rfl, HB.out⟩
set_option maxHeartbeats 4000000 in
theorem refCheck_mx (n : ByteArray) (v0 : Nat) (hn : chkN (bs n) = 0) (h0 : v0 ≤ 65535) (hh : ∀ wx, Calls Tryz.prog 43 #[.int .i64 15] wx (Told wx (.agg (hasC false true false false false 1 2)))) (w : World) :
    Calls Tryz.prog 87 #[.int .i64 15, dataV ⟨false, 0, 0, n, ⟨#[]⟩, v0, 0, 0, 0, 0, [], ⟨#[]⟩⟩ nilS] w (Told w (.int .i64 0)) := by
  have HH := Lib.hid hh
  have HN : Hid (∀ wx, Calls Tryz.prog 60 #[.string n] wx fun e w' => e = .returned (.int .i64 0) ∧ wx = w') := Lib.hid fun wx => rn_zero hn wx
  have HM : Hid (∀ wx, Calls Tryz.prog 60 #[.string ⟨#[]⟩] wx fun e w' => e = .returned (.int .i64 0) ∧ wx = w') := Lib.hid fun wx => rn_none wx
  have b0 : (v0 : Int) ≤ 65535 := by omega
  clear hh hn
  have hB : Below w.heap.size w (w.alloc (.cells #[.bool false, .int .u64 0, .int .u64 0, .string n, .string ⟨#[]⟩, .int .u32 (v0 : Int), .int .u32 0, .int .u32 0, .int .u32 0, .int .u32 0, .slice none 0 0, .string ⟨#[]⟩] 30)) := (Below.refl _ _).alloc (Nat.le_refl _) _
  have hl : Lies (w.alloc (.cells #[.bool false, .int .u64 0, .int .u64 0, .string n, .string ⟨#[]⟩, .int .u32 (v0 : Int), .int .u32 0, .int .u32 0, .int .u32 0, .int .u32 0, .slice none 0 0, .string ⟨#[]⟩] 30)) w.heap.size 30 #[.bool false, .int .u64 0, .int .u64 0, .string n, .string ⟨#[]⟩, .int .u32 (v0 : Int), .int .u32 0, .int .u32 0, .int .u32 0, .int .u32 0, .slice none 0 0, .string ⟨#[]⟩] := Lies.new _ _ _
  unfold dataV cellsD nilS
  go_enter Tryz.func87, Tryz.ntmps87
  go_wp2_with fail
  obtain ⟨W, hW⟩ : ∃ W, W = w.alloc (.cells #[.bool false, .int .u64 0, .int .u64 0, .string n, .string ⟨#[]⟩, .int .u32 (v0 : Int), .int .u32 0, .int .u32 0, .int .u32 0, .int .u32 0, .slice none 0 0, .string ⟨#[]⟩] 30) := ⟨_, rfl⟩
  rw [← hW] at hB hl
  have hW2 : w.alloc (.cells #[.bool false, .int .u64 ((0 : Nat) : Int), .int .u64 ((0 : Nat) : Int), .string n, .string ⟨#[]⟩, .int .u32 (v0 : Int), .int .u32 ((0 : Nat) : Int), .int .u32 ((0 : Nat) : Int), .int .u32 ((0 : Nat) : Int), .int .u32 ((0 : Nat) : Int), .slice none 0 0, .string ⟨#[]⟩] 30) = W := hW.symm
  first | rw [hW2] | rw [← hW]
  clear hW hW2
  refine (HH.out _).mono ?_
  rintro e w1 ⟨rfl, hb⟩
  have hl1 := (hl.next hb).alloc (.cells (hasC false true false false false 1 2) 93)
  have hh1 := Lies.new w1 93 (hasC false true false false false 1 2)
  have hb1 := (hB.trans (hb.mono hB.size)).alloc (hB.trans (hb.mono hB.size)).size (.cells (hasC false true false false false 1 2) 93)
  go_upto_region 4 with (fail)
  obtain ⟨w2, hw2⟩ : ∃ x, x = w1.alloc (.cells (hasC false true false false false 1 2) 93) := ⟨_, rfl⟩
  rw [← hw2] at hl1 hh1 hb1
  have hw3 : w1.alloc (.cells #[.bool false, .bool true, .bool false, .bool false, .bool false, .int .i64 1, .int .i64 2] 93) = w2 := hw2.symm
  first | rw [hw3] | rw [← hw2]
  obtain ⟨g, hg⟩ : ∃ x, x = w1.heap.size := ⟨_, rfl⟩
  rw [← hg] at hh1 ⊢
  clear hw2 hw3 hg
  have HB := Lib.hid hb1
  have x0 := hl1.cell 0
  have x1 := hl1.cell 1
  have x2 := hl1.cell 2
  have x3 := hl1.cell 3
  have x4 := hl1.cell 4
  have x5 := hl1.cell 5
  have x6 := hl1.cell 6
  have x7 := hl1.cell 7
  have x8 := hl1.cell 8
  have x9 := hl1.cell 9
  have x10 := hl1.cell 10
  have x11 := hl1.cell 11
  have h0 := hh1.cell 0
  have h1 := hh1.cell 1
  have h2 := hh1.cell 2
  have h3 := hh1.cell 3
  have h4 := hh1.cell 4
  have h5 := hh1.cell 5
  have h6 := hh1.cell 6
  have ha := ad_none w2
  clear hl hl1 hh1 hb1 hb hB HH
  simp at x0 x1 x2 x3 x4 x5 x6 x7 x8 x9 x10 x11 h0 h1 h2 h3 h4 h5 h6
  go_wp2
  clear ha
  go_loop [6] (fun i => ∃ k : Nat, i = .int .i64 k ∧ k ≤ 5) (fun i => 5 - (intOf i).toNat)
  case atStart => exact ⟨0, rfl, by omega⟩
  case round =>
    obtain ⟨k, rfl, hk⟩ := hrel
    obtain rfl | rfl | rfl | rfl | rfl | rfl : k = 0 ∨ k = 1 ∨ k = 2 ∨ k = 3 ∨ k = 4 ∨ k = 5 := by omega
    · go_wp2
      go_round
      case rel => exact ⟨1, by go_num, by omega⟩
      case measure => simp [intOf]
    · go_wp2
      go_round
      case rel => exact ⟨2, by go_num, by omega⟩
      case measure => simp [intOf]
    · go_wp2
      go_round
      case rel => exact ⟨3, by go_num, by omega⟩
      case measure => simp [intOf]
    · go_wp2
      go_round
      case rel => exact ⟨4, by go_num, by omega⟩
      case measure => simp [intOf]
    · go_wp2
      go_round
      case rel => exact ⟨5, by go_num, by omega⟩
      case measure => simp [intOf]
    · go_wp2_with (go_at_call 60; (first | (with_reducible refine (HN.out _).mono ?_) | (with_reducible refine (HM.out _).mono ?_)); rintro e w' ⟨rfl, rfl⟩)
      go_loop [7, 8] (fun v i => v = .int .i64 0 ∧ i = .int .i64 0) (fun _ _ => 0)
      case atStart => exact ⟨rfl, rfl⟩
      case round =>
        obtain ⟨rfl, rfl⟩ := hrel
        go_wp2
        go_ret
        exact ⟨rfl, HB.out⟩
set_option maxHeartbeats 4000000 in
theorem refCheck_srv (n : ByteArray) (v0 v1 v2 : Nat) (hn : chkN (bs n) = 0) (h0 : v0 ≤ 65535) (h1 : v1 ≤ 65535) (h2 : v2 ≤ 65535) (hh : ∀ wx, Calls Tryz.prog 43 #[.int .i64 33] wx (Told wx (.agg (hasC false true false false false 3 2)))) (w : World) :
    Calls Tryz.prog 87 #[.int .i64 33, dataV ⟨false, 0, 0, n, ⟨#[]⟩, v0, v1, v2, 0, 0, [], ⟨#[]⟩⟩ nilS] w (Told w (.int .i64 0)) := by
  have HH := Lib.hid hh
  have HN : Hid (∀ wx, Calls Tryz.prog 60 #[.string n] wx fun e w' => e = .returned (.int .i64 0) ∧ wx = w') := Lib.hid fun wx => rn_zero hn wx
  have HM : Hid (∀ wx, Calls Tryz.prog 60 #[.string ⟨#[]⟩] wx fun e w' => e = .returned (.int .i64 0) ∧ wx = w') := Lib.hid fun wx => rn_none wx
  have b0 : (v0 : Int) ≤ 65535 := by omega
  have b1 : (v1 : Int) ≤ 65535 := by omega
  have b2 : (v2 : Int) ≤ 65535 := by omega
  clear hh hn
  have hB : Below w.heap.size w (w.alloc (.cells #[.bool false, .int .u64 0, .int .u64 0, .string n, .string ⟨#[]⟩, .int .u32 (v0 : Int), .int .u32 (v1 : Int), .int .u32 (v2 : Int), .int .u32 0, .int .u32 0, .slice none 0 0, .string ⟨#[]⟩] 30)) := (Below.refl _ _).alloc (Nat.le_refl _) _
  have hl : Lies (w.alloc (.cells #[.bool false, .int .u64 0, .int .u64 0, .string n, .string ⟨#[]⟩, .int .u32 (v0 : Int), .int .u32 (v1 : Int), .int .u32 (v2 : Int), .int .u32 0, .int .u32 0, .slice none 0 0, .string ⟨#[]⟩] 30)) w.heap.size 30 #[.bool false, .int .u64 0, .int .u64 0, .string n, .string ⟨#[]⟩, .int .u32 (v0 : Int), .int .u32 (v1 : Int), .int .u32 (v2 : Int), .int .u32 0, .int .u32 0, .slice none 0 0, .string ⟨#[]⟩] := Lies.new _ _ _
  unfold dataV cellsD nilS
  go_enter Tryz.func87, Tryz.ntmps87
  go_wp2_with fail
  obtain ⟨W, hW⟩ : ∃ W, W = w.alloc (.cells #[.bool false, .int .u64 0, .int .u64 0, .string n, .string ⟨#[]⟩, .int .u32 (v0 : Int), .int .u32 (v1 : Int), .int .u32 (v2 : Int), .int .u32 0, .int .u32 0, .slice none 0 0, .string ⟨#[]⟩] 30) := ⟨_, rfl⟩
  rw [← hW] at hB hl
  have hW2 : w.alloc (.cells #[.bool false, .int .u64 ((0 : Nat) : Int), .int .u64 ((0 : Nat) : Int), .string n, .string ⟨#[]⟩, .int .u32 (v0 : Int), .int .u32 (v1 : Int), .int .u32 (v2 : Int), .int .u32 ((0 : Nat) : Int), .int .u32 ((0 : Nat) : Int), .slice none 0 0, .string ⟨#[]⟩] 30) = W := hW.symm
  first | rw [hW2] | rw [← hW]
  clear hW hW2
  refine (HH.out _).mono ?_
  rintro e w1 ⟨rfl, hb⟩
  have hl1 := (hl.next hb).alloc (.cells (hasC false true false false false 3 2) 93)
  have hh1 := Lies.new w1 93 (hasC false true false false false 3 2)
  have hb1 := (hB.trans (hb.mono hB.size)).alloc (hB.trans (hb.mono hB.size)).size (.cells (hasC false true false false false 3 2) 93)
  go_upto_region 4 with (fail)
  obtain ⟨w2, hw2⟩ : ∃ x, x = w1.alloc (.cells (hasC false true false false false 3 2) 93) := ⟨_, rfl⟩
  rw [← hw2] at hl1 hh1 hb1
  have hw3 : w1.alloc (.cells #[.bool false, .bool true, .bool false, .bool false, .bool false, .int .i64 3, .int .i64 2] 93) = w2 := hw2.symm
  first | rw [hw3] | rw [← hw2]
  obtain ⟨g, hg⟩ : ∃ x, x = w1.heap.size := ⟨_, rfl⟩
  rw [← hg] at hh1 ⊢
  clear hw2 hw3 hg
  have HB := Lib.hid hb1
  have x0 := hl1.cell 0
  have x1 := hl1.cell 1
  have x2 := hl1.cell 2
  have x3 := hl1.cell 3
  have x4 := hl1.cell 4
  have x5 := hl1.cell 5
  have x6 := hl1.cell 6
  have x7 := hl1.cell 7
  have x8 := hl1.cell 8
  have x9 := hl1.cell 9
  have x10 := hl1.cell 10
  have x11 := hl1.cell 11
  have h0 := hh1.cell 0
  have h1 := hh1.cell 1
  have h2 := hh1.cell 2
  have h3 := hh1.cell 3
  have h4 := hh1.cell 4
  have h5 := hh1.cell 5
  have h6 := hh1.cell 6
  have ha := ad_none w2
  clear hl hl1 hh1 hb1 hb hB HH
  simp at x0 x1 x2 x3 x4 x5 x6 x7 x8 x9 x10 x11 h0 h1 h2 h3 h4 h5 h6
  go_wp2
  clear ha
  go_loop [6] (fun i => ∃ k : Nat, i = .int .i64 k ∧ k ≤ 5) (fun i => 5 - (intOf i).toNat)
  case atStart => exact ⟨0, rfl, by omega⟩
  case round =>
    obtain ⟨k, rfl, hk⟩ := hrel
    obtain rfl | rfl | rfl | rfl | rfl | rfl : k = 0 ∨ k = 1 ∨ k = 2 ∨ k = 3 ∨ k = 4 ∨ k = 5 := by omega
    · go_wp2
      go_round
      case rel => exact ⟨1, by go_num, by omega⟩
      case measure => simp [intOf]
    · go_wp2
      go_round
      case rel => exact ⟨2, by go_num, by omega⟩
      case measure => simp [intOf]
    · go_wp2
      go_round
      case rel => exact ⟨3, by go_num, by omega⟩
      case measure => simp [intOf]
    · go_wp2
      go_round
      case rel => exact ⟨4, by go_num, by omega⟩
      case measure => simp [intOf]
    · go_wp2
      go_round
      case rel => exact ⟨5, by go_num, by omega⟩
      case measure => simp [intOf]
    · go_wp2_with (go_at_call 60; (first | (with_reducible refine (HN.out _).mono ?_) | (with_reducible refine (HM.out _).mono ?_)); rintro e w' ⟨rfl, rfl⟩)
      go_loop [7, 8] (fun v i => v = .int .i64 0 ∧ i = .int .i64 0) (fun _ _ => 0)
      case atStart => exact ⟨rfl, rfl⟩
      case round =>
        obtain ⟨rfl, rfl⟩ := hrel
        go_wp2
        go_ret
        exact ⟨rfl, HB.out⟩
set_option maxHeartbeats 4000000 in
theorem refCheck_raw (t : Int) (r : ByteArray) (ht0 : 0 ≤ t) (ht1 : t ≤ 65535) (hta : t ≠ 1 ∧ t ≠ 28) (hr : r.size ≤ 65535) (hh : ∀ wx, Calls Tryz.prog 43 #[.int .i64 t] wx (Told wx (.agg (hasC false false false false true 0 0)))) (w : World) :
    Calls Tryz.prog 87 #[.int .i64 t, dataV ⟨false, 0, 0, ⟨#[]⟩, ⟨#[]⟩, 0, 0, 0, 0, 0, [], r⟩ nilS] w (Told w (.int .i64 0)) := by
  have HH := Lib.hid hh
  have HN : Hid (∀ wx, Calls Tryz.prog 60 #[.string ⟨#[]⟩] wx fun e w' => e = .returned (.int .i64 0) ∧ wx = w') := Lib.hid fun wx => rn_none wx
  have HM : Hid (∀ wx, Calls Tryz.prog 60 #[.string ⟨#[]⟩] wx fun e w' => e = .returned (.int .i64 0) ∧ wx = w') := Lib.hid fun wx => rn_none wx
  have d0 : decide (t < 0) = false := decide_eq_false (by omega)
  have d1 : decide (65535 < t) = false := decide_eq_false (by omega)
  clear hh
  have hB : Below w.heap.size w (w.alloc (.cells #[.bool false, .int .u64 0, .int .u64 0, .string ⟨#[]⟩, .string ⟨#[]⟩, .int .u32 0, .int .u32 0, .int .u32 0, .int .u32 0, .int .u32 0, .slice none 0 0, .string r] 30)) := (Below.refl _ _).alloc (Nat.le_refl _) _
  have hl : Lies (w.alloc (.cells #[.bool false, .int .u64 0, .int .u64 0, .string ⟨#[]⟩, .string ⟨#[]⟩, .int .u32 0, .int .u32 0, .int .u32 0, .int .u32 0, .int .u32 0, .slice none 0 0, .string r] 30)) w.heap.size 30 #[.bool false, .int .u64 0, .int .u64 0, .string ⟨#[]⟩, .string ⟨#[]⟩, .int .u32 0, .int .u32 0, .int .u32 0, .int .u32 0, .int .u32 0, .slice none 0 0, .string r] := Lies.new _ _ _
  unfold dataV cellsD nilS
  go_enter Tryz.func87, Tryz.ntmps87
  go_wp2_with fail
  obtain ⟨W, hW⟩ : ∃ W, W = w.alloc (.cells #[.bool false, .int .u64 0, .int .u64 0, .string ⟨#[]⟩, .string ⟨#[]⟩, .int .u32 0, .int .u32 0, .int .u32 0, .int .u32 0, .int .u32 0, .slice none 0 0, .string r] 30) := ⟨_, rfl⟩
  rw [← hW] at hB hl
  have hW2 : w.alloc (.cells #[.bool false, .int .u64 ((0 : Nat) : Int), .int .u64 ((0 : Nat) : Int), .string ⟨#[]⟩, .string ⟨#[]⟩, .int .u32 ((0 : Nat) : Int), .int .u32 ((0 : Nat) : Int), .int .u32 ((0 : Nat) : Int), .int .u32 ((0 : Nat) : Int), .int .u32 ((0 : Nat) : Int), .slice none 0 0, .string r] 30) = W := hW.symm
  first | rw [hW2] | rw [← hW]
  clear hW hW2
  refine (HH.out _).mono ?_
  rintro e w1 ⟨rfl, hb⟩
  have hl1 := (hl.next hb).alloc (.cells (hasC false false false false true 0 0) 93)
  have hh1 := Lies.new w1 93 (hasC false false false false true 0 0)
  have hb1 := (hB.trans (hb.mono hB.size)).alloc (hB.trans (hb.mono hB.size)).size (.cells (hasC false false false false true 0 0) 93)
  go_upto_region 4 with (fail)
  obtain ⟨w2, hw2⟩ : ∃ x, x = w1.alloc (.cells (hasC false false false false true 0 0) 93) := ⟨_, rfl⟩
  rw [← hw2] at hl1 hh1 hb1
  have hw3 : w1.alloc (.cells #[.bool false, .bool false, .bool false, .bool false, .bool true, .int .i64 0, .int .i64 0] 93) = w2 := hw2.symm
  first | rw [hw3] | rw [← hw2]
  obtain ⟨g, hg⟩ : ∃ x, x = w1.heap.size := ⟨_, rfl⟩
  rw [← hg] at hh1 ⊢
  clear hw2 hw3 hg
  have HB := Lib.hid hb1
  have x0 := hl1.cell 0
  have x1 := hl1.cell 1
  have x2 := hl1.cell 2
  have x3 := hl1.cell 3
  have x4 := hl1.cell 4
  have x5 := hl1.cell 5
  have x6 := hl1.cell 6
  have x7 := hl1.cell 7
  have x8 := hl1.cell 8
  have x9 := hl1.cell 9
  have x10 := hl1.cell 10
  have x11 := hl1.cell 11
  have h0 := hh1.cell 0
  have h1 := hh1.cell 1
  have h2 := hh1.cell 2
  have h3 := hh1.cell 3
  have h4 := hh1.cell 4
  have h5 := hh1.cell 5
  have h6 := hh1.cell 6
  have ha := ad_none w2
  clear hl hl1 hh1 hb1 hb hB HH
  simp at x0 x1 x2 x3 x4 x5 x6 x7 x8 x9 x10 x11 h0 h1 h2 h3 h4 h5 h6
  go_wp2
  clear ha
  go_loop [6] (fun i => ∃ k : Nat, i = .int .i64 k ∧ k ≤ 5) (fun i => 5 - (intOf i).toNat)
  case atStart => exact ⟨0, rfl, by omega⟩
  case round =>
    obtain ⟨k, rfl, hk⟩ := hrel
    obtain rfl | rfl | rfl | rfl | rfl | rfl : k = 0 ∨ k = 1 ∨ k = 2 ∨ k = 3 ∨ k = 4 ∨ k = 5 := by omega
    · go_wp2
      go_round
      case rel => exact ⟨1, by go_num, by omega⟩
      case measure => simp [intOf]
    · go_wp2
      go_round
      case rel => exact ⟨2, by go_num, by omega⟩
      case measure => simp [intOf]
    · go_wp2
      go_round
      case rel => exact ⟨3, by go_num, by omega⟩
      case measure => simp [intOf]
    · go_wp2
      go_round
      case rel => exact ⟨4, by go_num, by omega⟩
      case measure => simp [intOf]
    · go_wp2
      go_round
      case rel => exact ⟨5, by go_num, by omega⟩
      case measure => simp [intOf]
    · go_wp2_with (go_at_call 60; (first | (with_reducible refine (HN.out _).mono ?_) | (with_reducible refine (HM.out _).mono ?_)); rintro e w' ⟨rfl, rfl⟩)
      go_loop [7, 8] (fun v i => v = .int .i64 0 ∧ i = .int .i64 0) (fun _ _ => 0)
      case atStart => exact ⟨rfl, rfl⟩
      case round =>
        obtain ⟨rfl, rfl⟩ := hrel
        go_wp2
        go_ret
        exact ⟨rfl, HB.out⟩
set_option maxHeartbeats 4000000 in
theorem refSize_a4 (lo : Nat) (hlo : lo < 4294967296) (hh : ∀ wx, Calls Tryz.prog 43 #[.int .i64 1] wx (Told wx (.agg (hasC true false false false false 0 0)))) (w : World) :
    Calls Tryz.prog 88 #[.int .i64 1, dataV ⟨false, 0, lo, ⟨#[]⟩, ⟨#[]⟩, 0, 0, 0, 0, 0, [], ⟨#[]⟩⟩ nilS] w (Told w (.int .i64 ((4 : Nat) : Int))) := by
  have HH := Lib.hid hh
  clear hh
  have hB : Below w.heap.size w (w.alloc (.cells #[.bool false, .int .u64 0, .int .u64 (lo : Int), .string ⟨#[]⟩, .string ⟨#[]⟩, .int .u32 0, .int .u32 0, .int .u32 0, .int .u32 0, .int .u32 0, .slice none 0 0, .string ⟨#[]⟩] 30)) := (Below.refl _ _).alloc (Nat.le_refl _) _
  have hl : Lies (w.alloc (.cells #[.bool false, .int .u64 0, .int .u64 (lo : Int), .string ⟨#[]⟩, .string ⟨#[]⟩, .int .u32 0, .int .u32 0, .int .u32 0, .int .u32 0, .int .u32 0, .slice none 0 0, .string ⟨#[]⟩] 30)) w.heap.size 30 #[.bool false, .int .u64 0, .int .u64 (lo : Int), .string ⟨#[]⟩, .string ⟨#[]⟩, .int .u32 0, .int .u32 0, .int .u32 0, .int .u32 0, .int .u32 0, .slice none 0 0, .string ⟨#[]⟩] := Lies.new _ _ _
  unfold dataV cellsD nilS
  go_enter Tryz.func88, Tryz.ntmps88
  go_wp2_with fail
  obtain ⟨W, hW⟩ : ∃ W, W = w.alloc (.cells #[.bool false, .int .u64 0, .int .u64 (lo : Int), .string ⟨#[]⟩, .string ⟨#[]⟩, .int .u32 0, .int .u32 0, .int .u32 0, .int .u32 0, .int .u32 0, .slice none 0 0, .string ⟨#[]⟩] 30) := ⟨_, rfl⟩
  rw [← hW] at hB hl
  have hW2 : w.alloc (.cells #[.bool false, .int .u64 ((0 : Nat) : Int), .int .u64 (lo : Int), .string ⟨#[]⟩, .string ⟨#[]⟩, .int .u32 ((0 : Nat) : Int), .int .u32 ((0 : Nat) : Int), .int .u32 ((0 : Nat) : Int), .int .u32 ((0 : Nat) : Int), .int .u32 ((0 : Nat) : Int), .slice none 0 0, .string ⟨#[]⟩] 30) = W := hW.symm
  first | rw [hW2] | rw [← hW]
  clear hW hW2
  refine (HH.out _).mono ?_
  rintro e w1 ⟨rfl, hb⟩
  have hl1 := (hl.next hb).alloc (.cells (hasC true false false false false 0 0) 93)
  have hh1 := Lies.new w1 93 (hasC true false false false false 0 0)
  have hb1 := (hB.trans (hb.mono hB.size)).alloc (hB.trans (hb.mono hB.size)).size (.cells (hasC true false false false false 0 0) 93)
  go_upto_region 2 with (fail)
  obtain ⟨w2, hw2⟩ : ∃ x, x = w1.alloc (.cells (hasC true false false false false 0 0) 93) := ⟨_, rfl⟩
  rw [← hw2] at hl1 hh1 hb1
  have hw3 : w1.alloc (.cells #[.bool true, .bool false, .bool false, .bool false, .bool false, .int .i64 0, .int .i64 0] 93) = w2 := hw2.symm
  first | rw [hw3] | rw [← hw2]
  obtain ⟨g, hg⟩ : ∃ x, x = w1.heap.size := ⟨_, rfl⟩
  rw [← hg] at hh1 ⊢
  clear hw2 hw3 hg
  have HB := Lib.hid hb1
  have x0 := hl1.cell 0
  have x1 := hl1.cell 1
  have x2 := hl1.cell 2
  have x3 := hl1.cell 3
  have x4 := hl1.cell 4
  have x5 := hl1.cell 5
  have x6 := hl1.cell 6
  have x7 := hl1.cell 7
  have x8 := hl1.cell 8
  have x9 := hl1.cell 9
  have x10 := hl1.cell 10
  have x11 := hl1.cell 11
  have h0 := hh1.cell 0
  have h1 := hh1.cell 1
  have h2 := hh1.cell 2
  have h3 := hh1.cell 3
  have h4 := hh1.cell 4
  have h5 := hh1.cell 5
  have h6 := hh1.cell 6
  clear hl hl1 hh1 hb1 hb hB HH
  simp at x0 x1 x2 x3 x4 x5 x6 x7 x8 x9 x10 x11 h0 h1 h2 h3 h4 h5 h6
  go_wp2
  go_loop [6, 7] (fun v i => v = .int .i64 ((4 : Nat) : Int) ∧ i = .int .i64 0) (fun _ _ => 0)
  case atStart => exact ⟨ival (by first | rfl | omega | (simp; omega)), rfl⟩
  case round =>
    obtain ⟨rfl, rfl⟩ := hrel
    go_wp2
    go_ret
    exact ⟨rfl, HB.out⟩
set_option maxHeartbeats 4000000 in
theorem refDCheck_a4 (lo : Nat) (hlo : lo < 4294967296) (hh : ∀ wx, Calls Tryz.prog 43 #[.int .i64 1] wx (Told wx (.agg (hasC true false false false false 0 0)))) (w : World) :
    Calls Tryz.prog 48 #[.int .i64 1, dataV ⟨false, 0, lo, ⟨#[]⟩, ⟨#[]⟩, 0, 0, 0, 0, 0, [], ⟨#[]⟩⟩ nilS] w (Told w (.int .i64 0)) := by
  have hs : (4 : Nat) ≤ 65535 := by
    omega
  have HK := Lib.hid fun wx => refCheck_a4 lo hlo hh wx
  have HZ := Lib.hid fun wx => refSize_a4 lo hlo hh wx
  obtain ⟨z, hz⟩ : ∃ z : Nat, (4 : Nat) = z := ⟨_, rfl⟩
  rw [hz] at HZ hs
  have hB : Below w.heap.size w (w.alloc (.cells #[.bool false, .int .u64 0, .int .u64 (lo : Int), .string ⟨#[]⟩, .string ⟨#[]⟩, .int .u32 0, .int .u32 0, .int .u32 0, .int .u32 0, .int .u32 0, .slice none 0 0, .string ⟨#[]⟩] 30)) := (Below.refl _ _).alloc (Nat.le_refl _) _
  have hl : Lies (w.alloc (.cells #[.bool false, .int .u64 0, .int .u64 (lo : Int), .string ⟨#[]⟩, .string ⟨#[]⟩, .int .u32 0, .int .u32 0, .int .u32 0, .int .u32 0, .int .u32 0, .slice none 0 0, .string ⟨#[]⟩] 30)) w.heap.size 30 #[.bool false, .int .u64 0, .int .u64 (lo : Int), .string ⟨#[]⟩, .string ⟨#[]⟩, .int .u32 0, .int .u32 0, .int .u32 0, .int .u32 0, .int .u32 0, .slice none 0 0, .string ⟨#[]⟩] := Lies.new _ _ _
  unfold dataV cellsD nilS at HK HZ
  unfold dataV cellsD nilS
  clear hz hh
  go_enter Tryz.func48, Tryz.ntmps48
  go_upto_region 1 with (fail)
  obtain ⟨W, hW⟩ : ∃ W, W = w.alloc (.cells #[.bool false, .int .u64 0, .int .u64 (lo : Int), .string ⟨#[]⟩, .string ⟨#[]⟩, .int .u32 0, .int .u32 0, .int .u32 0, .int .u32 0, .int .u32 0, .slice none 0 0, .string ⟨#[]⟩] 30) := ⟨_, rfl⟩
  rw [← hW] at hB hl
  have hW2 : w.alloc (.cells #[.bool false, .int .u64 ((0 : Nat) : Int), .int .u64 (lo : Int), .string ⟨#[]⟩, .string ⟨#[]⟩, .int .u32 ((0 : Nat) : Int), .int .u32 ((0 : Nat) : Int), .int .u32 ((0 : Nat) : Int), .int .u32 ((0 : Nat) : Int), .int .u32 ((0 : Nat) : Int), .slice none 0 0, .string ⟨#[]⟩] 30) = W := hW.symm
  first | rw [hW2] | rw [← hW]
  clear hW hW2
  have x0 := hl.cell 0
  have x1 := hl.cell 1
  have x2 := hl.cell 2
  have x3 := hl.cell 3
  have x4 := hl.cell 4
  have x5 := hl.cell 5
  have x6 := hl.cell 6
  have x7 := hl.cell 7
  have x8 := hl.cell 8
  have x9 := hl.cell 9
  have x10 := hl.cell 10
  have x11 := hl.cell 11
  simp at x0 x1 x2 x3 x4 x5 x6 x7 x8 x9 x10 x11
  go_wp2_with fail
  refine (HK.out _).mono ?_
  rintro e w1 ⟨rfl, hb⟩
  have hl1 := hl.next hb
  have hb1 := hB.trans (hb.mono hB.size)
  clear x0 x1 x2 x3 x4 x5 x6 x7 x8 x9 x10 x11
  have x0 := hl1.cell 0
  have x1 := hl1.cell 1
  have x2 := hl1.cell 2
  have x3 := hl1.cell 3
  have x4 := hl1.cell 4
  have x5 := hl1.cell 5
  have x6 := hl1.cell 6
  have x7 := hl1.cell 7
  have x8 := hl1.cell 8
  have x9 := hl1.cell 9
  have x10 := hl1.cell 10
  have x11 := hl1.cell 11
  simp at x0 x1 x2 x3 x4 x5 x6 x7 x8 x9 x10 x11
  clear hl hB hb
  go_wp2_with fail
  refine (HZ.out _).mono ?_
  rintro e w2 ⟨rfl, hb⟩
  have HB := Lib.hid (hb1.trans (hb.mono hb1.size))
  clear hb hb1 hl1
  go_wp2
  go_ret
  exact ⟨rfl, HB.out⟩
set_option maxHeartbeats 4000000 in
theorem refSize_a6 (hi lo : Nat) (hhi : hi < 18446744073709551616) (hlo : lo < 18446744073709551616) (hh : ∀ wx, Calls Tryz.prog 43 #[.int .i64 28] wx (Told wx (.agg (hasC true false false false false 0 0)))) (w : World) :
    Calls Tryz.prog 88 #[.int .i64 28, dataV ⟨true, hi, lo, ⟨#[]⟩, ⟨#[]⟩, 0, 0, 0, 0, 0, [], ⟨#[]⟩⟩ nilS] w (Told w (.int .i64 ((16 : Nat) : Int))) := by
  have HH := Lib.hid hh
  clear hh
  have hB : Below w.heap.size w (w.alloc (.cells #[.bool true, .int .u64 (hi : Int), .int .u64 (lo : Int), .string ⟨#[]⟩, .string ⟨#[]⟩, .int .u32 0, .int .u32 0, .int .u32 0, .int .u32 0, .int .u32 0, .slice none 0 0, .string ⟨#[]⟩] 30)) := (Below.refl _ _).alloc (Nat.le_refl _) _
  have hl : Lies (w.alloc (.cells #[.bool true, .int .u64 (hi : Int), .int .u64 (lo : Int), .string ⟨#[]⟩, .string ⟨#[]⟩, .int .u32 0, .int .u32 0, .int .u32 0, .int .u32 0, .int .u32 0, .slice none 0 0, .string ⟨#[]⟩] 30)) w.heap.size 30 #[.bool true, .int .u64 (hi : Int), .int .u64 (lo : Int), .string ⟨#[]⟩, .string ⟨#[]⟩, .int .u32 0, .int .u32 0, .int .u32 0, .int .u32 0, .int .u32 0, .slice none 0 0, .string ⟨#[]⟩] := Lies.new _ _ _
  unfold dataV cellsD nilS
  go_enter Tryz.func88, Tryz.ntmps88
  go_wp2_with fail
  obtain ⟨W, hW⟩ : ∃ W, W = w.alloc (.cells #[.bool true, .int .u64 (hi : Int), .int .u64 (lo : Int), .string ⟨#[]⟩, .string ⟨#[]⟩, .int .u32 0, .int .u32 0, .int .u32 0, .int .u32 0, .int .u32 0, .slice none 0 0, .string ⟨#[]⟩] 30) := ⟨_, rfl⟩
  rw [← hW] at hB hl
  have hW2 : w.alloc (.cells #[.bool true, .int .u64 (hi : Int), .int .u64 (lo : Int), .string ⟨#[]⟩, .string ⟨#[]⟩, .int .u32 ((0 : Nat) : Int), .int .u32 ((0 : Nat) : Int), .int .u32 ((0 : Nat) : Int), .int .u32 ((0 : Nat) : Int), .int .u32 ((0 : Nat) : Int), .slice none 0 0, .string ⟨#[]⟩] 30) = W := hW.symm
  first | rw [hW2] | rw [← hW]
  clear hW hW2
  refine (HH.out _).mono ?_
  rintro e w1 ⟨rfl, hb⟩
  have hl1 := (hl.next hb).alloc (.cells (hasC true false false false false 0 0) 93)
  have hh1 := Lies.new w1 93 (hasC true false false false false 0 0)
  have hb1 := (hB.trans (hb.mono hB.size)).alloc (hB.trans (hb.mono hB.size)).size (.cells (hasC true false false false false 0 0) 93)
  go_upto_region 2 with (fail)
  obtain ⟨w2, hw2⟩ : ∃ x, x = w1.alloc (.cells (hasC true false false false false 0 0) 93) := ⟨_, rfl⟩
  rw [← hw2] at hl1 hh1 hb1
  have hw3 : w1.alloc (.cells #[.bool true, .bool false, .bool false, .bool false, .bool false, .int .i64 0, .int .i64 0] 93) = w2 := hw2.symm
  first | rw [hw3] | rw [← hw2]
  obtain ⟨g, hg⟩ : ∃ x, x = w1.heap.size := ⟨_, rfl⟩
  rw [← hg] at hh1 ⊢
  clear hw2 hw3 hg
  have HB := Lib.hid hb1
  have x0 := hl1.cell 0
  have x1 := hl1.cell 1
  have x2 := hl1.cell 2
  have x3 := hl1.cell 3
  have x4 := hl1.cell 4
  have x5 := hl1.cell 5
  have x6 := hl1.cell 6
  have x7 := hl1.cell 7
  have x8 := hl1.cell 8
  have x9 := hl1.cell 9
  have x10 := hl1.cell 10
  have x11 := hl1.cell 11
  have h0 := hh1.cell 0
  have h1 := hh1.cell 1
  have h2 := hh1.cell 2
  have h3 := hh1.cell 3
  have h4 := hh1.cell 4
  have h5 := hh1.cell 5
  have h6 := hh1.cell 6
  clear hl hl1 hh1 hb1 hb hB HH
  simp at x0 x1 x2 x3 x4 x5 x6 x7 x8 x9 x10 x11 h0 h1 h2 h3 h4 h5 h6
  go_wp2
  go_loop [6, 7] (fun v i => v = .int .i64 ((16 : Nat) : Int) ∧ i = .int .i64 0) (fun _ _ => 0)
  case atStart => exact ⟨ival (by first | rfl | omega | (simp; omega)), rfl⟩
  case round =>
    obtain ⟨rfl, rfl⟩ := hrel
    go_wp2
    go_ret
    exact ⟨rfl, HB.out⟩
set_option maxHeartbeats 4000000 in
theorem refDCheck_a6 (hi lo : Nat) (hhi : hi < 18446744073709551616) (hlo : lo < 18446744073709551616) (hh : ∀ wx, Calls Tryz.prog 43 #[.int .i64 28] wx (Told wx (.agg (hasC true false false false false 0 0)))) (w : World) :
    Calls Tryz.prog 48 #[.int .i64 28, dataV ⟨true, hi, lo, ⟨#[]⟩, ⟨#[]⟩, 0, 0, 0, 0, 0, [], ⟨#[]⟩⟩ nilS] w (Told w (.int .i64 0)) := by
  have hs : (16 : Nat) ≤ 65535 := by
    omega
  have HK := Lib.hid fun wx => refCheck_a6 hi lo hhi hlo hh wx
  have HZ := Lib.hid fun wx => refSize_a6 hi lo hhi hlo hh wx
  obtain ⟨z, hz⟩ : ∃ z : Nat, (16 : Nat) = z := ⟨_, rfl⟩
  rw [hz] at HZ hs
  have hB : Below w.heap.size w (w.alloc (.cells #[.bool true, .int .u64 (hi : Int), .int .u64 (lo : Int), .string ⟨#[]⟩, .string ⟨#[]⟩, .int .u32 0, .int .u32 0, .int .u32 0, .int .u32 0, .int .u32 0, .slice none 0 0, .string ⟨#[]⟩] 30)) := (Below.refl _ _).alloc (Nat.le_refl _) _
  have hl : Lies (w.alloc (.cells #[.bool true, .int .u64 (hi : Int), .int .u64 (lo : Int), .string ⟨#[]⟩, .string ⟨#[]⟩, .int .u32 0, .int .u32 0, .int .u32 0, .int .u32 0, .int .u32 0, .slice none 0 0, .string ⟨#[]⟩] 30)) w.heap.size 30 #[.bool true, .int .u64 (hi : Int), .int .u64 (lo : Int), .string ⟨#[]⟩, .string ⟨#[]⟩, .int .u32 0, .int .u32 0, .int .u32 0, .int .u32 0, .int .u32 0, .slice none 0 0, .string ⟨#[]⟩] := Lies.new _ _ _
  unfold dataV cellsD nilS at HK HZ
  unfold dataV cellsD nilS
  clear hz hh
  go_enter Tryz.func48, Tryz.ntmps48
  go_upto_region 1 with (fail)
  obtain ⟨W, hW⟩ : ∃ W, W = w.alloc (.cells #[.bool true, .int .u64 (hi : Int), .int .u64 (lo : Int), .string ⟨#[]⟩, .string ⟨#[]⟩, .int .u32 0, .int .u32 0, .int .u32 0, .int .u32 0, .int .u32 0, .slice none 0 0, .string ⟨#[]⟩] 30) := ⟨_, rfl⟩
  rw [← hW] at hB hl
  have hW2 : w.alloc (.cells #[.bool true, .int .u64 (hi : Int), .int .u64 (lo : Int), .string ⟨#[]⟩, .string ⟨#[]⟩, .int .u32 ((0 : Nat) : Int), .int .u32 ((0 : Nat) : Int), .int .u32 ((0 : Nat) : Int), .int .u32 ((0 : Nat) : Int), .int .u32 ((0 : Nat) : Int), .slice none 0 0, .string ⟨#[]⟩] 30) = W := hW.symm
  first | rw [hW2] | rw [← hW]
  clear hW hW2
  have x0 := hl.cell 0
  have x1 := hl.cell 1
  have x2 := hl.cell 2
  have x3 := hl.cell 3
  have x4 := hl.cell 4
  have x5 := hl.cell 5
  have x6 := hl.cell 6
  have x7 := hl.cell 7
  have x8 := hl.cell 8
  have x9 := hl.cell 9
  have x10 := hl.cell 10
  have x11 := hl.cell 11
  simp at x0 x1 x2 x3 x4 x5 x6 x7 x8 x9 x10 x11
  go_wp2_with fail
  refine (HK.out _).mono ?_
  rintro e w1 ⟨rfl, hb⟩
  have hl1 := hl.next hb
  have hb1 := hB.trans (hb.mono hB.size)
  clear x0 x1 x2 x3 x4 x5 x6 x7 x8 x9 x10 x11
  have x0 := hl1.cell 0
  have x1 := hl1.cell 1
  have x2 := hl1.cell 2
  have x3 := hl1.cell 3
  have x4 := hl1.cell 4
  have x5 := hl1.cell 5
  have x6 := hl1.cell 6
  have x7 := hl1.cell 7
  have x8 := hl1.cell 8
  have x9 := hl1.cell 9
  have x10 := hl1.cell 10
  have x11 := hl1.cell 11
  simp at x0 x1 x2 x3 x4 x5 x6 x7 x8 x9 x10 x11
  clear hl hB hb
  go_wp2_with fail
  refine (HZ.out _).mono ?_
  rintro e w2 ⟨rfl, hb⟩
  have HB := Lib.hid (hb1.trans (hb.mono hb1.size))
  clear hb hb1 hl1
  go_wp2
  go_ret
  exact ⟨rfl, HB.out⟩
set_option maxHeartbeats 4000000 in
theorem refSize_name (t : Int) (n : ByteArray) (ht0 : 0 ≤ t) (ht1 : t ≤ 65535) (hta : t ≠ 1 ∧ t ≠ 28) (hn : chkN (bs n) = 0) (hh : ∀ wx, Calls Tryz.prog 43 #[.int .i64 t] wx (Told wx (.agg (hasC false true false false false 0 0)))) (w : World) :
    Calls Tryz.prog 88 #[.int .i64 t, dataV ⟨false, 0, 0, n, ⟨#[]⟩, 0, 0, 0, 0, 0, [], ⟨#[]⟩⟩ nilS] w (Told w (.int .i64 ((n.size + 1 : Nat) : Int))) := by
  have HH := Lib.hid hh
  have q1 : (t == 1) = false := by rw [beq_eq_false_iff_ne]; exact hta.1
  have q2 : (t == 28) = false := by rw [beq_eq_false_iff_ne]; exact hta.2
  have hns := nm_le hn
  clear hh hn
  have hB : Below w.heap.size w (w.alloc (.cells #[.bool false, .int .u64 0, .int .u64 0, .string n, .string ⟨#[]⟩, .int .u32 0, .int .u32 0, .int .u32 0, .int .u32 0, .int .u32 0, .slice none 0 0, .string ⟨#[]⟩] 30)) := (Below.refl _ _).alloc (Nat.le_refl _) _
  have hl : Lies (w.alloc (.cells #[.bool false, .int .u64 0, .int .u64 0, .string n, .string ⟨#[]⟩, .int .u32 0, .int .u32 0, .int .u32 0, .int .u32 0, .int .u32 0, .slice none 0 0, .string ⟨#[]⟩] 30)) w.heap.size 30 #[.bool false, .int .u64 0, .int .u64 0, .string n, .string ⟨#[]⟩, .int .u32 0, .int .u32 0, .int .u32 0, .int .u32 0, .int .u32 0, .slice none 0 0, .string ⟨#[]⟩] := Lies.new _ _ _
  unfold dataV cellsD nilS
  go_enter Tryz.func88, Tryz.ntmps88
  go_wp2_with fail
  obtain ⟨W, hW⟩ : ∃ W, W = w.alloc (.cells #[.bool false, .int .u64 0, .int .u64 0, .string n, .string ⟨#[]⟩, .int .u32 0, .int .u32 0, .int .u32 0, .int .u32 0, .int .u32 0, .slice none 0 0, .string ⟨#[]⟩] 30) := ⟨_, rfl⟩
  rw [← hW] at hB hl
  have hW2 : w.alloc (.cells #[.bool false, .int .u64 ((0 : Nat) : Int), .int .u64 ((0 : Nat) : Int), .string n, .string ⟨#[]⟩, .int .u32 ((0 : Nat) : Int), .int .u32 ((0 : Nat) : Int), .int .u32 ((0 : Nat) : Int), .int .u32 ((0 : Nat) : Int), .int .u32 ((0 : Nat) : Int), .slice none 0 0, .string ⟨#[]⟩] 30) = W := hW.symm
  first | rw [hW2] | rw [← hW]
  clear hW hW2
  refine (HH.out _).mono ?_
  rintro e w1 ⟨rfl, hb⟩
  have hl1 := (hl.next hb).alloc (.cells (hasC false true false false false 0 0) 93)
  have hh1 := Lies.new w1 93 (hasC false true false false false 0 0)
  have hb1 := (hB.trans (hb.mono hB.size)).alloc (hB.trans (hb.mono hB.size)).size (.cells (hasC false true false false false 0 0) 93)
  go_upto_region 2 with (fail)
  obtain ⟨w2, hw2⟩ : ∃ x, x = w1.alloc (.cells (hasC false true false false false 0 0) 93) := ⟨_, rfl⟩
  rw [← hw2] at hl1 hh1 hb1
  have hw3 : w1.alloc (.cells #[.bool false, .bool true, .bool false, .bool false, .bool false, .int .i64 0, .int .i64 0] 93) = w2 := hw2.symm
  first | rw [hw3] | rw [← hw2]
  obtain ⟨g, hg⟩ : ∃ x, x = w1.heap.size := ⟨_, rfl⟩
  rw [← hg] at hh1 ⊢
  clear hw2 hw3 hg
  have HB := Lib.hid hb1
  have x0 := hl1.cell 0
  have x1 := hl1.cell 1
  have x2 := hl1.cell 2
  have x3 := hl1.cell 3
  have x4 := hl1.cell 4
  have x5 := hl1.cell 5
  have x6 := hl1.cell 6
  have x7 := hl1.cell 7
  have x8 := hl1.cell 8
  have x9 := hl1.cell 9
  have x10 := hl1.cell 10
  have x11 := hl1.cell 11
  have h0 := hh1.cell 0
  have h1 := hh1.cell 1
  have h2 := hh1.cell 2
  have h3 := hh1.cell 3
  have h4 := hh1.cell 4
  have h5 := hh1.cell 5
  have h6 := hh1.cell 6
  clear hl hl1 hh1 hb1 hb hB HH
  simp at x0 x1 x2 x3 x4 x5 x6 x7 x8 x9 x10 x11 h0 h1 h2 h3 h4 h5 h6
  go_wp2
  go_loop [6, 7] (fun v i => v = .int .i64 ((n.size + 1 : Nat) : Int) ∧ i = .int .i64 0) (fun _ _ => 0)
  case atStart => exact ⟨ival (by first | rfl | omega | (simp; omega)), rfl⟩
  case round =>
    obtain ⟨rfl, rfl⟩ := hrel
    go_wp2
    go_ret
    exact ⟨rfl, HB.out⟩
set_option maxHeartbeats 4000000 in
theorem refDCheck_name (t : Int) (n : ByteArray) (ht0 : 0 ≤ t) (ht1 : t ≤ 65535) (hta : t ≠ 1 ∧ t ≠ 28) (hn : chkN (bs n) = 0) (hh : ∀ wx, Calls Tryz.prog 43 #[.int .i64 t] wx (Told wx (.agg (hasC false true false false false 0 0)))) (w : World) :
    Calls Tryz.prog 48 #[.int .i64 t, dataV ⟨false, 0, 0, n, ⟨#[]⟩, 0, 0, 0, 0, 0, [], ⟨#[]⟩⟩ nilS] w (Told w (.int .i64 0)) := by
  have hs : (n.size + 1 : Nat) ≤ 65535 := by
    have := nm_le hn
    omega
  have HK := Lib.hid fun wx => refCheck_name t n ht0 ht1 hta hn hh wx
  have HZ := Lib.hid fun wx => refSize_name t n ht0 ht1 hta hn hh wx
  obtain ⟨z, hz⟩ : ∃ z : Nat, (n.size + 1 : Nat) = z := ⟨_, rfl⟩
  rw [hz] at HZ hs
  have hB : Below w.heap.size w (w.alloc (.cells #[.bool false, .int .u64 0, .int .u64 0, .string n, .string ⟨#[]⟩, .int .u32 0, .int .u32 0, .int .u32 0, .int .u32 0, .int .u32 0, .slice none 0 0, .string ⟨#[]⟩] 30)) := (Below.refl _ _).alloc (Nat.le_refl _) _
  have hl : Lies (w.alloc (.cells #[.bool false, .int .u64 0, .int .u64 0, .string n, .string ⟨#[]⟩, .int .u32 0, .int .u32 0, .int .u32 0, .int .u32 0, .int .u32 0, .slice none 0 0, .string ⟨#[]⟩] 30)) w.heap.size 30 #[.bool false, .int .u64 0, .int .u64 0, .string n, .string ⟨#[]⟩, .int .u32 0, .int .u32 0, .int .u32 0, .int .u32 0, .int .u32 0, .slice none 0 0, .string ⟨#[]⟩] := Lies.new _ _ _
  unfold dataV cellsD nilS at HK HZ
  unfold dataV cellsD nilS
  clear hz hh
  go_enter Tryz.func48, Tryz.ntmps48
  go_upto_region 1 with (fail)
  obtain ⟨W, hW⟩ : ∃ W, W = w.alloc (.cells #[.bool false, .int .u64 0, .int .u64 0, .string n, .string ⟨#[]⟩, .int .u32 0, .int .u32 0, .int .u32 0, .int .u32 0, .int .u32 0, .slice none 0 0, .string ⟨#[]⟩] 30) := ⟨_, rfl⟩
  rw [← hW] at hB hl
  have hW2 : w.alloc (.cells #[.bool false, .int .u64 ((0 : Nat) : Int), .int .u64 ((0 : Nat) : Int), .string n, .string ⟨#[]⟩, .int .u32 ((0 : Nat) : Int), .int .u32 ((0 : Nat) : Int), .int .u32 ((0 : Nat) : Int), .int .u32 ((0 : Nat) : Int), .int .u32 ((0 : Nat) : Int), .slice none 0 0, .string ⟨#[]⟩] 30) = W := hW.symm
  first | rw [hW2] | rw [← hW]
  clear hW hW2
  have x0 := hl.cell 0
  have x1 := hl.cell 1
  have x2 := hl.cell 2
  have x3 := hl.cell 3
  have x4 := hl.cell 4
  have x5 := hl.cell 5
  have x6 := hl.cell 6
  have x7 := hl.cell 7
  have x8 := hl.cell 8
  have x9 := hl.cell 9
  have x10 := hl.cell 10
  have x11 := hl.cell 11
  simp at x0 x1 x2 x3 x4 x5 x6 x7 x8 x9 x10 x11
  go_wp2_with fail
  refine (HK.out _).mono ?_
  rintro e w1 ⟨rfl, hb⟩
  have hl1 := hl.next hb
  have hb1 := hB.trans (hb.mono hB.size)
  clear x0 x1 x2 x3 x4 x5 x6 x7 x8 x9 x10 x11
  have x0 := hl1.cell 0
  have x1 := hl1.cell 1
  have x2 := hl1.cell 2
  have x3 := hl1.cell 3
  have x4 := hl1.cell 4
  have x5 := hl1.cell 5
  have x6 := hl1.cell 6
  have x7 := hl1.cell 7
  have x8 := hl1.cell 8
  have x9 := hl1.cell 9
  have x10 := hl1.cell 10
  have x11 := hl1.cell 11
  simp at x0 x1 x2 x3 x4 x5 x6 x7 x8 x9 x10 x11
  clear hl hB hb
  go_wp2_with fail
  refine (HZ.out _).mono ?_
  rintro e w2 ⟨rfl, hb⟩
  have HB := Lib.hid (hb1.trans (hb.mono hb1.size))
  clear hb hb1 hl1
  go_wp2
  go_ret
  exact ⟨rfl, HB.out⟩
set_option maxHeartbeats 4000000 in
theorem refSize_soa (n m : ByteArray) (v0 v1 v2 v3 v4 : Nat) (hn : chkN (bs n) = 0) (hm : chkN (bs m) = 0) (hh : ∀ wx, Calls Tryz.prog 43 #[.int .i64 6] wx (Told wx (.agg (hasC false true true false false 5 4)))) (w : World) :
    Calls Tryz.prog 88 #[.int .i64 6, dataV ⟨false, 0, 0, n, m, v0, v1, v2, v3, v4, [], ⟨#[]⟩⟩ nilS] w (Told w (.int .i64 ((20 + (n.size + 1) + (m.size + 1) : Nat) : Int))) := by
  have HH := Lib.hid hh
  have hns := nm_le hn
  have hms := nm_le hm
  clear hh hn hm
  have hB : Below w.heap.size w (w.alloc (.cells #[.bool false, .int .u64 0, .int .u64 0, .string n, .string m, .int .u32 (v0 : Int), .int .u32 (v1 : Int), .int .u32 (v2 : Int), .int .u32 (v3 : Int), .int .u32 (v4 : Int), .slice none 0 0, .string ⟨#[]⟩] 30)) := (Below.refl _ _).alloc (Nat.le_refl _) _
  have hl : Lies (w.alloc (.cells #[.bool false, .int .u64 0, .int .u64 0, .string n, .string m, .int .u32 (v0 : Int), .int .u32 (v1 : Int), .int .u32 (v2 : Int), .int .u32 (v3 : Int), .int .u32 (v4 : Int), .slice none 0 0, .string ⟨#[]⟩] 30)) w.heap.size 30 #[.bool false, .int .u64 0, .int .u64 0, .string n, .string m, .int .u32 (v0 : Int), .int .u32 (v1 : Int), .int .u32 (v2 : Int), .int .u32 (v3 : Int), .int .u32 (v4 : Int), .slice none 0 0, .string ⟨#[]⟩] := Lies.new _ _ _
  unfold dataV cellsD nilS
  go_enter Tryz.func88, Tryz.ntmps88
  go_wp2_with fail
  obtain ⟨W, hW⟩ : ∃ W, W = w.alloc (.cells #[.bool false, .int .u64 0, .int .u64 0, .string n, .string m, .int .u32 (v0 : Int), .int .u32 (v1 : Int), .int .u32 (v2 : Int), .int .u32 (v3 : Int), .int .u32 (v4 : Int), .slice none 0 0, .string ⟨#[]⟩] 30) := ⟨_, rfl⟩
  rw [← hW] at hB hl
  have hW2 : w.alloc (.cells #[.bool false, .int .u64 ((0 : Nat) : Int), .int .u64 ((0 : Nat) : Int), .string n, .string m, .int .u32 (v0 : Int), .int .u32 (v1 : Int), .int .u32 (v2 : Int), .int .u32 (v3 : Int), .int .u32 (v4 : Int), .slice none 0 0, .string ⟨#[]⟩] 30) = W := hW.symm
  first | rw [hW2] | rw [← hW]
  clear hW hW2
  refine (HH.out _).mono ?_
  rintro e w1 ⟨rfl, hb⟩
  have hl1 := (hl.next hb).alloc (.cells (hasC false true true false false 5 4) 93)
  have hh1 := Lies.new w1 93 (hasC false true true false false 5 4)
  have hb1 := (hB.trans (hb.mono hB.size)).alloc (hB.trans (hb.mono hB.size)).size (.cells (hasC false true true false false 5 4) 93)
  go_upto_region 2 with (fail)
  obtain ⟨w2, hw2⟩ : ∃ x, x = w1.alloc (.cells (hasC false true true false false 5 4) 93) := ⟨_, rfl⟩
  rw [← hw2] at hl1 hh1 hb1
  have hw3 : w1.alloc (.cells #[.bool false, .bool true, .bool true, .bool false, .bool false, .int .i64 5, .int .i64 4] 93) = w2 := hw2.symm
  first | rw [hw3] | rw [← hw2]
  obtain ⟨g, hg⟩ : ∃ x, x = w1.heap.size := ⟨_, rfl⟩
  rw [← hg] at hh1 ⊢
  clear hw2 hw3 hg
  have HB := Lib.hid hb1
  have x0 := hl1.cell 0
  have x1 := hl1.cell 1
  have x2 := hl1.cell 2
  have x3 := hl1.cell 3
  have x4 := hl1.cell 4
  have x5 := hl1.cell 5
  have x6 := hl1.cell 6
  have x7 := hl1.cell 7
  have x8 := hl1.cell 8
  have x9 := hl1.cell 9
  have x10 := hl1.cell 10
  have x11 := hl1.cell 11
  have h0 := hh1.cell 0
  have h1 := hh1.cell 1
  have h2 := hh1.cell 2
  have h3 := hh1.cell 3
  have h4 := hh1.cell 4
  have h5 := hh1.cell 5
  have h6 := hh1.cell 6
  clear hl hl1 hh1 hb1 hb hB HH
  simp at x0 x1 x2 x3 x4 x5 x6 x7 x8 x9 x10 x11 h0 h1 h2 h3 h4 h5 h6
  go_wp2
  go_loop [6, 7] (fun v i => v = .int .i64 ((20 + (n.size + 1) + (m.size + 1) : Nat) : Int) ∧ i = .int .i64 0) (fun _ _ => 0)
  case atStart => exact ⟨ival (by first | rfl | omega | (simp; omega)), rfl⟩
  case round =>
    obtain ⟨rfl, rfl⟩ := hrel
    go_wp2
    go_ret
    exact ⟨rfl, HB.out⟩
set_option maxHeartbeats 4000000 in
theorem refDCheck_soa (n m : ByteArray) (v0 v1 v2 v3 v4 : Nat) (hn : chkN (bs n) = 0) (hm : chkN (bs m) = 0) (hh : ∀ wx, Calls Tryz.prog 43 #[.int .i64 6] wx (Told wx (.agg (hasC false true true false false 5 4)))) (w : World) :
    Calls Tryz.prog 48 #[.int .i64 6, dataV ⟨false, 0, 0, n, m, v0, v1, v2, v3, v4, [], ⟨#[]⟩⟩ nilS] w (Told w (.int .i64 0)) := by
  have hs : (20 + (n.size + 1) + (m.size + 1) : Nat) ≤ 65535 := by
    have := nm_le hn
    have := nm_le hm
    omega
  have HK := Lib.hid fun wx => refCheck_soa n m v0 v1 v2 v3 v4 hn hm hh wx
  have HZ := Lib.hid fun wx => refSize_soa n m v0 v1 v2 v3 v4 hn hm hh wx
  obtain ⟨z, hz⟩ : ∃ z : Nat, (20 + (n.size + 1) + (m.size + 1) : Nat) = z := ⟨_, rfl⟩
  rw [hz] at HZ hs
  have hB : Below w.heap.size w (w.alloc (.cells #[.bool false, .int .u64 0, .int .u64 0, .string n, .string m, .int .u32 (v0 : Int), .int .u32 (v1 : Int), .int .u32 (v2 : Int), .int .u32 (v3 : Int), .int .u32 (v4 : Int), .slice none 0 0, .string ⟨#[]⟩] 30)) := (Below.refl _ _).alloc (Nat.le_refl _) _
  have hl : Lies (w.alloc (.cells #[.bool false, .int .u64 0, .int .u64 0, .string n, .string m, .int .u32 (v0 : Int), .int .u32 (v1 : Int), .int .u32 (v2 : Int), .int .u32 (v3 : Int), .int .u32 (v4 : Int), .slice none 0 0, .string ⟨#[]⟩] 30)) w.heap.size 30 #[.bool false, .int .u64 0, .int .u64 0, .string n, .string m, .int .u32 (v0 : Int), .int .u32 (v1 : Int), .int .u32 (v2 : Int), .int .u32 (v3 : Int), .int .u32 (v4 : Int), .slice none 0 0, .string ⟨#[]⟩] := Lies.new _ _ _
  unfold dataV cellsD nilS at HK HZ
  unfold dataV cellsD nilS
  clear hz hh
  go_enter Tryz.func48, Tryz.ntmps48
  go_upto_region 1 with (fail)
  obtain ⟨W, hW⟩ : ∃ W, W = w.alloc (.cells #[.bool false, .int .u64 0, .int .u64 0, .string n, .string m, .int .u32 (v0 : Int), .int .u32 (v1 : Int), .int .u32 (v2 : Int), .int .u32 (v3 : Int), .int .u32 (v4 : Int), .slice none 0 0, .string ⟨#[]⟩] 30) := ⟨_, rfl⟩
  rw [← hW] at hB hl
  have hW2 : w.alloc (.cells #[.bool false, .int .u64 ((0 : Nat) : Int), .int .u64 ((0 : Nat) : Int), .string n, .string m, .int .u32 (v0 : Int), .int .u32 (v1 : Int), .int .u32 (v2 : Int), .int .u32 (v3 : Int), .int .u32 (v4 : Int), .slice none 0 0, .string ⟨#[]⟩] 30) = W := hW.symm
  first | rw [hW2] | rw [← hW]
  clear hW hW2
  have x0 := hl.cell 0
  have x1 := hl.cell 1
  have x2 := hl.cell 2
  have x3 := hl.cell 3
  have x4 := hl.cell 4
  have x5 := hl.cell 5
  have x6 := hl.cell 6
  have x7 := hl.cell 7
  have x8 := hl.cell 8
  have x9 := hl.cell 9
  have x10 := hl.cell 10
  have x11 := hl.cell 11
  simp at x0 x1 x2 x3 x4 x5 x6 x7 x8 x9 x10 x11
  go_wp2_with fail
  refine (HK.out _).mono ?_
  rintro e w1 ⟨rfl, hb⟩
  have hl1 := hl.next hb
  have hb1 := hB.trans (hb.mono hB.size)
  clear x0 x1 x2 x3 x4 x5 x6 x7 x8 x9 x10 x11
  have x0 := hl1.cell 0
  have x1 := hl1.cell 1
  have x2 := hl1.cell 2
  have x3 := hl1.cell 3
  have x4 := hl1.cell 4
  have x5 := hl1.cell 5
  have x6 := hl1.cell 6
  have x7 := hl1.cell 7
  have x8 := hl1.cell 8
  have x9 := hl1.cell 9
  have x10 := hl1.cell 10
  have x11 := hl1.cell 11
  simp at x0 x1 x2 x3 x4 x5 x6 x7 x8 x9 x10 x11
  clear hl hB hb
  go_wp2_with fail
  refine (HZ.out _).mono ?_
  rintro e w2 ⟨rfl, hb⟩
  have HB := Lib.hid (hb1.trans (hb.mono hb1.size))
  clear hb hb1 hl1
  go_wp2
  go_ret
  exact ⟨rfl, HB.out⟩
set_option maxHeartbeats 4000000 in
theorem refSize_mx (n : ByteArray) (v0 : Nat) (hn : chkN (bs n) = 0) (h0 : v0 ≤ 65535) (hh : ∀ wx, Calls Tryz.prog 43 #[.int .i64 15] wx (Told wx (.agg (hasC false true false false false 1 2)))) (w : World) :
    Calls Tryz.prog 88 #[.int .i64 15, dataV ⟨false, 0, 0, n, ⟨#[]⟩, v0, 0, 0, 0, 0, [], ⟨#[]⟩⟩ nilS] w (Told w (.int .i64 ((2 + (n.size + 1) : Nat) : Int))) := by
  have HH := Lib.hid hh
  have hns := nm_le hn
  clear hh hn
  have hB : Below w.heap.size w (w.alloc (.cells #[.bool false, .int .u64 0, .int .u64 0, .string n, .string ⟨#[]⟩, .int .u32 (v0 : Int), .int .u32 0, .int .u32 0, .int .u32 0, .int .u32 0, .slice none 0 0, .string ⟨#[]⟩] 30)) := (Below.refl _ _).alloc (Nat.le_refl _) _
  have hl : Lies (w.alloc (.cells #[.bool false, .int .u64 0, .int .u64 0, .string n, .string ⟨#[]⟩, .int .u32 (v0 : Int), .int .u32 0, .int .u32 0, .int .u32 0, .int .u32 0, .slice none 0 0, .string ⟨#[]⟩] 30)) w.heap.size 30 #[.bool false, .int .u64 0, .int .u64 0, .string n, .string ⟨#[]⟩, .int .u32 (v0 : Int), .int .u32 0, .int .u32 0, .int .u32 0, .int .u32 0, .slice none 0 0, .string ⟨#[]⟩] := Lies.new _ _ _
  unfold dataV cellsD nilS
  go_enter Tryz.func88, Tryz.ntmps88
  go_wp2_with fail
  obtain ⟨W, hW⟩ : ∃ W, W = w.alloc (.cells #[.bool false, .int .u64 0, .int .u64 0, .string n, .string ⟨#[]⟩, .int .u32 (v0 : Int), .int .u32 0, .int .u32 0, .int .u32 0, .int .u32 0, .slice none 0 0, .string ⟨#[]⟩] 30) := ⟨_, rfl⟩
  rw [← hW] at hB hl
  have hW2 : w.alloc (.cells #[.bool false, .int .u64 ((0 : Nat) : Int), .int .u64 ((0 : Nat) : Int), .string n, .string ⟨#[]⟩, .int .u32 (v0 : Int), .int .u32 ((0 : Nat) : Int), .int .u32 ((0 : Nat) : Int), .int .u32 ((0 : Nat) : Int), .int .u32 ((0 : Nat) : Int), .slice none 0 0, .string ⟨#[]⟩] 30) = W := hW.symm
  first | rw [hW2] | rw [← hW]
  clear hW hW2
  refine (HH.out _).mono ?_
  rintro e w1 ⟨rfl, hb⟩
  have hl1 := (hl.next hb).alloc (.cells (hasC false true false false false 1 2) 93)
  have hh1 := Lies.new w1 93 (hasC false true false false false 1 2)
  have hb1 := (hB.trans (hb.mono hB.size)).alloc (hB.trans (hb.mono hB.size)).size (.cells (hasC false true false false false 1 2) 93)
  go_upto_region 2 with (fail)
  obtain ⟨w2, hw2⟩ : ∃ x, x = w1.alloc (.cells (hasC false true false false false 1 2) 93) := ⟨_, rfl⟩
  rw [← hw2] at hl1 hh1 hb1
  have hw3 : w1.alloc (.cells #[.bool false, .bool true, .bool false, .bool false, .bool false, .int .i64 1, .int .i64 2] 93) = w2 := hw2.symm
  first | rw [hw3] | rw [← hw2]
  obtain ⟨g, hg⟩ : ∃ x, x = w1.heap.size := ⟨_, rfl⟩
  rw [← hg] at hh1 ⊢
  clear hw2 hw3 hg
  have HB := Lib.hid hb1
  have x0 := hl1.cell 0
  have x1 := hl1.cell 1
  have x2 := hl1.cell 2
  have x3 := hl1.cell 3
  have x4 := hl1.cell 4
  have x5 := hl1.cell 5
  have x6 := hl1.cell 6
  have x7 := hl1.cell 7
  have x8 := hl1.cell 8
  have x9 := hl1.cell 9
  have x10 := hl1.cell 10
  have x11 := hl1.cell 11
  have h0 := hh1.cell 0
  have h1 := hh1.cell 1
  have h2 := hh1.cell 2
  have h3 := hh1.cell 3
  have h4 := hh1.cell 4
  have h5 := hh1.cell 5
  have h6 := hh1.cell 6
  clear hl hl1 hh1 hb1 hb hB HH
  simp at x0 x1 x2 x3 x4 x5 x6 x7 x8 x9 x10 x11 h0 h1 h2 h3 h4 h5 h6
  go_wp2
  go_loop [6, 7] (fun v i => v = .int .i64 ((2 + (n.size + 1) : Nat) : Int) ∧ i = .int .i64 0) (fun _ _ => 0)
  case atStart => exact ⟨ival (by first | rfl | omega | (simp; omega)), rfl⟩
  case round =>
    obtain ⟨rfl, rfl⟩ := hrel
    go_wp2
    go_ret
    exact ⟨rfl, HB.out⟩
set_option maxHeartbeats 4000000 in
theorem refDCheck_mx (n : ByteArray) (v0 : Nat) (hn : chkN (bs n) = 0) (h0 : v0 ≤ 65535) (hh : ∀ wx, Calls Tryz.prog 43 #[.int .i64 15] wx (Told wx (.agg (hasC false true false false false 1 2)))) (w : World) :
    Calls Tryz.prog 48 #[.int .i64 15, dataV ⟨false, 0, 0, n, ⟨#[]⟩, v0, 0, 0, 0, 0, [], ⟨#[]⟩⟩ nilS] w (Told w (.int .i64 0)) := by
  have hs : (2 + (n.size + 1) : Nat) ≤ 65535 := by
    have := nm_le hn
    omega
  have HK := Lib.hid fun wx => refCheck_mx n v0 hn h0 hh wx
  have HZ := Lib.hid fun wx => refSize_mx n v0 hn h0 hh wx
  obtain ⟨z, hz⟩ : ∃ z : Nat, (2 + (n.size + 1) : Nat) = z := ⟨_, rfl⟩
  rw [hz] at HZ hs
  have hB : Below w.heap.size w (w.alloc (.cells #[.bool false, .int .u64 0, .int .u64 0, .string n, .string ⟨#[]⟩, .int .u32 (v0 : Int), .int .u32 0, .int .u32 0, .int .u32 0, .int .u32 0, .slice none 0 0, .string ⟨#[]⟩] 30)) := (Below.refl _ _).alloc (Nat.le_refl _) _
  have hl : Lies (w.alloc (.cells #[.bool false, .int .u64 0, .int .u64 0, .string n, .string ⟨#[]⟩, .int .u32 (v0 : Int), .int .u32 0, .int .u32 0, .int .u32 0, .int .u32 0, .slice none 0 0, .string ⟨#[]⟩] 30)) w.heap.size 30 #[.bool false, .int .u64 0, .int .u64 0, .string n, .string ⟨#[]⟩, .int .u32 (v0 : Int), .int .u32 0, .int .u32 0, .int .u32 0, .int .u32 0, .slice none 0 0, .string ⟨#[]⟩] := Lies.new _ _ _
  unfold dataV cellsD nilS at HK HZ
  unfold dataV cellsD nilS
  clear hz hh
  go_enter Tryz.func48, Tryz.ntmps48
  go_upto_region 1 with (fail)
  obtain ⟨W, hW⟩ : ∃ W, W = w.alloc (.cells #[.bool false, .int .u64 0, .int .u64 0, .string n, .string ⟨#[]⟩, .int .u32 (v0 : Int), .int .u32 0, .int .u32 0, .int .u32 0, .int .u32 0, .slice none 0 0, .string ⟨#[]⟩] 30) := ⟨_, rfl⟩
  rw [← hW] at hB hl
  have hW2 : w.alloc (.cells #[.bool false, .int .u64 ((0 : Nat) : Int), .int .u64 ((0 : Nat) : Int), .string n, .string ⟨#[]⟩, .int .u32 (v0 : Int), .int .u32 ((0 : Nat) : Int), .int .u32 ((0 : Nat) : Int), .int .u32 ((0 : Nat) : Int), .int .u32 ((0 : Nat) : Int), .slice none 0 0, .string ⟨#[]⟩] 30) = W := hW.symm
  first | rw [hW2] | rw [← hW]
  clear hW hW2
  have x0 := hl.cell 0
  have x1 := hl.cell 1
  have x2 := hl.cell 2
  have x3 := hl.cell 3
  have x4 := hl.cell 4
  have x5 := hl.cell 5
  have x6 := hl.cell 6
  have x7 := hl.cell 7
  have x8 := hl.cell 8
  have x9 := hl.cell 9
  have x10 := hl.cell 10
  have x11 := hl.cell 11
  simp at x0 x1 x2 x3 x4 x5 x6 x7 x8 x9 x10 x11
  go_wp2_with fail
  refine (HK.out _).mono ?_
  rintro e w1 ⟨rfl, hb⟩
  have hl1 := hl.next hb
  have hb1 := hB.trans (hb.mono hB.size)
  clear x0 x1 x2 x3 x4 x5 x6 x7 x8 x9 x10 x11
  have x0 := hl1.cell 0
  have x1 := hl1.cell 1
  have x2 := hl1.cell 2
  have x3 := hl1.cell 3
  have x4 := hl1.cell 4
  have x5 := hl1.cell 5
  have x6 := hl1.cell 6
  have x7 := hl1.cell 7
  have x8 := hl1.cell 8
  have x9 := hl1.cell 9
  have x10 := hl1.cell 10
  have x11 := hl1.cell 11
  simp at x0 x1 x2 x3 x4 x5 x6 x7 x8 x9 x10 x11
  clear hl hB hb
  go_wp2_with fail
  refine (HZ.out _).mono ?_
  rintro e w2 ⟨rfl, hb⟩
  have HB := Lib.hid (hb1.trans (hb.mono hb1.size))
  clear hb hb1 hl1
  go_wp2
  go_ret
  exact ⟨rfl, HB.out⟩
set_option maxHeartbeats 4000000 in
theorem refSize_srv (n : ByteArray) (v0 v1 v2 : Nat) (hn : chkN (bs n) = 0) (h0 : v0 ≤ 65535) (h1 : v1 ≤ 65535) (h2 : v2 ≤ 65535) (hh : ∀ wx, Calls Tryz.prog 43 #[.int .i64 33] wx (Told wx (.agg (hasC false true false false false 3 2)))) (w : World) :
    Calls Tryz.prog 88 #[.int .i64 33, dataV ⟨false, 0, 0, n, ⟨#[]⟩, v0, v1, v2, 0, 0, [], ⟨#[]⟩⟩ nilS] w (Told w (.int .i64 ((6 + (n.size + 1) : Nat) : Int))) := by
  have HH := Lib.hid hh
  have hns := nm_le hn
  clear hh hn
  have hB : Below w.heap.size w (w.alloc (.cells #[.bool false, .int .u64 0, .int .u64 0, .string n, .string ⟨#[]⟩, .int .u32 (v0 : Int), .int .u32 (v1 : Int), .int .u32 (v2 : Int), .int .u32 0, .int .u32 0, .slice none 0 0, .string ⟨#[]⟩] 30)) := (Below.refl _ _).alloc (Nat.le_refl _) _
  have hl : Lies (w.alloc (.cells #[.bool false, .int .u64 0, .int .u64 0, .string n, .string ⟨#[]⟩, .int .u32 (v0 : Int), .int .u32 (v1 : Int), .int .u32 (v2 : Int), .int .u32 0, .int .u32 0, .slice none 0 0, .string ⟨#[]⟩] 30)) w.heap.size 30 #[.bool false, .int .u64 0, .int .u64 0, .string n, .string ⟨#[]⟩, .int .u32 (v0 : Int), .int .u32 (v1 : Int), .int .u32 (v2 : Int), .int .u32 0, .int .u32 0, .slice none 0 0, .string ⟨#[]⟩] := Lies.new _ _ _
  unfold dataV cellsD nilS
  go_enter Tryz.func88, Tryz.ntmps88
  go_wp2_with fail
  obtain ⟨W, hW⟩ : ∃ W, W = w.alloc (.cells #[.bool false, .int .u64 0, .int .u64 0, .string n, .string ⟨#[]⟩, .int .u32 (v0 : Int), .int .u32 (v1 : Int), .int .u32 (v2 : Int), .int .u32 0, .int .u32 0, .slice none 0 0, .string ⟨#[]⟩] 30) := ⟨_, rfl⟩
  rw [← hW] at hB hl
  have hW2 : w.alloc (.cells #[.bool false, .int .u64 ((0 : Nat) : Int), .int .u64 ((0 : Nat) : Int), .string n, .string ⟨#[]⟩, .int .u32 (v0 : Int), .int .u32 (v1 : Int), .int .u32 (v2 : Int), .int .u32 ((0 : Nat) : Int), .int .u32 ((0 : Nat) : Int), .slice none 0 0, .string ⟨#[]⟩] 30) = W := hW.symm
  first | rw [hW2] | rw [← hW]
  clear hW hW2
  refine (HH.out _).mono ?_
  rintro e w1 ⟨rfl, hb⟩
  have hl1 := (hl.next hb).alloc (.cells (hasC false true false false false 3 2) 93)
  have hh1 := Lies.new w1 93 (hasC false true false false false 3 2)
  have hb1 := (hB.trans (hb.mono hB.size)).alloc (hB.trans (hb.mono hB.size)).size (.cells (hasC false true false false false 3 2) 93)
  go_upto_region 2 with (fail)
  obtain ⟨w2, hw2⟩ : ∃ x, x = w1.alloc (.cells (hasC false true false false false 3 2) 93) := ⟨_, rfl⟩
  rw [← hw2] at hl1 hh1 hb1
  have hw3 : w1.alloc (.cells #[.bool false, .bool true, .bool false, .bool false, .bool false, .int .i64 3, .int .i64 2] 93) = w2 := hw2.symm
  first | rw [hw3] | rw [← hw2]
  obtain ⟨g, hg⟩ : ∃ x, x = w1.heap.size := ⟨_, rfl⟩
  rw [← hg] at hh1 ⊢
  clear hw2 hw3 hg
  have HB := Lib.hid hb1
  have x0 := hl1.cell 0
  have x1 := hl1.cell 1
  have x2 := hl1.cell 2
  have x3 := hl1.cell 3
  have x4 := hl1.cell 4
  have x5 := hl1.cell 5
  have x6 := hl1.cell 6
  have x7 := hl1.cell 7
  have x8 := hl1.cell 8
  have x9 := hl1.cell 9
  have x10 := hl1.cell 10
  have x11 := hl1.cell 11
  have h0 := hh1.cell 0
  have h1 := hh1.cell 1
  have h2 := hh1.cell 2
  have h3 := hh1.cell 3
  have h4 := hh1.cell 4
  have h5 := hh1.cell 5
  have h6 := hh1.cell 6
  clear hl hl1 hh1 hb1 hb hB HH
  simp at x0 x1 x2 x3 x4 x5 x6 x7 x8 x9 x10 x11 h0 h1 h2 h3 h4 h5 h6
  go_wp2
  go_loop [6, 7] (fun v i => v = .int .i64 ((6 + (n.size + 1) : Nat) : Int) ∧ i = .int .i64 0) (fun _ _ => 0)
  case atStart => exact ⟨ival (by first | rfl | omega | (simp; omega)), rfl⟩
  case round =>
    obtain ⟨rfl, rfl⟩ := hrel
    go_wp2
    go_ret
    exact ⟨rfl, HB.out⟩
set_option maxHeartbeats 4000000 in
theorem refDCheck_srv (n : ByteArray) (v0 v1 v2 : Nat) (hn : chkN (bs n) = 0) (h0 : v0 ≤ 65535) (h1 : v1 ≤ 65535) (h2 : v2 ≤ 65535) (hh : ∀ wx, Calls Tryz.prog 43 #[.int .i64 33] wx (Told wx (.agg (hasC false true false false false 3 2)))) (w : World) :
    Calls Tryz.prog 48 #[.int .i64 33, dataV ⟨false, 0, 0, n, ⟨#[]⟩, v0, v1, v2, 0, 0, [], ⟨#[]⟩⟩ nilS] w (Told w (.int .i64 0)) := by
  have hs : (6 + (n.size + 1) : Nat) ≤ 65535 := by
    have := nm_le hn
    omega
  have HK := Lib.hid fun wx => refCheck_srv n v0 v1 v2 hn h0 h1 h2 hh wx
  have HZ := Lib.hid fun wx => refSize_srv n v0 v1 v2 hn h0 h1 h2 hh wx
  obtain ⟨z, hz⟩ : ∃ z : Nat, (6 + (n.size + 1) : Nat) = z := ⟨_, rfl⟩
  rw [hz] at HZ hs
  have hB : Below w.heap.size w (w.alloc (.cells #[.bool false, .int .u64 0, .int .u64 0, .string n, .string ⟨#[]⟩, .int .u32 (v0 : Int), .int .u32 (v1 : Int), .int .u32 (v2 : Int), .int .u32 0, .int .u32 0, .slice none 0 0, .string ⟨#[]⟩] 30)) := (Below.refl _ _).alloc (Nat.le_refl _) _
  have hl : Lies (w.alloc (.cells #[.bool false, .int .u64 0, .int .u64 0, .string n, .string ⟨#[]⟩, .int .u32 (v0 : Int), .int .u32 (v1 : Int), .int .u32 (v2 : Int), .int .u32 0, .int .u32 0, .slice none 0 0, .string ⟨#[]⟩] 30)) w.heap.size 30 #[.bool false, .int .u64 0, .int .u64 0, .string n, .string ⟨#[]⟩, .int .u32 (v0 : Int), .int .u32 (v1 : Int), .int .u32 (v2 : Int), .int .u32 0, .int .u32 0, .slice none 0 0, .string ⟨#[]⟩] := Lies.new _ _ _
  unfold dataV cellsD nilS at HK HZ
  unfold dataV cellsD nilS
  clear hz hh
  go_enter Tryz.func48, Tryz.ntmps48
  go_upto_region 1 with (fail)
  obtain ⟨W, hW⟩ : ∃ W, W = w.alloc (.cells #[.bool false, .int .u64 0, .int .u64 0, .string n, .string ⟨#[]⟩, .int .u32 (v0 : Int), .int .u32 (v1 : Int), .int .u32 (v2 : Int), .int .u32 0, .int .u32 0, .slice none 0 0, .string ⟨#[]⟩] 30) := ⟨_, rfl⟩
  rw [← hW] at hB hl
  have hW2 : w.alloc (.cells #[.bool false, .int .u64 ((0 : Nat) : Int), .int .u64 ((0 : Nat) : Int), .string n, .string ⟨#[]⟩, .int .u32 (v0 : Int), .int .u32 (v1 : Int), .int .u32 (v2 : Int), .int .u32 ((0 : Nat) : Int), .int .u32 ((0 : Nat) : Int), .slice none 0 0, .string ⟨#[]⟩] 30) = W := hW.symm
  first | rw [hW2] | rw [← hW]
  clear hW hW2
  have x0 := hl.cell 0
  have x1 := hl.cell 1
  have x2 := hl.cell 2
  have x3 := hl.cell 3
  have x4 := hl.cell 4
  have x5 := hl.cell 5
  have x6 := hl.cell 6
  have x7 := hl.cell 7
  have x8 := hl.cell 8
  have x9 := hl.cell 9
  have x10 := hl.cell 10
  have x11 := hl.cell 11
  simp at x0 x1 x2 x3 x4 x5 x6 x7 x8 x9 x10 x11
  go_wp2_with fail
  refine (HK.out _).mono ?_
  rintro e w1 ⟨rfl, hb⟩
  have hl1 := hl.next hb
  have hb1 := hB.trans (hb.mono hB.size)
  clear x0 x1 x2 x3 x4 x5 x6 x7 x8 x9 x10 x11
  have x0 := hl1.cell 0
  have x1 := hl1.cell 1
  have x2 := hl1.cell 2
  have x3 := hl1.cell 3
  have x4 := hl1.cell 4
  have x5 := hl1.cell 5
  have x6 := hl1.cell 6
  have x7 := hl1.cell 7
  have x8 := hl1.cell 8
  have x9 := hl1.cell 9
  have x10 := hl1.cell 10
  have x11 := hl1.cell 11
  simp at x0 x1 x2 x3 x4 x5 x6 x7 x8 x9 x10 x11
  clear hl hB hb
  go_wp2_with fail
  refine (HZ.out _).mono ?_
  rintro e w2 ⟨rfl, hb⟩
  have HB := Lib.hid (hb1.trans (hb.mono hb1.size))
  clear hb hb1 hl1
  go_wp2
  go_ret
  exact ⟨rfl, HB.out⟩
set_option maxHeartbeats 4000000 in
theorem refSize_raw (t : Int) (r : ByteArray) (ht0 : 0 ≤ t) (ht1 : t ≤ 65535) (hta : t ≠ 1 ∧ t ≠ 28) (hr : r.size ≤ 65535) (hh : ∀ wx, Calls Tryz.prog 43 #[.int .i64 t] wx (Told wx (.agg (hasC false false false false true 0 0)))) (w : World) :
    Calls Tryz.prog 88 #[.int .i64 t, dataV ⟨false, 0, 0, ⟨#[]⟩, ⟨#[]⟩, 0, 0, 0, 0, 0, [], r⟩ nilS] w (Told w (.int .i64 ((r.size : Nat) : Int))) := by
  have HH := Lib.hid hh
  have q1 : (t == 1) = false := by rw [beq_eq_false_iff_ne]; exact hta.1
  have q2 : (t == 28) = false := by rw [beq_eq_false_iff_ne]; exact hta.2
  clear hh
  have hB : Below w.heap.size w (w.alloc (.cells #[.bool false, .int .u64 0, .int .u64 0, .string ⟨#[]⟩, .string ⟨#[]⟩, .int .u32 0, .int .u32 0, .int .u32 0, .int .u32 0, .int .u32 0, .slice none 0 0, .string r] 30)) := (Below.refl _ _).alloc (Nat.le_refl _) _
  have hl : Lies (w.alloc (.cells #[.bool false, .int .u64 0, .int .u64 0, .string ⟨#[]⟩, .string ⟨#[]⟩, .int .u32 0, .int .u32 0, .int .u32 0, .int .u32 0, .int .u32 0, .slice none 0 0, .string r] 30)) w.heap.size 30 #[.bool false, .int .u64 0, .int .u64 0, .string ⟨#[]⟩, .string ⟨#[]⟩, .int .u32 0, .int .u32 0, .int .u32 0, .int .u32 0, .int .u32 0, .slice none 0 0, .string r] := Lies.new _ _ _
  unfold dataV cellsD nilS
  go_enter Tryz.func88, Tryz.ntmps88
  go_wp2_with fail
  obtain ⟨W, hW⟩ : ∃ W, W = w.alloc (.cells #[.bool false, .int .u64 0, .int .u64 0, .string ⟨#[]⟩, .string ⟨#[]⟩, .int .u32 0, .int .u32 0, .int .u32 0, .int .u32 0, .int .u32 0, .slice none 0 0, .string r] 30) := ⟨_, rfl⟩
  rw [← hW] at hB hl
  have hW2 : w.alloc (.cells #[.bool false, .int .u64 ((0 : Nat) : Int), .int .u64 ((0 : Nat) : Int), .string ⟨#[]⟩, .string ⟨#[]⟩, .int .u32 ((0 : Nat) : Int), .int .u32 ((0 : Nat) : Int), .int .u32 ((0 : Nat) : Int), .int .u32 ((0 : Nat) : Int), .int .u32 ((0 : Nat) : Int), .slice none 0 0, .string r] 30) = W := hW.symm
  first | rw [hW2] | rw [← hW]
  clear hW hW2
  refine (HH.out _).mono ?_
  rintro e w1 ⟨rfl, hb⟩
  have hl1 := (hl.next hb).alloc (.cells (hasC false false false false true 0 0) 93)
  have hh1 := Lies.new w1 93 (hasC false false false false true 0 0)
  have hb1 := (hB.trans (hb.mono hB.size)).alloc (hB.trans (hb.mono hB.size)).size (.cells (hasC false false false false true 0 0) 93)
  go_upto_region 2 with (fail)
  obtain ⟨w2, hw2⟩ : ∃ x, x = w1.alloc (.cells (hasC false false false false true 0 0) 93) := ⟨_, rfl⟩
  rw [← hw2] at hl1 hh1 hb1
  have hw3 : w1.alloc (.cells #[.bool false, .bool false, .bool false, .bool false, .bool true, .int .i64 0, .int .i64 0] 93) = w2 := hw2.symm
  first | rw [hw3] | rw [← hw2]
  obtain ⟨g, hg⟩ : ∃ x, x = w1.heap.size := ⟨_, rfl⟩
  rw [← hg] at hh1 ⊢
  clear hw2 hw3 hg
  have HB := Lib.hid hb1
  have x0 := hl1.cell 0
  have x1 := hl1.cell 1
  have x2 := hl1.cell 2
  have x3 := hl1.cell 3
  have x4 := hl1.cell 4
  have x5 := hl1.cell 5
  have x6 := hl1.cell 6
  have x7 := hl1.cell 7
  have x8 := hl1.cell 8
  have x9 := hl1.cell 9
  have x10 := hl1.cell 10
  have x11 := hl1.cell 11
  have h0 := hh1.cell 0
  have h1 := hh1.cell 1
  have h2 := hh1.cell 2
  have h3 := hh1.cell 3
  have h4 := hh1.cell 4
  have h5 := hh1.cell 5
  have h6 := hh1.cell 6
  clear hl hl1 hh1 hb1 hb hB HH
  simp at x0 x1 x2 x3 x4 x5 x6 x7 x8 x9 x10 x11 h0 h1 h2 h3 h4 h5 h6
  go_wp2
  go_loop [6, 7] (fun v i => v = .int .i64 ((r.size : Nat) : Int) ∧ i = .int .i64 0) (fun _ _ => 0)
  case atStart => exact ⟨ival (by first | rfl | omega | (simp; omega)), rfl⟩
  case round =>
    obtain ⟨rfl, rfl⟩ := hrel
    go_wp2
    go_ret
    exact ⟨rfl, HB.out⟩
set_option maxHeartbeats 4000000 in
theorem refDCheck_raw (t : Int) (r : ByteArray) (ht0 : 0 ≤ t) (ht1 : t ≤ 65535) (hta : t ≠ 1 ∧ t ≠ 28) (hr : r.size ≤ 65535) (hh : ∀ wx, Calls Tryz.prog 43 #[.int .i64 t] wx (Told wx (.agg (hasC false false false false true 0 0)))) (w : World) :
    Calls Tryz.prog 48 #[.int .i64 t, dataV ⟨false, 0, 0, ⟨#[]⟩, ⟨#[]⟩, 0, 0, 0, 0, 0, [], r⟩ nilS] w (Told w (.int .i64 0)) := by
  have hs : (r.size : Nat) ≤ 65535 := by
    omega
  have HK := Lib.hid fun wx => refCheck_raw t r ht0 ht1 hta hr hh wx
  have HZ := Lib.hid fun wx => refSize_raw t r ht0 ht1 hta hr hh wx
  obtain ⟨z, hz⟩ : ∃ z : Nat, (r.size : Nat) = z := ⟨_, rfl⟩
  rw [hz] at HZ hs
  have hB : Below w.heap.size w (w.alloc (.cells #[.bool false, .int .u64 0, .int .u64 0, .string ⟨#[]⟩, .string ⟨#[]⟩, .int .u32 0, .int .u32 0, .int .u32 0, .int .u32 0, .int .u32 0, .slice none 0 0, .string r] 30)) := (Below.refl _ _).alloc (Nat.le_refl _) _
  have hl : Lies (w.alloc (.cells #[.bool false, .int .u64 0, .int .u64 0, .string ⟨#[]⟩, .string ⟨#[]⟩, .int .u32 0, .int .u32 0, .int .u32 0, .int .u32 0, .int .u32 0, .slice none 0 0, .string r] 30)) w.heap.size 30 #[.bool false, .int .u64 0, .int .u64 0, .string ⟨#[]⟩, .string ⟨#[]⟩, .int .u32 0, .int .u32 0, .int .u32 0, .int .u32 0, .int .u32 0, .slice none 0 0, .string r] := Lies.new _ _ _
  unfold dataV cellsD nilS at HK HZ
  unfold dataV cellsD nilS
  clear hz hh
  go_enter Tryz.func48, Tryz.ntmps48
  go_upto_region 1 with (fail)
  obtain ⟨W, hW⟩ : ∃ W, W = w.alloc (.cells #[.bool false, .int .u64 0, .int .u64 0, .string ⟨#[]⟩, .string ⟨#[]⟩, .int .u32 0, .int .u32 0, .int .u32 0, .int .u32 0, .int .u32 0, .slice none 0 0, .string r] 30) := ⟨_, rfl⟩
  rw [← hW] at hB hl
  have hW2 : w.alloc (.cells #[.bool false, .int .u64 ((0 : Nat) : Int), .int .u64 ((0 : Nat) : Int), .string ⟨#[]⟩, .string ⟨#[]⟩, .int .u32 ((0 : Nat) : Int), .int .u32 ((0 : Nat) : Int), .int .u32 ((0 : Nat) : Int), .int .u32 ((0 : Nat) : Int), .int .u32 ((0 : Nat) : Int), .slice none 0 0, .string r] 30) = W := hW.symm
  first | rw [hW2] | rw [← hW]
  clear hW hW2
  have x0 := hl.cell 0
  have x1 := hl.cell 1
  have x2 := hl.cell 2
  have x3 := hl.cell 3
  have x4 := hl.cell 4
  have x5 := hl.cell 5
  have x6 := hl.cell 6
  have x7 := hl.cell 7
  have x8 := hl.cell 8
  have x9 := hl.cell 9
  have x10 := hl.cell 10
  have x11 := hl.cell 11
  simp at x0 x1 x2 x3 x4 x5 x6 x7 x8 x9 x10 x11
  go_wp2_with fail
  refine (HK.out _).mono ?_
  rintro e w1 ⟨rfl, hb⟩
  have hl1 := hl.next hb
  have hb1 := hB.trans (hb.mono hB.size)
  clear x0 x1 x2 x3 x4 x5 x6 x7 x8 x9 x10 x11
  have x0 := hl1.cell 0
  have x1 := hl1.cell 1
  have x2 := hl1.cell 2
  have x3 := hl1.cell 3
  have x4 := hl1.cell 4
  have x5 := hl1.cell 5
  have x6 := hl1.cell 6
  have x7 := hl1.cell 7
  have x8 := hl1.cell 8
  have x9 := hl1.cell 9
  have x10 := hl1.cell 10
  have x11 := hl1.cell 11
  simp at x0 x1 x2 x3 x4 x5 x6 x7 x8 x9 x10 x11
  clear hl hB hb
  go_wp2_with fail
  refine (HZ.out _).mono ?_
  rintro e w2 ⟨rfl, hb⟩
  have HB := Lib.hid (hb1.trans (hb.mono hb1.size))
  clear hb hb1 hl1
  go_wp2
  go_ret
  exact ⟨rfl, HB.out⟩
end Go.Proofs.YtodedbokeodmkaaGreat
namespace Go.Proofs.YtodedbokeodmkaaGreat
open Go.RowKit
set_option linter.unusedVariables false
set_option maxRecDepth 100000

/-- An element of a row that can be read. -/
theorem ref_srow_at {w : World} {A : Option Addr} {cap : Nat} {L : List ByteArray} (h : SRow w (.slice A L.length cap) L) (k : Nat) (hk : k < L.length) : ∃ g o, A = some ⟨g, o, none⟩ ∧ w.cell? ⟨g, o + k, none⟩ = some (.string L[k]) := by
  rcases h with ⟨_, _, e2⟩ | ⟨g1, off1, cp1, e1, _, _, _, e3⟩
  · rw [e2] at hk
    simp at hk
  · injection e1 with e1 _ _
    exact ⟨g1, off1, e1, e3 k hk⟩
/-- How many octets texts have. -/
def szL (L : List ByteArray) : Nat := L.foldl (fun n x => n + 1 + x.size) 0
theorem szL_snoc (L : List ByteArray) (x : ByteArray) : szL (L ++ [x]) = szL L + 1 + x.size := by simp [szL]
theorem szL_le : ∀ (n : Nat) (L : List ByteArray), L.length = n → (∀ x ∈ L, x.size ≤ 255) → szL L ≤ 256 * n
  | 0, L, h, _ => by rw [List.length_eq_zero_iff.1 h]; decide
  | n + 1, L, h, hx => by
    have hne : L ≠ [] := fun e => by rw [e] at h; cases h
    have h1 := szL_le n L.dropLast (by rw [List.length_dropLast]; omega) (fun x hm => hx x (List.dropLast_subset L hm))
    have h2 := hx _ (List.getLast_mem hne)
    rw [← List.dropLast_concat_getLast hne, szL_snoc]
    omega
set_option maxHeartbeats 4000000 in
theorem refCheck_txt (A : Option Addr) (cap : Nat) (L : List ByteArray) (w : World) (hrow : SRow w (.slice A L.length cap) L) (h0 : 0 < L.length) (h255 : ∀ x ∈ L, x.size ≤ 255) (hlen : L.length ≤ 70000) (hh : ∀ wx, Calls Tryz.prog 43 #[.int .i64 16] wx (Told wx (.agg (hasC false false false true false 0 0)))) :
    Calls Tryz.prog 87 #[.int .i64 16, dataV ⟨false, 0, 0, ⟨#[]⟩, ⟨#[]⟩, 0, 0, 0, 0, 0, L, ⟨#[]⟩⟩ (.slice A L.length cap)] w (Told w (.int .i64 0)) := by
  have HH := Lib.hid hh
  have HM := Lib.hid rn_none
  obtain ⟨_, cap', hsh, hc1, hc2⟩ := hrow.shape
  injection hsh with hA hB0 hcc
  subst hcc
  clear hA hB0
  unfold maxLen at hc2
  have HRow := Lib.hid fun wx hb => hrow.next (w' := wx) hb
  have H255 := Lib.hid h255
  have g0 : (0 : Int) < (L.length : Int) := by omega
  clear hh h255 hrow
  have hB : Below w.heap.size w (w.alloc (.cells #[.bool false, .int .u64 0, .int .u64 0, .string ⟨#[]⟩, .string ⟨#[]⟩, .int .u32 0, .int .u32 0, .int .u32 0, .int .u32 0, .int .u32 0, .slice A L.length cap, .string ⟨#[]⟩] 30)) := (Below.refl _ _).alloc (Nat.le_refl _) _
  have hl : Lies (w.alloc (.cells #[.bool false, .int .u64 0, .int .u64 0, .string ⟨#[]⟩, .string ⟨#[]⟩, .int .u32 0, .int .u32 0, .int .u32 0, .int .u32 0, .int .u32 0, .slice A L.length cap, .string ⟨#[]⟩] 30)) w.heap.size 30 #[.bool false, .int .u64 0, .int .u64 0, .string ⟨#[]⟩, .string ⟨#[]⟩, .int .u32 0, .int .u32 0, .int .u32 0, .int .u32 0, .int .u32 0, .slice A L.length cap, .string ⟨#[]⟩] := Lies.new _ _ _
  unfold dataV cellsD
  go_enter Tryz.func87, Tryz.ntmps87
  go_wp2_with fail
  obtain ⟨W, hW⟩ : ∃ W, W = w.alloc (.cells #[.bool false, .int .u64 0, .int .u64 0, .string ⟨#[]⟩, .string ⟨#[]⟩, .int .u32 0, .int .u32 0, .int .u32 0, .int .u32 0, .int .u32 0, .slice A L.length cap, .string ⟨#[]⟩] 30) := ⟨_, rfl⟩
  rw [← hW] at hB hl
  have hW2 : w.alloc (.cells #[.bool false, .int .u64 ((0 : Nat) : Int), .int .u64 ((0 : Nat) : Int), .string ⟨#[]⟩, .string ⟨#[]⟩, .int .u32 ((0 : Nat) : Int), .int .u32 ((0 : Nat) : Int), .int .u32 ((0 : Nat) : Int), .int .u32 ((0 : Nat) : Int), .int .u32 ((0 : Nat) : Int), .slice A L.length cap, .string ⟨#[]⟩] 30) = W := hW.symm
  first | rw [hW2] | rw [← hW]
  clear hW hW2
  refine (HH.out _).mono ?_
  rintro e w1 ⟨rfl, hb⟩
  have hl1 := (hl.next hb).alloc (.cells (hasC false false false true false 0 0) 93)
  have hh1 := Lies.new w1 93 (hasC false false false true false 0 0)
  have hb1 := (hB.trans (hb.mono hB.size)).alloc (hB.trans (hb.mono hB.size)).size (.cells (hasC false false false true false 0 0) 93)
  go_upto_region 4 with (fail)
  obtain ⟨w2, hw2⟩ : ∃ x, x = w1.alloc (.cells (hasC false false false true false 0 0) 93) := ⟨_, rfl⟩
  rw [← hw2] at hl1 hh1 hb1
  have hw3 : w1.alloc (.cells #[.bool false, .bool false, .bool false, .bool true, .bool false, .int .i64 0, .int .i64 0] 93) = w2 := hw2.symm
  first | rw [hw3] | rw [← hw2]
  obtain ⟨g, hg⟩ : ∃ x, x = w1.heap.size := ⟨_, rfl⟩
  rw [← hg] at hh1 ⊢
  clear hw2 hw3 hg
  have HB := Lib.hid hb1
  have x0 := hl1.cell 0
  have x1 := hl1.cell 1
  have x2 := hl1.cell 2
  have x3 := hl1.cell 3
  have x4 := hl1.cell 4
  have x5 := hl1.cell 5
  have x6 := hl1.cell 6
  have x7 := hl1.cell 7
  have x8 := hl1.cell 8
  have x9 := hl1.cell 9
  have x10 := hl1.cell 10
  have x11 := hl1.cell 11
  have h0 := hh1.cell 0
  have h1 := hh1.cell 1
  have h2 := hh1.cell 2
  have h3 := hh1.cell 3
  have h4 := hh1.cell 4
  have h5 := hh1.cell 5
  have h6 := hh1.cell 6
  have ha := ad_none w2
  clear hl hl1 hh1 hb1 hb hB HH
  simp at x0 x1 x2 x3 x4 x5 x6 x7 x8 x9 x10 x11 h0 h1 h2 h3 h4 h5 h6
  go_wp2
  clear ha
  go_loop [6] (fun i => ∃ k : Nat, i = .int .i64 k ∧ k ≤ 5) (fun i => 5 - (intOf i).toNat)
  case atStart => exact ⟨0, rfl, by omega⟩
  case round =>
    obtain ⟨k, rfl, hk⟩ := hrel
    obtain rfl | rfl | rfl | rfl | rfl | rfl : k = 0 ∨ k = 1 ∨ k = 2 ∨ k = 3 ∨ k = 4 ∨ k = 5 := by omega
    · go_wp2
      go_round
      case rel => exact ⟨1, by go_num, by omega⟩
      case measure => simp [intOf]
    · go_wp2
      go_round
      case rel => exact ⟨2, by go_num, by omega⟩
      case measure => simp [intOf]
    · go_wp2
      go_round
      case rel => exact ⟨3, by go_num, by omega⟩
      case measure => simp [intOf]
    · go_wp2
      go_round
      case rel => exact ⟨4, by go_num, by omega⟩
      case measure => simp [intOf]
    · go_wp2
      go_round
      case rel => exact ⟨5, by go_num, by omega⟩
      case measure => simp [intOf]
    · go_wp2_with (go_at_call 60; (with_reducible refine (HM.out _).mono ?_); rintro e w' ⟨rfl, rfl⟩)
      go_loop [7, 8] (fun v i => v = .int .i64 0 ∧ ∃ k : Nat, i = .int .i64 k ∧ k ≤ L.length) (fun _ i => L.length - (intOf i).toNat)
      case atStart => exact ⟨rfl, 0, rfl, Nat.zero_le _⟩
      case round =>
        obtain ⟨rfl, k, rfl, hk⟩ := hrel
        rcases Nat.lt_or_ge k L.length with hlt | hge
        · obtain ⟨g1, o1, rfl, y0⟩ := ref_srow_at (HRow.out _ HB.out) k hlt
          have y1 := H255.out _ (List.getElem_mem hlt)
          go_wp2
          go_round
          case rel => exact ⟨rfl, k + 1, by go_num, by omega⟩
          case measure => simp [intOf]; omega
        · obtain rfl : k = L.length := by omega
          go_wp2
          go_ret
          exact ⟨rfl, HB.out⟩
set_option maxHeartbeats 4000000 in
theorem refSize_txt (A : Option Addr) (cap : Nat) (L : List ByteArray) (w : World) (hrow : SRow w (.slice A L.length cap) L) (h0 : 0 < L.length) (h255 : ∀ x ∈ L, x.size ≤ 255) (hlen : L.length ≤ 70000) (hh : ∀ wx, Calls Tryz.prog 43 #[.int .i64 16] wx (Told wx (.agg (hasC false false false true false 0 0)))) :
    Calls Tryz.prog 88 #[.int .i64 16, dataV ⟨false, 0, 0, ⟨#[]⟩, ⟨#[]⟩, 0, 0, 0, 0, 0, L, ⟨#[]⟩⟩ (.slice A L.length cap)] w (Told w (.int .i64 ((szL L : Nat) : Int))) := by
  have HH := Lib.hid hh
  obtain ⟨_, cap', hsh, hc1, hc2⟩ := hrow.shape
  injection hsh with hA hB0 hcc
  subst hcc
  clear hA hB0
  unfold maxLen at hc2
  have HRow := Lib.hid fun wx hb => hrow.next (w' := wx) hb
  have H255 := Lib.hid h255
  clear hh h255 hrow
  have hB : Below w.heap.size w (w.alloc (.cells #[.bool false, .int .u64 0, .int .u64 0, .string ⟨#[]⟩, .string ⟨#[]⟩, .int .u32 0, .int .u32 0, .int .u32 0, .int .u32 0, .int .u32 0, .slice A L.length cap, .string ⟨#[]⟩] 30)) := (Below.refl _ _).alloc (Nat.le_refl _) _
  have hl : Lies (w.alloc (.cells #[.bool false, .int .u64 0, .int .u64 0, .string ⟨#[]⟩, .string ⟨#[]⟩, .int .u32 0, .int .u32 0, .int .u32 0, .int .u32 0, .int .u32 0, .slice A L.length cap, .string ⟨#[]⟩] 30)) w.heap.size 30 #[.bool false, .int .u64 0, .int .u64 0, .string ⟨#[]⟩, .string ⟨#[]⟩, .int .u32 0, .int .u32 0, .int .u32 0, .int .u32 0, .int .u32 0, .slice A L.length cap, .string ⟨#[]⟩] := Lies.new _ _ _
  unfold dataV cellsD
  go_enter Tryz.func88, Tryz.ntmps88
  go_wp2_with fail
  obtain ⟨W, hW⟩ : ∃ W, W = w.alloc (.cells #[.bool false, .int .u64 0, .int .u64 0, .string ⟨#[]⟩, .string ⟨#[]⟩, .int .u32 0, .int .u32 0, .int .u32 0, .int .u32 0, .int .u32 0, .slice A L.length cap, .string ⟨#[]⟩] 30) := ⟨_, rfl⟩
  rw [← hW] at hB hl
  have hW2 : w.alloc (.cells #[.bool false, .int .u64 ((0 : Nat) : Int), .int .u64 ((0 : Nat) : Int), .string ⟨#[]⟩, .string ⟨#[]⟩, .int .u32 ((0 : Nat) : Int), .int .u32 ((0 : Nat) : Int), .int .u32 ((0 : Nat) : Int), .int .u32 ((0 : Nat) : Int), .int .u32 ((0 : Nat) : Int), .slice A L.length cap, .string ⟨#[]⟩] 30) = W := hW.symm
  first | rw [hW2] | rw [← hW]
  clear hW hW2
  refine (HH.out _).mono ?_
  rintro e w1 ⟨rfl, hb⟩
  have hl1 := (hl.next hb).alloc (.cells (hasC false false false true false 0 0) 93)
  have hh1 := Lies.new w1 93 (hasC false false false true false 0 0)
  have hb1 := (hB.trans (hb.mono hB.size)).alloc (hB.trans (hb.mono hB.size)).size (.cells (hasC false false false true false 0 0) 93)
  go_upto_region 2 with (fail)
  obtain ⟨w2, hw2⟩ : ∃ x, x = w1.alloc (.cells (hasC false false false true false 0 0) 93) := ⟨_, rfl⟩
  rw [← hw2] at hl1 hh1 hb1
  have hw3 : w1.alloc (.cells #[.bool false, .bool false, .bool false, .bool true, .bool false, .int .i64 0, .int .i64 0] 93) = w2 := hw2.symm
  first | rw [hw3] | rw [← hw2]
  obtain ⟨g, hg⟩ : ∃ x, x = w1.heap.size := ⟨_, rfl⟩
  rw [← hg] at hh1 ⊢
  clear hw2 hw3 hg
  have HB := Lib.hid hb1
  have x0 := hl1.cell 0
  have x1 := hl1.cell 1
  have x2 := hl1.cell 2
  have x3 := hl1.cell 3
  have x4 := hl1.cell 4
  have x5 := hl1.cell 5
  have x6 := hl1.cell 6
  have x7 := hl1.cell 7
  have x8 := hl1.cell 8
  have x9 := hl1.cell 9
  have x10 := hl1.cell 10
  have x11 := hl1.cell 11
  have h0 := hh1.cell 0
  have h1 := hh1.cell 1
  have h2 := hh1.cell 2
  have h3 := hh1.cell 3
  have h4 := hh1.cell 4
  have h5 := hh1.cell 5
  have h6 := hh1.cell 6
  clear hl hl1 hh1 hb1 hb hB HH
  simp at x0 x1 x2 x3 x4 x5 x6 x7 x8 x9 x10 x11 h0 h1 h2 h3 h4 h5 h6
  go_wp2
  go_loop [6, 7] (fun v i => ∃ k : Nat, i = .int .i64 k ∧ k ≤ L.length ∧ v = .int .i64 (szL (L.take k) : Nat)) (fun _ i => L.length - (intOf i).toNat)
  case atStart => exact ⟨0, rfl, Nat.zero_le _, rfl⟩
  case round =>
    obtain ⟨k, rfl, hk, rfl⟩ := hrel
    rcases Nat.lt_or_ge k L.length with hlt | hge
    · obtain ⟨g1, o1, rfl, y0⟩ := ref_srow_at (HRow.out _ HB.out) k hlt
      have y1 := H255.out _ (List.getElem_mem hlt)
      have hsn : L.take (k + 1) = L.take k ++ [L[k]] := List.take_succ_eq_append_getElem hlt
      have HSn := Lib.hid (szL_snoc (L.take k) L[k])
      rw [← hsn] at HSn
      have hbd := szL_le k (L.take k) (by rw [List.length_take]; omega) (fun x hx => H255.out x (List.mem_of_mem_take hx))
      have hbd2 : szL (L.take k) ≤ 20000000 := by omega
      clear hsn hbd
      go_wp2
      go_round
      case rel => exact ⟨k + 1, by go_num, by omega, by rw [HSn.out]; first | rfl | exact ival (by omega)⟩
      case measure => simp [intOf]; omega
    · obtain rfl : k = L.length := by omega
      go_wp2
      go_ret
      exact ⟨by first | rfl | (rw [List.take_length]; rfl), HB.out⟩
set_option maxHeartbeats 4000000 in
theorem refDCheck_txt (A : Option Addr) (cap : Nat) (L : List ByteArray) (w : World) (hrow : SRow w (.slice A L.length cap) L) (h0 : 0 < L.length) (h255 : ∀ x ∈ L, x.size ≤ 255) (hlen : L.length ≤ 70000) (hh : ∀ wx, Calls Tryz.prog 43 #[.int .i64 16] wx (Told wx (.agg (hasC false false false true false 0 0)))) (hz : szL L ≤ 65535) :
    Calls Tryz.prog 48 #[.int .i64 16, dataV ⟨false, 0, 0, ⟨#[]⟩, ⟨#[]⟩, 0, 0, 0, 0, 0, L, ⟨#[]⟩⟩ (.slice A L.length cap)] w (Told w (.int .i64 0)) := by
  have HK := Lib.hid fun wx (hb : Below w.heap.size w wx) => refCheck_txt A cap L wx (hrow.next hb) h0 h255 hlen hh
  have HZ := Lib.hid fun wx (hb : Below w.heap.size w wx) => refSize_txt A cap L wx (hrow.next hb) h0 h255 hlen hh
  obtain ⟨z, hzv⟩ : ∃ z : Nat, szL L = z := ⟨_, rfl⟩
  rw [hzv] at HZ hz
  obtain ⟨_, cap', hsh, hc1, hc2⟩ := hrow.shape
  injection hsh with hA hB0 hcc
  subst hcc
  clear hA hB0
  unfold maxLen at hc2
  have hB : Below w.heap.size w (w.alloc (.cells #[.bool false, .int .u64 0, .int .u64 0, .string ⟨#[]⟩, .string ⟨#[]⟩, .int .u32 0, .int .u32 0, .int .u32 0, .int .u32 0, .int .u32 0, .slice A L.length cap, .string ⟨#[]⟩] 30)) := (Below.refl _ _).alloc (Nat.le_refl _) _
  have hl : Lies (w.alloc (.cells #[.bool false, .int .u64 0, .int .u64 0, .string ⟨#[]⟩, .string ⟨#[]⟩, .int .u32 0, .int .u32 0, .int .u32 0, .int .u32 0, .int .u32 0, .slice A L.length cap, .string ⟨#[]⟩] 30)) w.heap.size 30 #[.bool false, .int .u64 0, .int .u64 0, .string ⟨#[]⟩, .string ⟨#[]⟩, .int .u32 0, .int .u32 0, .int .u32 0, .int .u32 0, .int .u32 0, .slice A L.length cap, .string ⟨#[]⟩] := Lies.new _ _ _
  unfold dataV cellsD at HK HZ
  unfold dataV cellsD
  clear hzv hh hrow h255
  go_enter Tryz.func48, Tryz.ntmps48
  go_upto_region 1 with (fail)
  obtain ⟨W, hW⟩ : ∃ W, W = w.alloc (.cells #[.bool false, .int .u64 0, .int .u64 0, .string ⟨#[]⟩, .string ⟨#[]⟩, .int .u32 0, .int .u32 0, .int .u32 0, .int .u32 0, .int .u32 0, .slice A L.length cap, .string ⟨#[]⟩] 30) := ⟨_, rfl⟩
  rw [← hW] at hB hl
  have hW2 : w.alloc (.cells #[.bool false, .int .u64 ((0 : Nat) : Int), .int .u64 ((0 : Nat) : Int), .string ⟨#[]⟩, .string ⟨#[]⟩, .int .u32 ((0 : Nat) : Int), .int .u32 ((0 : Nat) : Int), .int .u32 ((0 : Nat) : Int), .int .u32 ((0 : Nat) : Int), .int .u32 ((0 : Nat) : Int), .slice A L.length cap, .string ⟨#[]⟩] 30) = W := hW.symm
  first | rw [hW2] | rw [← hW]
  clear hW hW2
  have HB0 := Lib.hid hB
  have x0 := hl.cell 0
  have x1 := hl.cell 1
  have x2 := hl.cell 2
  have x3 := hl.cell 3
  have x4 := hl.cell 4
  have x5 := hl.cell 5
  have x6 := hl.cell 6
  have x7 := hl.cell 7
  have x8 := hl.cell 8
  have x9 := hl.cell 9
  have x10 := hl.cell 10
  have x11 := hl.cell 11
  simp at x0 x1 x2 x3 x4 x5 x6 x7 x8 x9 x10 x11
  go_wp2_with fail
  refine (HK.out _ HB0.out).mono ?_
  rintro e w1 ⟨rfl, hb⟩
  have hl1 := hl.next hb
  have hb1 := hB.trans (hb.mono hB.size)
  clear x0 x1 x2 x3 x4 x5 x6 x7 x8 x9 x10 x11
  have x0 := hl1.cell 0
  have x1 := hl1.cell 1
  have x2 := hl1.cell 2
  have x3 := hl1.cell 3
  have x4 := hl1.cell 4
  have x5 := hl1.cell 5
  have x6 := hl1.cell 6
  have x7 := hl1.cell 7
  have x8 := hl1.cell 8
  have x9 := hl1.cell 9
  have x10 := hl1.cell 10
  have x11 := hl1.cell 11
  simp at x0 x1 x2 x3 x4 x5 x6 x7 x8 x9 x10 x11
  clear hl hB hb
  go_wp2_with fail
  refine (HZ.out _ hb1).mono ?_
  rintro e w2 ⟨rfl, hb⟩
  have HB := Lib.hid (hb1.trans (hb.mono hb1.size))
  clear hb hb1 hl1
  go_wp2
  go_ret
  exact ⟨rfl, HB.out⟩
end Go.Proofs.YtodedbokeodmkaaGreat
