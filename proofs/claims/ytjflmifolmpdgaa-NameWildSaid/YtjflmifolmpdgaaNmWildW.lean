/-
  NameWild, whole: for every three strings. Condition: the strings are no longer than Go's own limit.
-/
import Derived.Test.YtjflmifolmpdgaaNmWild
namespace Go.Proofs.Ytjflmifolmpdgaa
open Go.RowKit
set_option linter.unusedVariables false

theorem pre_len {X Y : List (List UInt8)} (h : Y <+: X) (hl : X.length ≤ Y.length) : Y = X := h.eq_of_length (Nat.le_antisymm h.length_le hl)
theorem star_cut (p : List UInt8) : cutL ([1, 42] ++ p) = some ([42], p) := cutL_enc (x := [42]) (by unfold ok1; decide) p
/-- Under and not the same: under, and longer. -/
theorem under_same {n p : List UInt8} (hn : chkN n = 0) (hp : chkN p = 0) :
    (undN n p && decide ((nlabs p).length < (nlabs n).length)) = (undN n p && !samN n p) ∧ undN n p = ((undN n p && !samN n p) || samN n p) := by
  have hs : samN n p = decide (rows n = rows p) := by
    unfold samN cmpN
    rw [hn, hp, Bool.eq_iff_iff]
    simp [cmpR_zero]
  cases hu : undN n p
  · have : samN n p = false := by
      rw [hs]
      refine decide_eq_false fun e => ?_
      rw [undN_iff.2 ⟨hn, hp, by rw [e]; exact List.prefix_refl _⟩] at hu
      cases hu
    rw [this]
    simp
  · obtain ⟨_, _, h⟩ := undN_iff.1 hu
    have h1 := h.length_le
    rw [rows_length, rows_length] at h1
    rw [hs]
    by_cases he : rows n = rows p
    · have h2 := congrArg List.length he
      rw [rows_length, rows_length] at h2
      rw [decide_eq_true he, decide_eq_false (by omega)]
      simp
    · have h2 : (nlabs p).length < (nlabs n).length := by
        rcases Nat.lt_or_ge (nlabs p).length (nlabs n).length with hlt | hge
        · exact hlt
        · exact absurd (pre_len h (by rw [rows_length, rows_length]; exact hge)).symm he
      rw [decide_eq_false he, decide_eq_true h2]
      simp

/-- What the law's plain facts are, of a wildcard over p. -/
theorem nwild_facts {n p q : List UInt8} (hn : chkN n = 0) (hp : chkN p = 0) (hq : q = [1, 42] ++ p) (hqc : chkN q = 0) :
    wildN q = true ∧ matN q n = (undN n p && !samN n p) ∧ matN q q = true ∧ matN q p = false := by
  have hc : cutL q = some ([42], p) := by rw [hq]; exact star_cut p
  have hw : wildN q = true := by
    unfold wildN
    rw [hqc, wild_cut hc]
    rfl
  have hpar : (parN q).1 = p := by rw [parN_some hqc hc]
  have hnl := (chkN_tail hqc hc).2
  have hrows : rows q = rows p ++ [fold [42]] := by
    unfold rows
    rw [hnl]
    simp
  refine ⟨hw, ?_, ?_, ?_⟩
  · unfold matN
    rw [hw, hpar, Bool.true_and, (under_same hn hp).1]
  · unfold matN
    rw [hw, hpar, Bool.true_and, undN_iff.2 ⟨hqc, hp, by rw [hrows]; exact List.prefix_append _ _⟩, hnl]
    simp
  · unfold matN
    rw [hw, hpar, decide_eq_false (Nat.lt_irrefl _)]
    simp
theorem nwild_more {n p q x o : List UInt8} (hn : chkN n = 0) (hp : chkN p = 0) (hq : q = [1, 42] ++ p) (hqc : chkN q = 0) (ho : ok1 o) (hx : x = enc1 o ++ n) (hxc : chkN x = 0) :
    matN q x = ((undN n p && !samN n p) || samN n p) := by
  have hc : cutL q = some ([42], p) := by rw [hq]; exact star_cut p
  have hw : wildN q = true := by
    unfold wildN
    rw [hqc, wild_cut hc]
    rfl
  have hpar : (parN q).1 = p := by rw [parN_some hqc hc]
  have hcx : cutL x = some (o, n) := by rw [hx]; exact cutL_enc ho n
  have hnl := (chkN_tail hxc hcx).2
  have hrows : rows x = rows n ++ [fold o] := by
    unfold rows
    rw [hnl]
    simp
  rw [← (under_same hn hp).2]
  unfold matN
  rw [hw, hpar, Bool.true_and, hnl, List.length_cons, Bool.eq_iff_iff, Bool.and_eq_true, decide_eq_true_iff, undN_iff, undN_iff, hrows]
  constructor
  · rintro ⟨⟨_, _, h⟩, h2⟩
    refine ⟨hn, hp, List.prefix_of_prefix_length_le h (List.prefix_append _ _) ?_⟩
    rw [rows_length, rows_length]
    omega
  · rintro ⟨_, _, h⟩
    refine ⟨⟨hxc, hp, h.trans (List.prefix_append _ _)⟩, ?_⟩
    have := h.length_le
    rw [rows_length, rows_length] at this
    omega


theorem NameWild_walk (p n l : ByteArray) (hp : p.size ≤ maxLen) (hn : n.size ≤ maxLen) (hl : l.size ≤ maxLen) (w : World) :
    Calls Try.prog 8 #[.string p, .string n, .string l] w fun e w' => e = .returned (.bool true) ∧ Below w.heap.size w w' := by
  rcases outW p n l (chkN (bs p)) (chkN (bs n)) with h | ⟨k1, k2, k3⟩
  · exact nwild_out p n l _ _ w hp hn hl (gCheck hp rfl) (gCheck hn rfl) h
  · have lp := (chkN_iff.1 k1).1
    have ln := (chkN_iff.1 k2).1
    rw [bs_length] at lp ln
    have hst : chkN (bs ⟨#[1, 42]⟩) = 0 := by decide +kernel
    obtain ⟨q, hq⟩ : ∃ q : ByteArray, bs q = (joinN (bs ⟨#[1, 42]⟩) (bs p)).1 := ⟨_, bs_mk _⟩
    by_cases hlong : 254 < 2 + p.size
    · refine nwild_none p n l q (joinN (bs ⟨#[1, 42]⟩) (bs p)).2 w lp ln k3 (gCheck (e := 0) hp k1) (gCheck (e := 0) hn k2) (gJoin (by decide) hp (by rw [hq])) ?_
      rw [joinN_long hst k1 (by rw [bs_length, bs_length]; exact hlong)]
      rfl
    · have j1 := joinN_ok hst k1 (by rw [bs_length, bs_length]; show 2 + p.size ≤ 254; omega)
      have hq' : bs q = [1, 42] ++ bs p := by rw [hq, j1.1]; rfl
      have hqc : chkN (bs q) = 0 := by rw [hq']; exact j1.2.1
      have lq := (chkN_iff.1 hqc).1
      rw [bs_length] at lq
      have hqm : q.size ≤ maxLen := by unfold maxLen; omega
      obtain ⟨f1, f2, f3, f4⟩ := nwild_facts k2 k1 hq' hqc
      obtain ⟨o, ho⟩ : ∃ o : ByteArray, bs o = (mkN [bs l]).1 := ⟨_, bs_mk _⟩
      obtain ⟨x, hx⟩ : ∃ x : ByteArray, bs x = (joinN (bs o) (bs n)).1 := ⟨_, bs_mk _⟩
      have hom : o.size ≤ maxLen := by
        rw [← bs_length, ho]
        unfold mkN named
        split
        · split
          · simp
          · unfold maxLen
            simp only
            omega
        · simp
      have hxm : x.size ≤ maxLen := by
        rw [← bs_length, hx]
        unfold joinN named
        split
        · simp
        · split
          · simp
          · split
            · simp
            · unfold maxLen
              simp only
              omega
      refine nwild_core p n l q o x (undN (bs n) (bs p)) (samN (bs n) (bs p)) (matN (bs q) (bs n)) (matN (bs p) (bs n)) (wildN (bs p)) (matN (bs q) (bs x)) (mkN [bs l]).2 (joinN (bs o) (bs n)).2 w lp ln k3 (gCheck (e := 0) hp k1) (gCheck (e := 0) hn k2)
        (gJoin (e := 0) (by decide) hp (by rw [j1.1, hq']; rfl)) (gMat hqm hn rfl) (gWild hqm f1) (gUnder hn hp rfl) (gSame hn hp rfl) (gMat hp hn rfl) (gWild hp rfl) (gMat hqm hqm f3) (gMat hqm hp f4) (fun wx t => ?_) (gJoin hom hn (by rw [hx])) (gMat hqm hxm rfl) ?_ ?_ ?_
      · have := Make_any (.slice (some ⟨wx.heap.size, 0, none⟩) 1 1) [l] (wx.alloc (.cells #[.string l] t)) (srow_one wx l t) (by simp) (fun y hy => by rw [List.mem_singleton.1 hy]; exact hl)
        refine this.mono ?_
        rintro e w' ⟨rfl, hb⟩
        have e1 : mkN ([l].map bs) = (bs o, (mkN [bs l]).2) := by rw [ho]; rfl
        rw [e1]
        exact ⟨rfl, hb⟩
      · have hu := under_same k2 k1
        rw [f2]
        cases h1 : undN (bs n) (bs p)
        · cases h2 : samN (bs n) (bs p)
          · simp
          · rw [h1, h2] at hu
            simp at hu
        · cases h2 : samN (bs n) (bs p)
          · simp
          · simp
      · cases h1 : matN (bs p) (bs n)
        · exact .inl rfl
        · refine .inr ⟨rfl, ?_⟩
          unfold matN at h1
          rw [Bool.and_eq_true] at h1
          exact h1.1
      · by_cases hk : chk (bs l) = 0
        · have hok := ok1_chk.2 hk
          have hm : mkN [bs l] = (enc1 (bs l), 0) := by
            have h1 : badL [bs l] = 0 := badL_ok.2 (okN_cons.2 ⟨hok, okN_nil⟩)
            unfold mkN named
            rw [if_pos h1, enc_one, if_neg (by rw [enc1_length]; have := hok.2; omega)]
          have e0 : ((mkN [bs l]).2 : Int) = 0 := by rw [hm]; rfl
          have ho' : bs o = enc1 (bs l) := by rw [ho, hm]
          have hoc : chkN (bs o) = 0 := by
            rw [ho', ← enc_one]
            exact chkN_enc (okN_cons.2 ⟨hok, okN_nil⟩) (by rw [enc_one, enc1_length]; have := hok.2; omega)
          right
          by_cases hl2 : 254 < o.size + n.size
          · left
            rw [e0, joinN_long hoc k2 (by rw [bs_length, bs_length]; exact hl2)]
            exact ⟨rfl, rfl⟩
          · right
            have j2 := joinN_ok hoc k2 (by rw [bs_length, bs_length]; omega)
            have hx' : bs x = enc1 (bs l) ++ bs n := by rw [hx, j2.1, ho']
            have hxc : chkN (bs x) = 0 := by rw [hx, j2.1]; exact j2.2.1
            refine ⟨by rw [e0]; rfl, by rw [j2.1]; rfl, ?_⟩
            rw [nwild_more k2 k1 hq' hqc hok hx' hxc, f2]
        · left
          have h1 : badL [bs l] = chk (bs l) := by rw [badL_cons, if_neg hk]
          have hm : mkN [bs l] = ([], chk (bs l)) := by
            unfold mkN
            rw [h1, if_neg hk]
          rw [hm]
          exact bne_iff_ne.2 (by simp; exact hk)
end Go.Proofs.Ytjflmifolmpdgaa
