/-
  NameUnder: each name is under each of its parents, and behind them in order; joined from its labels, one by one, it is itself: the walk. Condition: the name is no longer than Go's own limit.
-/
import Derived.Test.YtjflmifolmpdgaaNmLives
namespace Go.Proofs.Ytjflmifolmpdgaa
open Go.RowKit
set_option linter.unusedVariables false

theorem okN_drop {L : List (List UInt8)} (h : okN L) (k : Nat) : okN (L.drop k) := fun x hx => h x (List.mem_of_mem_drop hx)
theorem enc_drop_le (L : List (List UInt8)) (k : Nat) : (enc (L.drop k)).length ≤ (enc L).length := by
  have := congrArg (fun M => (enc M).length) (List.take_append_drop k L)
  simp only [enc_append, List.length_append] at this
  omega
/-- The parents of a name, and what is known of one and the next. -/
theorem nunder_facts {L : List (List UInt8)} (hL : okN L) (hl : (enc L).length ≤ 254) (m : Nat) (hm : m < L.length) :
    chkN (enc (L.drop m)) = 0 ∧ mkN [L[m]] = (enc1 L[m], 0) ∧ joinN (enc1 L[m]) (enc (L.drop (m + 1))) = (enc (L.drop m), 0) ∧ undN (enc (L.drop m)) (enc (L.drop (m + 1))) = true ∧ cmpN (enc (L.drop (m + 1))) (enc (L.drop m)) = -1 ∧
    undN (enc (L.drop (m + 1))) (enc (L.drop m)) = false ∧ undN (enc L) (enc (L.drop m)) = true ∧ parN (enc (L.drop m)) = (enc (L.drop (m + 1)), true) := by
  have hd : L.drop m = L[m] :: L.drop (m + 1) := List.drop_eq_getElem_cons hm
  have hok : ok1 L[m] := hL _ (List.getElem_mem hm)
  have c0 := chkN_enc hL hl
  have c1 := chkN_enc (okN_drop hL m) (Nat.le_trans (enc_drop_le L m) hl)
  have c2 := chkN_enc (okN_drop hL (m + 1)) (Nat.le_trans (enc_drop_le L (m + 1)) hl)
  have r0 : rows (enc L) = (L.map fold).reverse := by unfold rows; rw [nlabs_yes c0, labs_enc0 hL]
  have r1 : rows (enc (L.drop m)) = ((L.drop m).map fold).reverse := by unfold rows; rw [nlabs_yes c1, labs_enc0 (okN_drop hL m)]
  have r2 : rows (enc (L.drop (m + 1))) = ((L.drop (m + 1)).map fold).reverse := by unfold rows; rw [nlabs_yes c2, labs_enc0 (okN_drop hL (m + 1))]
  have r12 : rows (enc (L.drop m)) = rows (enc (L.drop (m + 1))) ++ [fold L[m]] := by rw [r1, r2, hd, List.map_cons, List.reverse_cons]
  have hcut : cutL (enc (L.drop m)) = some (L[m], enc (L.drop (m + 1))) := by rw [hd, enc_cons]; exact cutL_enc hok _
  have hone : chkN (enc1 L[m]) = 0 := by
    rw [← enc_one]
    exact chkN_enc (okN_cons.2 ⟨hok, okN_nil⟩) (by rw [enc_one, enc1_length]; have := hok.2; omega)
  have hlen : (enc1 L[m]).length + (enc (L.drop (m + 1))).length ≤ 254 := by
    have := enc_drop_le L m
    rw [hd, enc_cons, List.length_append] at this
    omega
  refine ⟨c1, ?_, ?_, ?_, ?_, ?_, ?_, parN_some c1 hcut⟩
  · have h1 : badL [L[m]] = 0 := badL_ok.2 (okN_cons.2 ⟨hok, okN_nil⟩)
    unfold mkN named
    rw [if_pos h1, enc_one, if_neg (by rw [enc1_length]; have := hok.2; omega)]
  · rw [(joinN_ok hone c2 hlen).1, hd, enc_cons]
  · exact undN_iff.2 ⟨c1, c2, by rw [r12]; exact List.prefix_append _ _⟩
  · unfold cmpN
    rw [r12, cmpR_pre _ _ (List.prefix_append _ _), if_neg (by simp)]
  · cases h : undN (enc (L.drop (m + 1))) (enc (L.drop m))
    · rfl
    · obtain ⟨_, _, h3⟩ := undN_iff.1 h
      have := h3.length_le
      rw [r12] at this
      simp at this
      omega
  · refine undN_iff.2 ⟨c0, c1, ?_⟩
    rw [r0, r1]
    have : L.map fold = (L.take m).map fold ++ (L.drop m).map fold := by rw [← List.map_append, List.take_append_drop]
    rw [this, List.reverse_append]
    exact List.prefix_append _ _

/-- A row's one string. -/
theorem SRow.one {W : World} {A : Option Addr} {ca : Nat} {L : List ByteArray} {g off : Nat} (h : SRow W (.slice A L.length ca) L) (hA : A = some ⟨g, off, none⟩) {m : Nat} (hm : m < L.length) : SRow W (.slice (some ⟨g, off + m, none⟩) 1 (ca - m)) [L[m]] := by
  rcases h with ⟨h1, _⟩ | ⟨g', off', c, h1, h2, h3, h4, h5⟩
  · injection h1 with h1
    rw [hA] at h1
    cases h1
  · injection h1 with h1 _ h1'
    rw [hA] at h1
    injection h1 with h1
    injection h1 with e1 e2
    subst e1
    subst e2
    subst h1'
    refine .inr ⟨g, off + m, ca - m, rfl, h2, by simp; omega, by omega, fun j hj => ?_⟩
    have : j = 0 := by simpa using hj
    subst this
    exact h5 m hm

/-- The relation of the law's loop. -/
def NuRel (L : List ByteArray) (w : World) (j i : Value) (wr : World) : Prop :=
  ∃ (z : Int) (k : Nat) (J : ByteArray), i = .int .i64 z ∧ z + 1 = k ∧ k ≤ L.length ∧ j = .string J ∧ Hid (bs J = enc ((L.map bs).drop k)) ∧ Below w.heap.size w wr

set_option maxRecDepth 100000 in
set_option maxHeartbeats 8000000 in
theorem nunder_loop (n : ByteArray) (w : World) (hn : n.size ≤ maxLen) (hc : chkN (bs n) = 0) :
    Calls Try.prog 6 #[.string n] w fun e w' => e = .returned (.bool true) ∧ Below w.heap.size w w' := by
  have ln := (chkN_iff.1 hc).1
  rw [bs_length] at ln
  have c1 := gCheck (e := 0) hn hc
  have c2 : Gives 15 #[.string ⟨#[]⟩] (.tuple #[.string ⟨#[]⟩, .bool false]) := gParent (by decide) (by decide +kernel)
  have c3 : Gives 21 #[.string n, .string n] (.bool true) := gUnder hn hn (undN_iff.2 ⟨hc, hc, List.prefix_refl _⟩)
  have HL := Lib.hid (fun wx => Labels_any n wx hn)
  have hN := nlabs_len (bs n)
  have HC := Lib.hid hc
  clear hc
  go_enter Try.func6, Try.ntmps6
  go_wp2_with (first | (go_at_call 11; ((with_reducible refine (lives2 _).mono ?_); rintro e w' ⟨rfl, hb'⟩; have hbb := hb')) | (go_at_call 17; ((with_reducible refine (c1 _).mono ?_); rintro e w' ⟨rfl, hb'⟩; replace hbb := next hbb hb')))
  refine (HL.out _).mono ?_
  rintro e w1 ⟨sv, L, rfl, hrow, hLL, hb1⟩
  replace hbb := next hbb hb1
  have hln : L.length ≤ 127 := by rw [labs_len hLL]; exact hN
  obtain ⟨A, ca, rfl, hca, hca2⟩ := hrow.shape
  unfold maxLen at hca2
  have HR := Lib.hid hrow
  have HLL := Lib.hid hLL
  have HBB := Lib.hid hbb
  clear hrow hLL hN hb1 hbb HL
  go_wp2
  have hLn : L.map bs = labs (bs n) := by rw [HLL.out, nlabs_yes HC.out]
  have hEn : enc (L.map bs) = bs n := by rw [hLn]; exact (chkN_iff.1 HC.out).2
  have HOK : Hid (okN (L.map bs)) := Lib.hid (by rw [hLn]; exact labs_ok _)
  have HLE : Hid ((enc (L.map bs)).length ≤ 254) := Lib.hid (by rw [hEn, bs_length]; exact ln)
  have HEN := Lib.hid hEn
  clear hLn hEn
  go_loopw [4, 5] (fun j i wr => NuRel L w1 j i wr) (fun _ i _ => (intOf i + 1).toNat)
  case atStart => exact ⟨_, L.length, ⟨#[]⟩, rfl, by omega, Nat.le_refl _, rfl, Lib.hid (by rw [← List.length_map (f := bs), List.drop_length]; rfl), Below.refl _ _⟩
  case round =>
    obtain ⟨z, k, J, rfl, hz, hk, rfl, hJ, hb⟩ := hrel
    rcases k with _ | m
    · obtain rfl : z = -1 := by omega
      have hJn : J = n := bs_inj (by rw [hJ.out, List.drop_zero, HEN.out])
      subst hJn
      clear hJ
      go_wp2_with fail
      refine (c2 _).mono ?_
      rintro e w2 ⟨rfl, hb2⟩
      go_wp2_with fail
      refine (c3 _).mono ?_
      rintro e w3 ⟨rfl, hb3⟩
      go_wp2
      go_ret
      exact ⟨by simp; omega, next (next (HBB.out.trans (hb.mono HBB.out.size)) hb2) hb3⟩
    · obtain rfl : z = (m : Int) := by omega
      have hm : m < L.length := by omega
      clear hz hk
      obtain ⟨g, off, hA, _⟩ := (HR.out.below hb (Nat.le_refl _)).at hm
      have hone := Lib.hid ((HR.out.below hb (Nat.le_refl _)).one hA hm)
      subst hA
      obtain ⟨f1, f2, f3, f4, f5, f6, f7, f8⟩ := nunder_facts HOK.out HLE.out m (by rw [List.length_map]; exact hm)
      rw [List.getElem_map] at f2 f3
      rw [← hJ.out] at f3 f4 f5 f6 f8
      obtain ⟨x, hx⟩ : ∃ x : ByteArray, bs x = enc ((L.map bs).drop m) := ⟨_, bs_mk _⟩
      obtain ⟨o, ho⟩ : ∃ o : ByteArray, bs o = enc1 (bs L[m]) := ⟨_, bs_mk _⟩
      rw [← hx] at f1 f3 f4 f5 f6 f7 f8
      rw [← ho] at f2 f3
      rw [HEN.out] at f7
      have hxs : x.size ≤ maxLen := by
        have := (chkN_iff.1 f1).1
        rw [bs_length] at this
        unfold maxLen
        omega
      have hJs : J.size ≤ maxLen := by
        have := enc_drop_le (L.map bs) (m + 1)
        rw [← hJ.out, bs_length] at this
        have := HLE.out
        unfold maxLen
        omega
      have hLm := HOK.out (bs L[m]) (List.mem_map_of_mem (List.getElem_mem hm))
      have hos : o.size ≤ maxLen := by
        have := hLm.2
        rw [← bs_length, ho, enc1_length]
        unfold maxLen
        omega
      have hLs : L[m].size ≤ maxLen := by
        have := hLm.2
        rw [bs_length] at this
        unfold maxLen
        omega
      have HM : Hid (∀ wx, SRow wx (.slice (some ⟨g, off + m, none⟩) 1 (ca - m)) [L[m]] → Calls Try.prog 23 #[.slice (some ⟨g, off + m, none⟩) 1 (ca - m)] wx fun e w' => e = .returned (.tuple #[.string o, .int .i64 0]) ∧ Below wx.heap.size wx w') := Lib.hid (fun wx hr => by
        have := Make_any _ [L[m]] wx hr (by simp) (fun y hy => by rw [List.mem_singleton.1 hy]; exact hLs)
        refine this.mono ?_
        rintro e w' ⟨rfl, hb⟩
        have e1 : mkN ([L[m]].map bs) = (bs o, 0) := f2
        rw [e1]
        exact ⟨rfl, hb⟩)
      have g1 := gJoin (e := 0) hos hJs f3
      have g2 := gUnder hxs hJs f4
      have g3 := gCmp hJs hxs f5
      have g4 := gUnder hJs hxs f6
      have g5 := gUnder hn hxs f7
      have g6 := gParent hxs f8
      have HX := Lib.hid hx
      clear f1 f2 f3 f4 f5 f6 f7 f8 hx ho hxs hJs hos hLs hLm
      go_wp2_with fail
      refine (HM.out _ hone.out).mono ?_
      rintro e w2 ⟨rfl, hb2⟩
      have hbb := next hb hb2
      clear hb hb2
      go_wp2_with (first | (go_at_call 16; ((with_reducible refine (g1 _).mono ?_); rintro e w' ⟨rfl, hb'⟩; replace hbb := next hbb hb')) | (go_at_call 21; (first | ((with_reducible refine (g2 _).mono ?_); rintro e w' ⟨rfl, hb'⟩; replace hbb := next hbb hb') | ((with_reducible refine (g4 _).mono ?_); rintro e w' ⟨rfl, hb'⟩; replace hbb := next hbb hb') | ((with_reducible refine (g5 _).mono ?_); rintro e w' ⟨rfl, hb'⟩; replace hbb := next hbb hb'))) | (go_at_call 20; ((with_reducible refine (g3 _).mono ?_); rintro e w' ⟨rfl, hb'⟩; replace hbb := next hbb hb')) | (go_at_call 15; ((with_reducible refine (g6 _).mono ?_); rintro e w' ⟨rfl, hb'⟩; replace hbb := next hbb hb')))
      go_roundw
      case rel => exact ⟨(m : Int) - 1, m, x, rfl, Int.sub_add_cancel _ _, Nat.le_of_lt hm, rfl, HX, hbb⟩
      case measure => simp [intOf]

set_option maxRecDepth 100000 in
set_option maxHeartbeats 2000000 in
theorem nunder_out (n : ByteArray) (E : Nat) (w : World) (hn : n.size ≤ maxLen) (h1 : Gives 17 #[.string n] (.int .i64 E)) (h : 400 < n.size ∨ (n.size ≤ 400 ∧ ((E : Int) != 0) = true)) :
    Calls Try.prog 6 #[.string n] w fun e w' => e = .returned (.bool true) ∧ Below w.heap.size w w' := by
  unfold maxLen at hn
  rcases h with h | ⟨k1, k2⟩
  all_goals
    go_enter Try.func6, Try.ntmps6
    go_wp2_with (first | (go_at_call 11; ((with_reducible refine (lives2 _).mono ?_); rintro e w' ⟨rfl, hb'⟩; have hbb := hb')) | (go_at_call 17; ((with_reducible refine (h1 _).mono ?_); rintro e w' ⟨rfl, hb'⟩; replace hbb := next hbb hb')))
    go_ret
    exact ⟨rfl, hbb⟩

theorem NameUnder_walk (n : ByteArray) (hn : n.size ≤ maxLen) (w : World) :
    Calls Try.prog 6 #[.string n] w fun e w' => e = .returned (.bool true) ∧ Below w.heap.size w w' := by
  by_cases hc : chkN (bs n) = 0
  · exact nunder_loop n w hn hc
  · refine nunder_out n (chkN (bs n)) w hn (gCheck hn rfl) ?_
    rcases Nat.lt_or_ge 400 n.size with h | h
    · exact .inl h
    · exact .inr ⟨h, bne_iff_ne.2 (by omega)⟩
end Go.Proofs.Ytjflmifolmpdgaa
