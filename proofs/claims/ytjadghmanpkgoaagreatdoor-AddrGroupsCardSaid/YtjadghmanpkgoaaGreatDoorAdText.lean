/-
  An address' text: the walks of addr's groups.text, and of addr.Text. Conditions: as each theorem names them.
-/
import Derived.Test.YtjadghmanpkgoaaGreatDoorAdGtx
import Derived.Test.YtjadghmanpkgoaaGreatDoorAdGrp
namespace Go.Proofs.YtjadghmanpkgoaaGreatDoor
open Go.RowKit
set_option linter.unusedVariables false

theorem noF_le (n : Nat) : ∀ (r : List Nat) (e s f t : Nat), s ≤ e → f ≤ t → t ≤ n → e + r.length ≤ n + 1 → (noF r e s f t).1 ≤ (noF r e s f t).2 ∧ (noF r e s f t).2 ≤ n
  | [], e, s, f, t, _, h1, h2, _ => ⟨h1, h2⟩
  | c :: r, e, s, f, t, h0, h1, h2, h3 => by
    rw [List.length_cons] at h3
    unfold noF
    obtain ⟨s', hs'⟩ : ∃ s', s' = if c ≠ 0 then e else s := ⟨_, rfl⟩
    rw [← hs']
    have hs : s' ≤ e := by rw [hs']; split <;> omega
    by_cases hm : max (t - f) 1 < e - s'
    · rw [if_pos hm]
      exact noF_le n r (e + 1) s' s' e (by omega) hs (by omega) (by omega)
    · rw [if_neg hm]
      exact noF_le n r (e + 1) s' f t (by omega) h1 h2 (by omega)
theorem noughts_le {g : List Nat} (hg : g.length = 8) : (noughts g).1 ≤ (noughts g).2 ∧ (noughts g).2 ≤ 8 := noF_le 8 g 1 0 0 0 (by decide) (by decide) (by decide) (by omega)

theorem text_any (g : List Nat) (hg : g.length = 8) (hlt : ∀ c ∈ g, c < 65536) (w : World) (hG : Ground w) :
    Calls Tryz.prog 63 #[gv g] w fun e w' => e = .returned (.string ⟨(text6 g).toArray⟩) ∧ Below w.heap.size w w' := by
  have HN := Lib.hid (fun wx => noughts_any g hg hlt wx)
  obtain ⟨a1, a2, a3, a4, a5, a6, a7, a8, hgd⟩ := eight hg
  have hgv : gv g = .agg #[.int .u16 a1, .int .u16 a2, .int .u16 a3, .int .u16 a4, .int .u16 a5, .int .u16 a6, .int .u16 a7, .int .u16 a8] := by rw [hgd]; rfl
  obtain ⟨w0, hw0⟩ : ∃ w0, w0 = w.alloc (.cells #[.int .u16 a1, .int .u16 a2, .int .u16 a3, .int .u16 a4, .int .u16 a5, .int .u16 a6, .int .u16 a7, .int .u16 a8] 79) := ⟨_, rfl⟩
  have hL0 : Lies w0 w.heap.size 79 (g.map U16).toArray := by rw [hw0, hgd]; exact Lies.new _ _ _
  have HA : Hid (∀ w', Below w0.heap.size w0 w' → At U16 w' w.heap.size 0 8 g) := Lib.hid (fun w' hb => by
    have := At.of_lies (enc := U16) (L := g) (hL0.next hb) rfl (by rw [hg]; decide)
    rw [hg] at this
    exact this)
  have hb0 : Below w.heap.size w w0 := by rw [hw0]; exact (Below.refl _ _).alloc (Nat.le_refl _) _
  have HB0 := Lib.hid hb0
  have HG0 := Lib.hid (hG.next hb0)
  have HL := Lib.hid (noughts_le hg)
  have HR := Lib.hid (fun (l : List Nat) (v : Value) (wx : World) (hx : RowE U16 wx v l) (h1 : l.length ≤ 8) (h2 : l ⊆ g) (hg : Ground wx) => grouped_any l v wx hx (by omega) (fun x hx => hlt x (h2 hx)) hg)
  rw [hgv] at HN ⊢
  obtain ⟨fr, hfr⟩ : ∃ fr, fr = (noughts g).1 := ⟨_, rfl⟩
  obtain ⟨tt, htt⟩ : ∃ tt, tt = (noughts g).2 := ⟨_, rfl⟩
  rw [← hfr, ← htt] at HN HL
  have ht : text6 g = if fr = tt then grpT g else grpT (g.take fr) ++ [58, 58] ++ grpT (g.drop tt) := by rw [hfr, htt]; rfl
  rw [ht]
  clear ht hfr htt hlt hG hL0 hb0 hgv hgd
  by_cases hft : fr = tt
  · rw [if_pos hft]
    subst hft
    have HS := Lib.hid (fun w' hb hgx => HR.out g _ w' (HA.out w' hb).row (by omega) (fun _ h => h) hgx)
    rw [hg] at HS
    go_enter Tryz.func63, Tryz.ntmps63
    go_wp2_with (first | (go_at_call 111; rw [← hw0]; (with_reducible refine (HN.out _).mono ?_); rintro e w1 ⟨rfl, hb1⟩; have HB1 := Lib.hid hb1; clear hb1) | (go_at_call 112; (with_reducible refine (HS.out _ HB1.out (HG0.out.next HB1.out)).mono ?_); rintro e w2 ⟨rfl, hb2⟩; have HB2 := Lib.hid hb2; clear hb2) | fail)
    go_ret
    exact ⟨rfl, next (next HB0.out HB1.out) HB2.out⟩
  · rw [if_neg hft]
    have hbool : ((fr : Int) == (tt : Int)) = false := by simp; omega
    obtain ⟨X1, hX1⟩ : ∃ X1 : ByteArray, X1 = ⟨(grpT (g.take fr)).toArray⟩ := ⟨_, rfl⟩
    obtain ⟨X2, hX2⟩ : ∃ X2 : ByteArray, X2 = ⟨(grpT (g.drop tt)).toArray⟩ := ⟨_, rfl⟩
    have hz1 : X1.size ≤ 140737488355328 := by rw [hX1, ← bs_length, bs_mk]; exact grp_len _ (by rw [List.length_take]; omega)
    have hz2 : X2.size ≤ 140737488355328 := by rw [hX2, ← bs_length, bs_mk]; exact grp_len _ (by rw [List.length_drop]; omega)
    have HF : Hid (X1 ++ ⟨#[58, 58]⟩ ++ X2 = ⟨(grpT (g.take fr) ++ [58, 58] ++ grpT (g.drop tt)).toArray⟩) := Lib.hid (bs_inj (by rw [bs_append, bs_append, hX1, hX2, bs_mk, bs_mk, bs_mk]; rfl))
    have HS1 := Lib.hid (fun w' hb hgx => HR.out (g.take fr) _ w' ((HA.out w' hb).take (n := fr) (by have := HL.out; omega)) (by rw [List.length_take]; omega) (List.take_subset _ _) hgx)
    rw [← hX1] at HS1
    clear hX1
    by_cases h8 : 8 = tt
    · subst h8
      have HS2 : Hid (∀ w', Below w0.heap.size w0 w' → Ground w' → Calls Tryz.prog 112 #[.slice (some ⟨w.heap.size, 0, none⟩) 0 0] w' fun e w'' => e = .returned (.string X2) ∧ Below w'.heap.size w' w'') := Lib.hid (fun w' hb hgx => by
        have hd : g.drop 8 = [] := List.drop_eq_nil_of_le (by omega)
        have := HR.out [] (.slice (some ⟨w.heap.size, 0, none⟩) 0 0) w' (.inr ⟨_, _, _, rfl, (HA.out w' hb).lt, Nat.le_refl _, by decide, fun j hj => absurd hj (Nat.not_lt_zero _)⟩) (by decide) (List.nil_subset _) hgx
        rw [hX2, hd]
        exact this)
      clear hX2
      have hq1 : ¬ 9223372036854775807 < X1.size + 2 := by omega
      have hq2 : ¬ 9223372036854775805 < X1.size := by omega
      have hq3 : ¬ 9223372036854775807 < X1.size + 2 + X2.size := by omega
      have hq4 : X1.size + 2 ≤ 9223372036854775807 := by omega
      have hq5 : X1.size + 2 + X2.size ≤ 9223372036854775807 := by omega
      have hf0 : (0 : Int) ≤ fr := by omega
      have hf8 : (fr : Int) ≤ 8 := by have := HL.out; omega
      go_enter Tryz.func63, Tryz.ntmps63
      go_wp2_with (first | (go_at_call 111; rw [← hw0]; (with_reducible refine (HN.out _).mono ?_); rintro e w1 ⟨rfl, hb1⟩; have HB1 := Lib.hid hb1; clear hb1) | fail)
      go_region_with (first | (go_at_call 112; (with_reducible refine (HS1.out _ (HB1.out.drew) (HG0.out.next HB1.out.drew)).mono ?_); rintro e w2 ⟨rfl, hb2⟩; have HB2 := Lib.hid hb2; clear hb2) | (go_at_call 112; (with_reducible refine (HS2.out _ (next HB1.out.drew HB2.out) (HG0.out.next (next HB1.out.drew HB2.out))).mono ?_); rintro e w3 ⟨rfl, hb3⟩; have HB3 := Lib.hid hb3; clear hb3))
      all_goals
        try go_wp2
        go_ret
        exact ⟨by rw [← HF.out]; rfl, next HB0.out (next (next HB1.out.drew HB2.out) HB3.out)⟩
    · have HS2 := Lib.hid (fun w' hb hgx => HR.out (g.drop tt) _ w' ((HA.out w' hb).drop (n := tt) (by have := HL.out; omega)) (by rw [List.length_drop]; omega) (List.drop_subset _ _) hgx)
      rw [hg] at HS2
      simp only [Nat.zero_add] at HS2
      rw [← hX2] at HS2
      clear hX2
      have hq1 : ¬ 9223372036854775807 < X1.size + 2 := by omega
      have hq2 : ¬ 9223372036854775805 < X1.size := by omega
      have hq3 : ¬ 9223372036854775807 < X1.size + 2 + X2.size := by omega
      have hq4 : X1.size + 2 ≤ 9223372036854775807 := by omega
      have hq5 : X1.size + 2 + X2.size ≤ 9223372036854775807 := by omega
      have hf0 : (0 : Int) ≤ fr := by omega
      have hf8 : (fr : Int) ≤ 8 := by have := HL.out; omega
      have ht0 : (0 : Int) ≤ tt := by omega
      have ht8 : (tt : Int) ≤ 8 := by have := HL.out; omega
      go_enter Tryz.func63, Tryz.ntmps63
      go_wp2_with (first | (go_at_call 111; rw [← hw0]; (with_reducible refine (HN.out _).mono ?_); rintro e w1 ⟨rfl, hb1⟩; have HB1 := Lib.hid hb1; clear hb1) | fail)
      go_region_with (first | (go_at_call 112; (with_reducible refine (HS1.out _ (HB1.out.drew) (HG0.out.next HB1.out.drew)).mono ?_); rintro e w2 ⟨rfl, hb2⟩; have HB2 := Lib.hid hb2; clear hb2) | (go_at_call 112; (with_reducible refine (HS2.out _ (next HB1.out.drew HB2.out) (HG0.out.next (next HB1.out.drew HB2.out))).mono ?_); rintro e w3 ⟨rfl, hb3⟩; have HB3 := Lib.hid hb3; clear hb3))
      all_goals
        try go_wp2
        go_ret
        exact ⟨by rw [← HF.out]; rfl, next HB0.out (next (next HB1.out.drew HB2.out) HB3.out)⟩
theorem txA_bad {a : Ad} (h : chkA a ≠ 0) : txA a = ([], chkA a) := if_pos h
theorem txA_six {hi lo : Nat} (h : chkA (true, hi, lo) = 0) : txA (true, hi, lo) = (text6 (grpA (true, hi, lo)), 0) := by unfold txA; rw [if_neg (by simp [h]), if_pos rfl]
theorem txA_old {hi lo : Nat} (h : chkA (false, hi, lo) = 0) : txA (false, hi, lo) = (Lib.join (numsT (octA (false, hi, lo))) [46], 0) := by unfold txA; rw [if_neg (by simp [h]), if_neg (by simp)]
theorem decT_len : ∀ c : Fin 256, (decT c.val).length ≤ 3 := by decide +kernel
theorem nums_len (l : List UInt8) (h : l.length ≤ 1000000) : (Lib.join (numsT l) [46]).length ≤ 140737488355328 := by
  have := join_len (sep := [46]) (m := 3) (L := numsT l) fun x hx => by
    obtain ⟨c, _, rfl⟩ := List.mem_map.1 hx
    exact decT_len ⟨c.toNat, c.toNat_lt⟩
  unfold numsT at this ⊢
  rw [List.length_map, List.length_singleton] at this
  omega
set_option maxHeartbeats 1000000 in
theorem aText_any (six : Bool) (hi lo : Nat) (w : World) (h1 : hi < 18446744073709551616) (h2 : lo < 18446744073709551616) (hG : Ground w) :
    Calls Tryz.prog 15 #[.agg #[.bool six, .int .u64 (hi : Int), .int .u64 (lo : Int)]] w fun e w' => e = .returned (.tuple #[.string ⟨(txA (six, hi, lo)).1.toArray⟩, .int .i64 (txA (six, hi, lo)).2]) ∧ Below w.heap.size w w' := by
  obtain ⟨w0, hw0⟩ : ∃ w0, w0 = w.alloc (.cells #[.bool six, .int .u64 (hi : Int), .int .u64 (lo : Int)] 24) := ⟨_, rfl⟩
  have hb0 : Below w.heap.size w w0 := by rw [hw0]; exact (Below.refl _ _).alloc (Nat.le_refl _) _
  have HB0 := Lib.hid hb0
  have HG0 := Lib.hid (hG.next hb0)
  have HK : Hid (∀ w1 : World, Below w0.heap.size w0 w1 → AdB w1 w.heap.size six hi lo) := Lib.hid (fun w1 hb => Lies.next (by rw [hw0]; exact Lies.new w _ _) hb)
  have HC := Lib.hid (fun wx => aCheck_any six hi lo wx h1 h2)
  clear hG hb0
  rcases chkA_cases (six, hi, lo) with hc | hc
  · rw [hc] at HC
    cases six
    · rw [txA_old hc]
      have HO := Lib.hid (fun wx => octetsOf_any false hi lo wx h1 h2)
      have hol : (octA (false, hi, lo)).length ≤ 1000000 := by show (octs lo 4).length ≤ _; rw [octs_length]; decide
      have HN := Lib.hid (fun v wx hx hg => numbers_any (octA (false, hi, lo)) v wx hx hol hg)
      have HJ := Lib.hid (fun v base wx hx => Join_any (numsT (octA (false, hi, lo))) ⟨#[46]⟩ v base wx hx (by unfold numsT; rw [List.length_map]; exact hol) (nums_len _ hol))
      go_enter Tryz.func15, Tryz.ntmps15
      go_wp2_with (first | (go_at_call 27; rw [← hw0]; (with_reducible refine (HC.out _).mono ?_); rintro e w1 ⟨rfl, hb1⟩; obtain ⟨⟨hc0, hc1, hc2⟩, _⟩ := (HK.out _ hb1).facts; have HB1 := Lib.hid hb1; clear hb1) | (go_at_call 66; (with_reducible refine (HO.out _).mono ?_); rintro e w2 ⟨v2, rfl, hm2⟩; have HX := Lib.hid (RowE.of_own (enc := B) hm2.1); have HB2 := Lib.hid hm2.2; obtain ⟨A2, c2, rfl⟩ := hm2.slice; clear hm2) | (go_at_call 65; (with_reducible refine (HN.out _ _ HX.out (HG0.out.next (next HB1.out HB2.out))).mono ?_); rintro e w3 ⟨v3, rfl, ho3, hb3⟩; have HT3 := Lib.hid ho3; obtain ⟨A3, c3, rfl⟩ := ho3.shape; have HB3 := Lib.hid hb3; clear hb3 ho3) | (go_at_call 64; (with_reducible refine (HJ.out _ _ _ HT3.out).mono ?_); rintro e w4 ⟨rfl, hb4⟩; have HB4 := Lib.hid hb4; clear hb4) | fail)
      go_ret2
      exact ⟨rfl, next HB0.out (next (next (next HB1.out HB2.out) HB3.out) HB4.out)⟩
    · rw [txA_six hc]
      have HO := Lib.hid (fun wx => groupsOf_any true hi lo wx h1 h2)
      have HT := Lib.hid (fun wx hg => text_any (grpA (true, hi, lo)) (grpA_len _) (fun c hc => grpA_lt _ c hc) wx hg)
      go_enter Tryz.func15, Tryz.ntmps15
      go_wp2_with (first | (go_at_call 27; rw [← hw0]; (with_reducible refine (HC.out _).mono ?_); rintro e w1 ⟨rfl, hb1⟩; obtain ⟨⟨hc0, hc1, hc2⟩, _⟩ := (HK.out _ hb1).facts; have HB1 := Lib.hid hb1; clear hb1) | (go_at_call 62; (with_reducible refine (HO.out _).mono ?_); rintro e w2 ⟨rfl, hb2⟩; have HB2 := Lib.hid hb2; clear hb2) | (go_at_call 63; (with_reducible refine (HT.out _ (HG0.out.next (next HB1.out HB2.out))).mono ?_); rintro e w3 ⟨rfl, hb3⟩; have HB3 := Lib.hid hb3; clear hb3) | fail)
      go_ret2
      exact ⟨rfl, next HB0.out (next (next HB1.out HB2.out) HB3.out)⟩
  · rw [hc] at HC
    rw [txA_bad (by rw [hc]; decide), hc]
    go_enter Tryz.func15, Tryz.ntmps15
    go_wp2_with (go_at_call 27; rw [← hw0]; (with_reducible refine (HC.out _).mono ?_); rintro e w1 ⟨rfl, hb1⟩; have HB1 := Lib.hid hb1; clear hb1)
    go_ret2
    exact ⟨rfl, next HB0.out HB1.out⟩
end Go.Proofs.YtjadghmanpkgoaaGreatDoor
