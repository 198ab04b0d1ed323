/-
  An address' text: the walks of addr's groups.text, and of addr.Text. Conditions: as each theorem names them. Addresses' texts read back: the mathematics of Text and Read. Conditions: as each theorem names them. Nothing of any program is named here. Ranges' texts: what is read of a text, what is told: mathematics. Conditions: as each theorem names them. Nothing of any program is named here.
-/
import Derived.Test.YtpmlldgjbmingaaGreatDoorZk19
import Derived.Test.YtpmlldgjbmingaaGreatDoorZk22
import Derived.Test.YtpmlldgjbmingaaGreatDoorZk2
namespace Go.Proofs.YtpmlldgjbmingaaGreatDoor
open Go.RowKit
set_option linter.unusedVariables false

theorem noF_le (n : Nat) : ∀ (r : List Nat) (e s f t : Nat), s ≤ e → f ≤ t → t ≤ n → e + r.length ≤ n + 1 → (noF r e s f t).1 ≤ (noF r e s f t).2 ∧ (noF r e s f t).2 ≤ n
  | [], e, s, f, t, _, h1, h2, _ => ⟨h1, h2⟩
  | c :: r, e, s, f, t, h0, h1, h2, h3 => by
    rw [List.length_cons] at h3
    unfold noF
    obtain ⟨s', hs'⟩ : ∃ s', s' = if c ≠ 0 then e else s := ⟨_, rfl⟩
    rw [← hs']
    have hs : s' ≤ e := by rw [hs']; split <;> omega
    by_cases hm : max (t - f) 1 < e - s'
    · rw [if_pos hm]
      exact noF_le n r (e + 1) s' s' e (by omega) hs (by omega) (by omega)
    · rw [if_neg hm]
      exact noF_le n r (e + 1) s' f t (by omega) h1 h2 (by omega)
theorem noughts_le {g : List Nat} (hg : g.length = 8) : (noughts g).1 ≤ (noughts g).2 ∧ (noughts g).2 ≤ 8 := noF_le 8 g 1 0 0 0 (by decide) (by decide) (by decide) (by omega)

theorem text_any (g : List Nat) (hg : g.length = 8) (hlt : ∀ c ∈ g, c < 65536) (w : World) (hG : Ground w) :
    Calls Tryz.prog 56 #[gv g] w fun e w' => e = .returned (.string ⟨(text6 g).toArray⟩) ∧ Below w.heap.size w w' := by
  have HN := Lib.hid (fun wx => noughts_any g hg hlt wx)
  obtain ⟨a1, a2, a3, a4, a5, a6, a7, a8, hgd⟩ := eight hg
  have hgv : gv g = .agg #[.int .u16 a1, .int .u16 a2, .int .u16 a3, .int .u16 a4, .int .u16 a5, .int .u16 a6, .int .u16 a7, .int .u16 a8] := by rw [hgd]; rfl
  obtain ⟨w0, hw0⟩ : ∃ w0, w0 = w.alloc (.cells #[.int .u16 a1, .int .u16 a2, .int .u16 a3, .int .u16 a4, .int .u16 a5, .int .u16 a6, .int .u16 a7, .int .u16 a8] 68) := ⟨_, rfl⟩
  have hL0 : Lies w0 w.heap.size 68 (g.map U16).toArray := by rw [hw0, hgd]; exact Lies.new _ _ _
  have HA : Hid (∀ w', Below w0.heap.size w0 w' → At U16 w' w.heap.size 0 8 g) := Lib.hid (fun w' hb => by
    have := At.of_lies (enc := U16) (L := g) (hL0.next hb) rfl (by rw [hg]; decide)
    rw [hg] at this
    exact this)
  have hb0 : Below w.heap.size w w0 := by rw [hw0]; exact (Below.refl _ _).alloc (Nat.le_refl _) _
  have HB0 := Lib.hid hb0
  have HG0 := Lib.hid (hG.next hb0)
  have HL := Lib.hid (noughts_le hg)
  have HR := Lib.hid (fun (l : List Nat) (v : Value) (wx : World) (hx : RowE U16 wx v l) (h1 : l.length ≤ 8) (h2 : l ⊆ g) (hg : Ground wx) => grouped_any l v wx hx (by omega) (fun x hx => hlt x (h2 hx)) hg)
  rw [hgv] at HN ⊢
  obtain ⟨fr, hfr⟩ : ∃ fr, fr = (noughts g).1 := ⟨_, rfl⟩
  obtain ⟨tt, htt⟩ : ∃ tt, tt = (noughts g).2 := ⟨_, rfl⟩
  rw [← hfr, ← htt] at HN HL
  have ht : text6 g = if fr = tt then grpT g else grpT (g.take fr) ++ [58, 58] ++ grpT (g.drop tt) := by rw [hfr, htt]; rfl
  rw [ht]
  clear ht hfr htt hlt hG hL0 hb0 hgv hgd
  by_cases hft : fr = tt
  · rw [if_pos hft]
    subst hft
    have HS := Lib.hid (fun w' hb hgx => HR.out g _ w' (HA.out w' hb).row (by omega) (fun _ h => h) hgx)
    rw [hg] at HS
    go_enter Tryz.func56, Tryz.ntmps56
    go_wp2_with (first | (go_at_call 102; rw [← hw0]; (with_reducible refine (HN.out _).mono ?_); rintro e w1 ⟨rfl, hb1⟩; have HB1 := Lib.hid hb1; clear hb1) | (go_at_call 103; (with_reducible refine (HS.out _ HB1.out (HG0.out.next HB1.out)).mono ?_); rintro e w2 ⟨rfl, hb2⟩; have HB2 := Lib.hid hb2; clear hb2) | fail)
    go_ret
    exact ⟨rfl, next (next HB0.out HB1.out) HB2.out⟩
  · rw [if_neg hft]
    have hbool : ((fr : Int) == (tt : Int)) = false := by simp; omega
    obtain ⟨X1, hX1⟩ : ∃ X1 : ByteArray, X1 = ⟨(grpT (g.take fr)).toArray⟩ := ⟨_, rfl⟩
    obtain ⟨X2, hX2⟩ : ∃ X2 : ByteArray, X2 = ⟨(grpT (g.drop tt)).toArray⟩ := ⟨_, rfl⟩
    have hz1 : X1.size ≤ 140737488355328 := by rw [hX1, ← bs_length, bs_mk]; exact grp_len _ (by rw [List.length_take]; omega)
    have hz2 : X2.size ≤ 140737488355328 := by rw [hX2, ← bs_length, bs_mk]; exact grp_len _ (by rw [List.length_drop]; omega)
    have HF : Hid (X1 ++ ⟨#[58, 58]⟩ ++ X2 = ⟨(grpT (g.take fr) ++ [58, 58] ++ grpT (g.drop tt)).toArray⟩) := Lib.hid (bs_inj (by rw [bs_append, bs_append, hX1, hX2, bs_mk, bs_mk, bs_mk]; rfl))
    have HS1 := Lib.hid (fun w' hb hgx => HR.out (g.take fr) _ w' ((HA.out w' hb).take (n := fr) (by have := HL.out; omega)) (by rw [List.length_take]; omega) (List.take_subset _ _) hgx)
    rw [← hX1] at HS1
    clear hX1
    by_cases h8 : 8 = tt
    · subst h8
      have HS2 : Hid (∀ w', Below w0.heap.size w0 w' → Ground w' → Calls Tryz.prog 103 #[.slice (some ⟨w.heap.size, 0, none⟩) 0 0] w' fun e w'' => e = .returned (.string X2) ∧ Below w'.heap.size w' w'') := Lib.hid (fun w' hb hgx => by
        have hd : g.drop 8 = [] := List.drop_eq_nil_of_le (by omega)
        have := HR.out [] (.slice (some ⟨w.heap.size, 0, none⟩) 0 0) w' (.inr ⟨_, _, _, rfl, (HA.out w' hb).lt, Nat.le_refl _, by decide, fun j hj => absurd hj (Nat.not_lt_zero _)⟩) (by decide) (List.nil_subset _) hgx
        rw [hX2, hd]
        exact this)
      clear hX2
      have hq1 : ¬ 9223372036854775807 < X1.size + 2 := by omega
      have hq2 : ¬ 9223372036854775805 < X1.size := by omega
      have hq3 : ¬ 9223372036854775807 < X1.size + 2 + X2.size := by omega
      have hq4 : X1.size + 2 ≤ 9223372036854775807 := by omega
      have hq5 : X1.size + 2 + X2.size ≤ 9223372036854775807 := by omega
      have hf0 : (0 : Int) ≤ fr := by omega
      have hf8 : (fr : Int) ≤ 8 := by have := HL.out; omega
      go_enter Tryz.func56, Tryz.ntmps56
      go_wp2_with (first | (go_at_call 102; rw [← hw0]; (with_reducible refine (HN.out _).mono ?_); rintro e w1 ⟨rfl, hb1⟩; have HB1 := Lib.hid hb1; clear hb1) | fail)
      go_region_with (first | (go_at_call 103; (with_reducible refine (HS1.out _ (HB1.out.drew) (HG0.out.next HB1.out.drew)).mono ?_); rintro e w2 ⟨rfl, hb2⟩; have HB2 := Lib.hid hb2; clear hb2) | (go_at_call 103; (with_reducible refine (HS2.out _ (next HB1.out.drew HB2.out) (HG0.out.next (next HB1.out.drew HB2.out))).mono ?_); rintro e w3 ⟨rfl, hb3⟩; have HB3 := Lib.hid hb3; clear hb3))
      all_goals
        try go_wp2
        go_ret
        exact ⟨by rw [← HF.out]; rfl, next HB0.out (next (next HB1.out.drew HB2.out) HB3.out)⟩
    · have HS2 := Lib.hid (fun w' hb hgx => HR.out (g.drop tt) _ w' ((HA.out w' hb).drop (n := tt) (by have := HL.out; omega)) (by rw [List.length_drop]; omega) (List.drop_subset _ _) hgx)
      rw [hg] at HS2
      simp only [Nat.zero_add] at HS2
      rw [← hX2] at HS2
      clear hX2
      have hq1 : ¬ 9223372036854775807 < X1.size + 2 := by omega
      have hq2 : ¬ 9223372036854775805 < X1.size := by omega
      have hq3 : ¬ 9223372036854775807 < X1.size + 2 + X2.size := by omega
      have hq4 : X1.size + 2 ≤ 9223372036854775807 := by omega
      have hq5 : X1.size + 2 + X2.size ≤ 9223372036854775807 := by omega
      have hf0 : (0 : Int) ≤ fr := by omega
      have hf8 : (fr : Int) ≤ 8 := by have := HL.out; omega
      have ht0 : (0 : Int) ≤ tt := by omega
      have ht8 : (tt : Int) ≤ 8 := by have := HL.out; omega
      go_enter Tryz.func56, Tryz.ntmps56
      go_wp2_with (first | (go_at_call 102; rw [← hw0]; (with_reducible refine (HN.out _).mono ?_); rintro e w1 ⟨rfl, hb1⟩; have HB1 := Lib.hid hb1; clear hb1) | fail)
      go_region_with (first | (go_at_call 103; (with_reducible refine (HS1.out _ (HB1.out.drew) (HG0.out.next HB1.out.drew)).mono ?_); rintro e w2 ⟨rfl, hb2⟩; have HB2 := Lib.hid hb2; clear hb2) | (go_at_call 103; (with_reducible refine (HS2.out _ (next HB1.out.drew HB2.out) (HG0.out.next (next HB1.out.drew HB2.out))).mono ?_); rintro e w3 ⟨rfl, hb3⟩; have HB3 := Lib.hid hb3; clear hb3))
      all_goals
        try go_wp2
        go_ret
        exact ⟨by rw [← HF.out]; rfl, next HB0.out (next (next HB1.out.drew HB2.out) HB3.out)⟩
theorem txA_bad {a : Ad} (h : chkA a ≠ 0) : txA a = ([], chkA a) := if_pos h
theorem txA_six {hi lo : Nat} (h : chkA (true, hi, lo) = 0) : txA (true, hi, lo) = (text6 (grpA (true, hi, lo)), 0) := by unfold txA; rw [if_neg (by simp [h]), if_pos rfl]
theorem txA_old {hi lo : Nat} (h : chkA (false, hi, lo) = 0) : txA (false, hi, lo) = (Lib.join (numsT (octA (false, hi, lo))) [46], 0) := by unfold txA; rw [if_neg (by simp [h]), if_neg (by simp)]
theorem decT_len : ∀ c : Fin 256, (decT c.val).length ≤ 3 := by decide +kernel
theorem nums_len (l : List UInt8) (h : l.length ≤ 1000000) : (Lib.join (numsT l) [46]).length ≤ 140737488355328 := by
  have := join_len (sep := [46]) (m := 3) (L := numsT l) fun x hx => by
    obtain ⟨c, _, rfl⟩ := List.mem_map.1 hx
    exact decT_len ⟨c.toNat, c.toNat_lt⟩
  unfold numsT at this ⊢
  rw [List.length_map, List.length_singleton] at this
  omega
set_option maxHeartbeats 1000000 in
theorem aText_any (six : Bool) (hi lo : Nat) (w : World) (h1 : hi < 18446744073709551616) (h2 : lo < 18446744073709551616) (hG : Ground w) :
    Calls Tryz.prog 10 #[.agg #[.bool six, .int .u64 (hi : Int), .int .u64 (lo : Int)]] w fun e w' => e = .returned (.tuple #[.string ⟨(txA (six, hi, lo)).1.toArray⟩, .int .i64 (txA (six, hi, lo)).2]) ∧ Below w.heap.size w w' := by
  obtain ⟨w0, hw0⟩ : ∃ w0, w0 = w.alloc (.cells #[.bool six, .int .u64 (hi : Int), .int .u64 (lo : Int)] 24) := ⟨_, rfl⟩
  have hb0 : Below w.heap.size w w0 := by rw [hw0]; exact (Below.refl _ _).alloc (Nat.le_refl _) _
  have HB0 := Lib.hid hb0
  have HG0 := Lib.hid (hG.next hb0)
  have HK : Hid (∀ w1 : World, Below w0.heap.size w0 w1 → AdB w1 w.heap.size six hi lo) := Lib.hid (fun w1 hb => Lies.next (by rw [hw0]; exact Lies.new w _ _) hb)
  have HC := Lib.hid (fun wx => aCheck_any six hi lo wx h1 h2)
  clear hG hb0
  rcases chkA_cases (six, hi, lo) with hc | hc
  · rw [hc] at HC
    cases six
    · rw [txA_old hc]
      have HO := Lib.hid (fun wx => octetsOf_any false hi lo wx h1 h2)
      have hol : (octA (false, hi, lo)).length ≤ 1000000 := by show (octs lo 4).length ≤ _; rw [octs_length]; decide
      have HN := Lib.hid (fun v wx hx hg => numbers_any (octA (false, hi, lo)) v wx hx hol hg)
      have HJ := Lib.hid (fun v base wx hx => Join_any (numsT (octA (false, hi, lo))) ⟨#[46]⟩ v base wx hx (by unfold numsT; rw [List.length_map]; exact hol) (nums_len _ hol))
      go_enter Tryz.func10, Tryz.ntmps10
      go_wp2_with (first | (go_at_call 22; rw [← hw0]; (with_reducible refine (HC.out _).mono ?_); rintro e w1 ⟨rfl, hb1⟩; obtain ⟨⟨hc0, hc1, hc2⟩, _⟩ := (HK.out _ hb1).facts; have HB1 := Lib.hid hb1; clear hb1) | (go_at_call 59; (with_reducible refine (HO.out _).mono ?_); rintro e w2 ⟨v2, rfl, hm2⟩; have HX := Lib.hid (RowE.of_own (enc := B) hm2.1); have HB2 := Lib.hid hm2.2; obtain ⟨A2, c2, rfl⟩ := hm2.slice; clear hm2) | (go_at_call 58; (with_reducible refine (HN.out _ _ HX.out (HG0.out.next (next HB1.out HB2.out))).mono ?_); rintro e w3 ⟨v3, rfl, ho3, hb3⟩; have HT3 := Lib.hid ho3; obtain ⟨A3, c3, rfl⟩ := ho3.shape; have HB3 := Lib.hid hb3; clear hb3 ho3) | (go_at_call 57; (with_reducible refine (HJ.out _ _ _ HT3.out).mono ?_); rintro e w4 ⟨rfl, hb4⟩; have HB4 := Lib.hid hb4; clear hb4) | fail)
      go_ret2
      exact ⟨rfl, next HB0.out (next (next (next HB1.out HB2.out) HB3.out) HB4.out)⟩
    · rw [txA_six hc]
      have HO := Lib.hid (fun wx => groupsOf_any true hi lo wx h1 h2)
      have HT := Lib.hid (fun wx hg => text_any (grpA (true, hi, lo)) (grpA_len _) (fun c hc => grpA_lt _ c hc) wx hg)
      go_enter Tryz.func10, Tryz.ntmps10
      go_wp2_with (first | (go_at_call 22; rw [← hw0]; (with_reducible refine (HC.out _).mono ?_); rintro e w1 ⟨rfl, hb1⟩; obtain ⟨⟨hc0, hc1, hc2⟩, _⟩ := (HK.out _ hb1).facts; have HB1 := Lib.hid hb1; clear hb1) | (go_at_call 55; (with_reducible refine (HO.out _).mono ?_); rintro e w2 ⟨rfl, hb2⟩; have HB2 := Lib.hid hb2; clear hb2) | (go_at_call 56; (with_reducible refine (HT.out _ (HG0.out.next (next HB1.out HB2.out))).mono ?_); rintro e w3 ⟨rfl, hb3⟩; have HB3 := Lib.hid hb3; clear hb3) | fail)
      go_ret2
      exact ⟨rfl, next HB0.out (next (next HB1.out HB2.out) HB3.out)⟩
  · rw [hc] at HC
    rw [txA_bad (by rw [hc]; decide), hc]
    go_enter Tryz.func10, Tryz.ntmps10
    go_wp2_with (go_at_call 22; rw [← hw0]; (with_reducible refine (HC.out _).mono ?_); rintro e w1 ⟨rfl, hb1⟩; have HB1 := Lib.hid hb1; clear hb1)
    go_ret2
    exact ⟨rfl, next HB0.out HB1.out⟩
end Go.Proofs.YtpmlldgjbmingaaGreatDoor
namespace Go.Proofs.YtpmlldgjbmingaaGreatDoor
open Go.RowKit
set_option linter.unusedVariables false

/-! ### Places of separators -/
/-! ### Digits -/
theorem hxv_hexd : ∀ d : Fin 16, hxv (hexd d.val) = some d.val := by decide +kernel
theorem hexd_ok : ∀ d : Fin 16, hexd d.val ≠ 58 ∧ hexd d.val ≠ 46 := by decide +kernel
theorem hxF_snoc (c : UInt8) : ∀ (l : List UInt8) (acc : Nat), hxF acc (l ++ [c]) = match hxF acc l with
    | none => none
    | some v => match hxv c with
      | none => none
      | some d => some (v * 16 + d)
  | [], acc => by simp only [List.nil_append, hxF]; cases hxv c <;> rfl
  | b :: l, acc => by
    rw [List.cons_append]
    unfold hxF
    cases hxv b with
    | none => rfl
    | some d => exact hxF_snoc c l (acc * 16 + d)
theorem hexT_facts : ∀ (n v : Nat), n ≤ 3 → v < 16 ^ (n + 1) → hxF 0 (hexT v) = some v ∧ hexT v ≠ [] ∧ (hexT v).length ≤ n + 1 ∧ ∀ c ∈ hexT v, c ≠ 58 ∧ c ≠ 46
  | n, v, hn, hv => by
    by_cases h : v < 16
    · rw [hexT_one v h]
      have h1 := hxv_hexd ⟨v, h⟩
      have h2 := hexd_ok ⟨v, h⟩
      refine ⟨?_, by simp, by simp, fun c hc => ?_⟩
      · simp only [hxF]
        simp only at h1
        rw [h1]
        simp
      · obtain rfl := List.mem_singleton.1 hc
        exact h2
    · rcases n with _ | n
      · simp at hv; omega
      · have hp : v < 65536 := Nat.lt_of_lt_of_le hv (Nat.le_trans (Nat.pow_le_pow_right (by decide) (show n + 1 + 1 ≤ 4 by omega)) (by decide))
        have hd : v / 16 < 16 ^ (n + 1) := by rw [Nat.pow_succ] at hv; omega
        obtain ⟨h1, h2, h3, h4⟩ := hexT_facts n (v / 16) (by omega) hd
        rw [hexT_step v (by omega) hp]
        have h5 := hxv_hexd ⟨v % 16, Nat.mod_lt _ (by decide)⟩
        have h6 := hexd_ok ⟨v % 16, Nat.mod_lt _ (by decide)⟩
        simp only at h5 h6
        refine ⟨?_, by simp, by rw [List.length_append, List.length_singleton]; omega, fun c hc => ?_⟩
        · rw [hxF_snoc, h1]
          simp only
          rw [h5]
          simp only [Option.some.injEq]
          omega
        · rcases List.mem_append.1 hc with hc | hc
          · exact h4 c hc
          · obtain rfl := List.mem_singleton.1 hc
            exact h6
theorem hexT_16 {v : Nat} (h : v < 65536) : hxF 0 (hexT v) = some v ∧ hexT v ≠ [] ∧ (hexT v).length ≤ 4 ∧ ∀ c ∈ hexT v, c ≠ 58 ∧ c ≠ 46 := hexT_facts 3 v (Nat.le_refl _) h
/-! ### Elder addresses -/
/-! ### Newer addresses: their groups -/
/-! ### No two colons -/
/-! ### The longest run of noughts -/
theorem noF_spec (G : List Nat) : ∀ (r D : List Nat) (s f t : Nat), G = D ++ r → s ≤ D.length → (∀ j, s ≤ j → j < D.length → G[j]? = some 0) → (f = t ∨ (2 ≤ t - f ∧ t ≤ G.length ∧ ∀ j, f ≤ j → j < t → G[j]? = some 0)) →
    (noF r (D.length + 1) s f t).1 = (noF r (D.length + 1) s f t).2 ∨ (2 ≤ (noF r (D.length + 1) s f t).2 - (noF r (D.length + 1) s f t).1 ∧ (noF r (D.length + 1) s f t).2 ≤ G.length ∧ ∀ j, (noF r (D.length + 1) s f t).1 ≤ j → j < (noF r (D.length + 1) s f t).2 → G[j]? = some 0)
  | [], D, s, f, t, _, _, _, h => by unfold noF; exact h
  | c :: r, D, s, f, t, hG, hs, hz, h => by
    obtain ⟨s', hs'⟩ : ∃ s', s' = if c ≠ 0 then D.length + 1 else s := ⟨_, rfl⟩
    have hl : (D ++ [c]).length = D.length + 1 := by simp
    have hG' : G = (D ++ [c]) ++ r := by rw [hG]; simp
    have hsl : s' ≤ D.length + 1 := by rw [hs']; split <;> omega
    have hz' : ∀ j, s' ≤ j → j < D.length + 1 → G[j]? = some 0 := by
      intro j h1 h2
      rw [hs'] at h1
      split at h1
      · omega
      · rename_i hc
        have hc : c = 0 := by simpa using hc
        by_cases hj : j < D.length
        · exact hz j h1 hj
        · obtain rfl : j = D.length := by omega
          rw [hG, List.getElem?_append_right (Nat.le_refl _), Nat.sub_self, hc]
          rfl
    have hGl : D.length + 1 ≤ G.length := by rw [hG]; simp
    unfold noF
    rw [← hs']
    split
    · rename_i hm
      have := noF_spec G r (D ++ [c]) s' s' (D.length + 1) hG' (by rw [hl]; exact hsl) (by rw [hl]; exact hz') (.inr ⟨by omega, hGl, hz'⟩)
      rw [hl] at this
      exact this
    · have := noF_spec G r (D ++ [c]) s' f t hG' (by rw [hl]; exact hsl) (by rw [hl]; exact hz') h
      rw [hl] at this
      exact this
theorem noughts_spec (g : List Nat) : (noughts g).1 = (noughts g).2 ∨ (2 ≤ (noughts g).2 - (noughts g).1 ∧ (noughts g).2 ≤ g.length ∧ ∀ j, (noughts g).1 ≤ j → j < (noughts g).2 → g[j]? = some 0) :=
  noF_spec g g [] 0 0 0 rfl (Nat.le_refl _) (fun j _ h => absurd h (Nat.not_lt_zero _)) (.inl rfl)

/-! ### Groups as a text, read -/
/-! ### How long a text is -/
theorem join_len1 {m : Nat} {L : List (List UInt8)} (h : ∀ x ∈ L, x.length ≤ m) (hL : L ≠ []) (c : UInt8) : (Lib.join L [c]).length + 1 ≤ L.length * (m + 1) := by
  rcases L with _ | ⟨x, r⟩
  · exact absurd rfl hL
  · have h1 := joinTail_len [c] m r fun y hy => h y (List.mem_cons_of_mem _ hy)
    have h2 := h x (List.mem_cons_self ..)
    rw [List.length_singleton] at h1
    rw [Lib.join_cons, List.length_append, List.length_cons, Nat.succ_mul]
    omega
theorem grpT_len {g : List Nat} (h : ∀ c ∈ g, c < 65536) : (grpT g).length ≤ g.length * 5 - 1 := by
  rcases g with _ | ⟨c, r⟩
  · decide
  · have := join_len1 (m := 4) (L := (c :: r).map hexT) (fun x hx => by
      obtain ⟨d, hd, rfl⟩ := List.mem_map.1 hx
      exact (hexT_16 (h d hd)).2.2.1) (by simp) 58
    rw [List.length_map] at this
    unfold grpT
    omega
theorem text6_len {g : List Nat} (hg : g.length = 8) (h : ∀ c ∈ g, c < 65536) : (text6 g).length ≤ 39 := by
  unfold text6
  by_cases he : (noughts g).1 = (noughts g).2
  · rw [if_pos he]
    have := grpT_len h
    omega
  · obtain ⟨h1, h2, h3⟩ := (noughts_spec g).resolve_left he
    rw [if_neg he]
    have hA := grpT_len (g := g.take (noughts g).1) fun c hc => h c (List.mem_of_mem_take hc)
    have hB := grpT_len (g := g.drop (noughts g).2) fun c hc => h c (List.mem_of_mem_drop hc)
    rw [List.length_take] at hA
    rw [List.length_drop] at hB
    simp only [List.length_append, List.length_cons, List.length_nil]
    omega
theorem text_len (a : Ad) : (txA a).1.length ≤ 39 := by
  unfold txA
  split
  · simp
  · split
    · exact text6_len (grpA_len a) (fun c hc => grpA_lt _ c hc)
    · rename_i h1 h2
      obtain ⟨six, hi, lo⟩ := a
      obtain rfl : six = false := by simpa using h2
      have := join_len1 (m := 3) (L := numsT (octs lo 4)) (fun x hx => by
        obtain ⟨c, _, rfl⟩ := List.mem_map.1 hx
        exact decT_len ⟨c.toNat, c.toNat_lt⟩) (by
          intro e
          have := congrArg List.length e
          unfold numsT at this
          rw [List.length_map, octs_length] at this
          cases this) 46
      rw [show (numsT (octs lo 4)).length = 4 by unfold numsT; rw [List.length_map, octs_length]] at this
      show (Lib.join (numsT (octs lo 4)) [46]).length ≤ 39
      omega
end Go.Proofs.YtpmlldgjbmingaaGreatDoor
namespace Go.Proofs.YtpmlldgjbmingaaGreatDoor
open Go.RowKit
set_option linter.unusedVariables false

/-- The number whose digits these are, three at most, written in one way. -/
def numG (s : List UInt8) : Option Nat := match Lib.parseUintB 16 s with
  | .ok v => if s.length ≤ 3 ∧ decT v = s then some v else none
  | _ => none
/-- What Read answers: an address, bits, an error. -/
def rdR (s : List UInt8) : Ad × Nat × Nat :=
  if (rdA (Lib.cut s [47]).1).2 ≠ 0 then (noA, 0, (rdA (Lib.cut s [47]).1).2) else match numG (Lib.cut s [47]).2.1 with
    | none => (noA, 0, 7)
    | some n => if chkR (rdA (Lib.cut s [47]).1).1 n ≠ 0 then (noA, 0, chkR (rdA (Lib.cut s [47]).1).1 n) else ((rdA (Lib.cut s [47]).1).1, n, 0)
/-- What Text answers. -/
def txR (r : Ad) (n : Int) : List UInt8 × Nat := if chkR r n ≠ 0 then ([], chkR r n) else ((txA r).1 ++ 47 :: decT n.toNat, 0)
theorem parseM_le' (M : Nat) : ∀ (l : List UInt8) (acc u : Nat), acc ≤ M → Lib.parseUintM M acc l = .ok u → u ≤ M
  | [], acc, u, h, e => by
    unfold Lib.parseUintM at e
    injection e with e
    omega
  | c :: r, acc, u, h, e => by
    unfold Lib.parseUintM at e
    split at e
    · split at e
      · cases e
      · split at e
        · cases e
        · exact parseM_le' M r _ u (by omega) e
    · cases e
theorem parse16_le {l : List UInt8} {u : Nat} (h : Lib.parseUintB 16 l = .ok u) : u ≤ 65535 := by
  unfold Lib.parseUintB at h
  split at h
  · cases h
  · exact parseM_le' (2 ^ 16 - 1) l 0 u (by decide) h
theorem parseM_small (M : Nat) : ∀ (l : List UInt8) (acc u : Nat), Lib.parseUintM M acc l = .ok u → u < (acc + 1) * 10 ^ l.length
  | [], acc, u, e => by
    unfold Lib.parseUintM at e
    injection e with e
    simp only [List.length_nil, Nat.pow_zero, Nat.mul_one]
    omega
  | c :: r, acc, u, e => by
    unfold Lib.parseUintM at e
    split at e
    · split at e
      · cases e
      · split at e
        · cases e
        · have h := parseM_small M r _ u e
          have h2 : acc * 10 + (c.toNat - 48) + 1 ≤ (acc + 1) * 10 := by omega
          rw [List.length_cons, Nat.pow_succ, Nat.mul_comm (10 ^ r.length) 10, ← Nat.mul_assoc]
          exact Nat.lt_of_lt_of_le h (Nat.mul_le_mul_right _ h2)
    · cases e
theorem parse_small {l : List UInt8} {u : Nat} (h : Lib.parseUintB 16 l = .ok u) (hl : l.length ≤ 3) : u < 1000 := by
  unfold Lib.parseUintB at h
  split at h
  · cases h
  · have h1 := parseM_small _ l 0 u h
    have h2 : 10 ^ l.length ≤ 10 ^ 3 := Nat.pow_le_pow_right (by decide) hl
    omega
theorem dec_len : ∀ n : Fin 129, (decT n.val).length ≤ 3 ∧ (47 : UInt8) ∉ decT n.val := by decide +kernel
example : rdR [49, 48, 46, 48, 46, 48, 46, 48, 47, 51, 48] = ((false, 0, 167772160), 30, 0) := by decide +kernel
example : rdR [49, 48, 46, 48, 46, 48, 46, 49, 47, 51, 48] = (noA, 0, 2) := by decide +kernel
end Go.Proofs.YtpmlldgjbmingaaGreatDoor
