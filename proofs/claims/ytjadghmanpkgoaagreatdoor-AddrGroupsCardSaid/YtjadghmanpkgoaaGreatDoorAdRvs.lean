/-
  An address' reverse name made: the walk of addr.Reverse. Conditions: as each theorem names them.
-/
import Derived.Test.YtjadghmanpkgoaaGreatDoorAdRev
import Derived.Test.YtjadghmanpkgoaaGreatDoorAdRvM
import Derived.Test.YtjadghmanpkgoaaGreatDoorNmPut
namespace Go.Proofs.YtjadghmanpkgoaaGreatDoor
open Go.RowKit
set_option linter.unusedVariables false

theorem strB_map (L : List (List UInt8)) : (strB L).map bs = L := strB_bs L
theorem strB_app (L M : List (List UInt8)) : strB (L ++ M) = strB L ++ strB M := by simp [strB]
theorem strB_size {L : List (List UInt8)} {m : Nat} (h : ∀ x ∈ L, x.length ≤ m) : ∀ x ∈ strB L, x.size ≤ m := by
  intro x hx
  obtain ⟨l, hl, rfl⟩ := List.mem_map.1 hx
  have := h l hl
  show l.toArray.size ≤ m
  simpa using this
/-- name.Make of the labels turned about, two more behind. -/
theorem Make_rev (a : Ad) (w : World) (v : Value) (base : Nat) (x y : ByteArray) (hx : bs x = endA a) (hy : bs y = arpa) (h : TOwn 9 w base v (strB (digA a).reverse ++ [x, y])) :
    Calls Tryz.prog 76 #[v] w (Nm w (mkN (revL a))) := by
  have hl := digA_len a
  have := Make_any v _ w h.row (by
    rw [List.length_append, strB_length, List.length_reverse, hl]
    split <;> simp) (by
    intro z hz
    rcases List.mem_append.1 hz with hz | hz
    · have := strB_size (m := 3) (fun u hu => by
        have := (digA_ok a u (List.mem_reverse.1 hu)).2.1
        split at this <;> omega) z hz
      unfold maxLen
      omega
    · simp only [List.mem_cons, List.not_mem_nil, or_false] at hz
      rcases hz with rfl | rfl
      · rw [← bs_length, hx]
        unfold endA maxLen
        split <;> decide
      · rw [← bs_length, hy]
        decide)
  have e : (strB (digA a).reverse ++ [x, y]).map bs = revL a := by
    rw [List.map_append, strB_map, revL_eq, List.map_cons, List.map_cons, List.map_nil, hx, hy]
  rw [e] at this
  exact this
theorem digA_old (hi lo : Nat) : digA (false, hi, lo) = numsT (octA (false, hi, lo)) := rfl
theorem digA_new (hi lo : Nat) : digA (true, hi, lo) = digsT (octA (true, hi, lo)) := rfl
theorem revA_mk {a : Ad} (h : chkA a = 0) : revA a = mkN (revL a) := by unfold revA; rw [if_neg (by rw [h]; decide)]
set_option maxHeartbeats 2000000 in
theorem aReverse_any (six : Bool) (hi lo : Nat) (w : World) (h1 : hi < 18446744073709551616) (h2 : lo < 18446744073709551616) (hG : Ground w) :
    Calls Tryz.prog 23 #[.agg #[.bool six, .int .u64 (hi : Int), .int .u64 (lo : Int)]] w (Nm w (revA (six, hi, lo))) := by
  obtain ⟨w0, hw0⟩ : ∃ w0, w0 = w.alloc (.cells #[.bool six, .int .u64 (hi : Int), .int .u64 (lo : Int)] 24) := ⟨_, rfl⟩
  have hb0 : Below w.heap.size w w0 := by rw [hw0]; exact (Below.refl _ _).alloc (Nat.le_refl _) _
  have HB0 := Lib.hid hb0
  have HG0 := Lib.hid (hG.next hb0)
  have HK : Hid (∀ w1 : World, Below w0.heap.size w0 w1 → AdB w1 w.heap.size six hi lo) := Lib.hid (fun w1 hb => Lies.next (by rw [hw0]; exact Lies.new w _ _) hb)
  have HC := Lib.hid (fun wx => aCheck_any six hi lo wx h1 h2)
  clear hG hb0
  unfold Nm
  rcases chkA_cases (six, hi, lo) with hc | hc
  · rw [hc] at HC
    rw [revA_mk hc]
    have HO := Lib.hid (fun wx => octetsOf_any six hi lo wx h1 h2)
    have hol : (octA (six, hi, lo)).length ≤ 1000000 := by
      cases six
      · show (octs lo 4).length ≤ _; rw [octs_length]; decide
      · show (octs hi 8 ++ octs lo 8).length ≤ _; rw [List.length_append, octs_length, octs_length]; decide
    have HN := Lib.hid (fun v wx hx hg => numbers_any (octA (six, hi, lo)) v wx hx hol hg)
    have HD := Lib.hid (fun v wx hx hg => digits_any (octA (six, hi, lo)) v wx hx hol hg)
    have hdl := digA_len (six, hi, lo)
    have HR := Lib.hid (fun v base wx hx => revT_any (digA (six, hi, lo)) v base wx wx hx (Below.refl _ _) (by rw [hdl]; split <;> decide))
    have hll : (strB (digA (six, hi, lo)).reverse).length ≤ 1099511627776 := by rw [strB_length, List.length_reverse, hdl]; split <;> decide
    clear hol hc hdl
    cases six
    · have HM := Lib.hid (fun v base wx hx => Make_rev (false, hi, lo) wx v base ⟨#[105, 110, 45, 97, 100, 100, 114]⟩ ⟨#[97, 114, 112, 97]⟩ rfl rfl hx)
      rw [digA_old] at HR HM hll
      unfold Nm at HM
      go_enter Tryz.func23, Tryz.ntmps23
      go_wp2_with (first | (go_at_call 27; rw [← hw0]; (with_reducible refine (HC.out _).mono ?_); rintro e w1 ⟨rfl, hb1⟩; obtain ⟨⟨hc0, hc1, hc2⟩, _⟩ := (HK.out _ hb1).facts; have HB1 := Lib.hid hb1; clear hb1) | (go_at_call 66; (with_reducible refine (HO.out _).mono ?_); rintro e w2 ⟨v2, rfl, hm2⟩; have HX := Lib.hid (RowE.of_own (enc := B) hm2.1); have HB2 := Lib.hid hm2.2; obtain ⟨⟨hd0, hd1, hd2⟩, _⟩ := (HK.out _ (next HB1.out HB2.out)).facts; obtain ⟨A2, c2, rfl⟩ := hm2.slice; clear hm2) | (go_at_call 65; (with_reducible refine (HN.out _ _ HX.out (HG0.out.next (next HB1.out HB2.out))).mono ?_); rintro e w3 ⟨v3, rfl, ho3, hb3⟩; obtain ⟨⟨he0, he1, he2⟩, _⟩ := (HK.out _ (next (next HB1.out HB2.out) hb3)).facts; have HT3 := Lib.hid ho3; obtain ⟨A3, c3, rfl⟩ := ho3.shape; have HB3 := Lib.hid hb3; clear hb3 ho3) | (go_at_call 75; (with_reducible refine (HR.out _ _ _ HT3.out).mono ?_); rintro e w5 ⟨rfl, ho5, hb5⟩; have HT5 := Lib.hid ho5; have HB5 := Lib.hid hb5; clear hb5 ho5) | (at_builtin; refine wpList_appendT2 adS _ rfl (.tmp 23) (.tmp 25) rfl w2.heap.size _ _ rfl (HT5.out.alloc _) ⟨w5.heap.size, 0, none⟩ ⟨#[105, 110, 45, 97, 100, 100, 114]⟩ ⟨#[97, 114, 112, 97]⟩ rfl (cellT2 _ _ _ _) hll (le_alloc (Nat.le_trans HB3.out.size HB5.out.size) _) ?_; intro v6 w6 ho6 hg6; have HT6 := Lib.hid ho6; have HG6 := Lib.hid hg6; clear ho6 hg6) | (go_at_call 76; (with_reducible refine (HM.out _ _ _ HT6.out).mono ?_); rintro e w7 ⟨rfl, hb7⟩; have HB7 := Lib.hid hb7; clear hb7) | fail)
      go_ret2
      have h2b := next (next HB0.out HB1.out) HB2.out
      have h5b := (h2b.trans (HB3.out.mono h2b.size)).trans (HB5.out.mono h2b.size)
      exact ⟨rfl, next ((h5b.alloc h5b.size _).trans (below_grownT HG6.out (HT5.out.alloc _) h2b.size (le_alloc (Nat.le_trans HB3.out.size HB5.out.size) _))) HB7.out⟩
    · have HM := Lib.hid (fun v base wx hx => Make_rev (true, hi, lo) wx v base ⟨#[105, 112, 54]⟩ ⟨#[97, 114, 112, 97]⟩ rfl rfl hx)
      rw [digA_new] at HR HM hll
      unfold Nm at HM
      go_enter Tryz.func23, Tryz.ntmps23
      go_wp2_with (first | (go_at_call 27; rw [← hw0]; (with_reducible refine (HC.out _).mono ?_); rintro e w1 ⟨rfl, hb1⟩; obtain ⟨⟨hc0, hc1, hc2⟩, _⟩ := (HK.out _ hb1).facts; have HB1 := Lib.hid hb1; clear hb1) | (go_at_call 66; (with_reducible refine (HO.out _).mono ?_); rintro e w2 ⟨v2, rfl, hm2⟩; have HX := Lib.hid (RowE.of_own (enc := B) hm2.1); have HB2 := Lib.hid hm2.2; obtain ⟨⟨hd0, hd1, hd2⟩, _⟩ := (HK.out _ (next HB1.out HB2.out)).facts; obtain ⟨A2, c2, rfl⟩ := hm2.slice; clear hm2) | (go_at_call 65; (with_reducible refine (HN.out _ _ HX.out (HG0.out.next (next HB1.out HB2.out))).mono ?_); rintro e w3 ⟨v3, rfl, ho3, hb3⟩; obtain ⟨⟨he0, he1, he2⟩, _⟩ := (HK.out _ (next (next HB1.out HB2.out) hb3)).facts; obtain ⟨A3, c3, rfl⟩ := ho3.shape; have HB3 := Lib.hid hb3; clear hb3 ho3) | (go_at_call 74; (with_reducible refine (HD.out _ _ (HX.out.next HB3.out) (HG0.out.next (next (next HB1.out HB2.out) HB3.out))).mono ?_); rintro e w4 ⟨v4, rfl, ho4, hb4⟩; have HT4 := Lib.hid ho4; obtain ⟨A4, c4, rfl⟩ := ho4.shape; have HB4 := Lib.hid hb4; clear hb4 ho4) | (go_at_call 75; (with_reducible refine (HR.out _ _ _ HT4.out).mono ?_); rintro e w5 ⟨rfl, ho5, hb5⟩; have HT5 := Lib.hid ho5; have HB5 := Lib.hid hb5; clear hb5 ho5) | (at_builtin; refine wpList_appendT2 adS _ rfl (.tmp 23) (.tmp 25) rfl w3.heap.size _ _ rfl (HT5.out.alloc _) ⟨w5.heap.size, 0, none⟩ ⟨#[105, 112, 54]⟩ ⟨#[97, 114, 112, 97]⟩ rfl (cellT2 _ _ _ _) hll (le_alloc (Nat.le_trans HB4.out.size HB5.out.size) _) ?_; intro v6 w6 ho6 hg6; have HT6 := Lib.hid ho6; have HG6 := Lib.hid hg6; clear ho6 hg6) | (go_at_call 76; (with_reducible refine (HM.out _ _ _ HT6.out).mono ?_); rintro e w7 ⟨rfl, hb7⟩; have HB7 := Lib.hid hb7; clear hb7) | fail)
      go_ret2
      have h2b := next (next (next HB0.out HB1.out) HB2.out) HB3.out
      have h5b := (h2b.trans (HB4.out.mono h2b.size)).trans (HB5.out.mono h2b.size)
      exact ⟨rfl, next ((h5b.alloc h5b.size _).trans (below_grownT HG6.out (HT5.out.alloc _) h2b.size (le_alloc (Nat.le_trans HB4.out.size HB5.out.size) _))) HB7.out⟩
  · rw [hc] at HC
    rw [revA_bad (by rw [hc]; decide), hc]
    go_enter Tryz.func23, Tryz.ntmps23
    go_wp2_with (go_at_call 27; rw [← hw0]; (with_reducible refine (HC.out _).mono ?_); rintro e w1 ⟨rfl, hb1⟩; have HB1 := Lib.hid hb1; clear hb1)
    go_ret2
    exact ⟨rfl, next HB0.out HB1.out⟩
end Go.Proofs.YtjadghmanpkgoaaGreatDoor
