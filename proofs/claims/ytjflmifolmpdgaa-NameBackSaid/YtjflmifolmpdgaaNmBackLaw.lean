/-
  NameBack: Read of Text is the name, case and all, with its last dot or without; a name is made of its labels: the walk. Condition: the name is no longer than Go's own limit.
-/
import Derived.Test.YtjflmifolmpdgaaNmLives
namespace Go.Proofs.Ytjflmifolmpdgaa
open Go.RowKit
set_option linter.unusedVariables false

theorem tx_head {x : List UInt8} (h : 0 < x.length) : ∃ c t, tx x = c :: t ∧ c.toNat ≠ 46 := by
  rcases x with _ | ⟨y, r⟩
  · simp at h
  · obtain ⟨⟨c, t, e, hc⟩, _⟩ := good1 y
    refine ⟨c, t ++ tx r, ?_, hc⟩
    show esc1 y ++ tx r = _
    rw [e]
    rfl
theorem tN_ge : ∀ {L : List (List UInt8)}, okN L → 2 * L.length ≤ (tN L).length
  | [], _ => by simp
  | x :: L, h => by
    have h' := okN_cons.1 h
    have ih := tN_ge h'.2
    obtain ⟨c, t, e, _⟩ := tx_head h'.1.1
    rw [tN_cons, e, List.length_append, List.length_cons, List.length_cons, List.length_cons]
    omega
theorem mkN_labs {l : List UInt8} (h : chkN l = 0) : mkN (labs l) = (l, 0) := by
  obtain ⟨h1, h2⟩ := chkN_iff.1 h
  unfold mkN named
  rw [if_pos (badL_ok.2 (labs_ok l)), h2, if_neg (by omega)]
theorem rdN_txN {l : List UInt8} (h : chkN l = 0) : rdN (txN l) = (l, 0) := by
  obtain ⟨L, h1, h2, h3, h4⟩ := chkN_out h
  rcases L with _ | ⟨x, L⟩
  · have : l = [] := h2
    subst this
    rfl
  · have hx := (okN_cons.1 h1).1
    have hl : l.length ≠ 0 := by
      rw [h2, enc_cons, List.length_append, enc1_length]
      omega
    have e : txN l = tN (x :: L) := by unfold txN; rw [if_pos h, if_neg hl, h3]
    obtain ⟨c, t, ec, hc⟩ := tx_head hx.1
    have e2 : tN (x :: L) = c :: (t ++ 46 :: tN L) := by rw [tN_cons, ec]; rfl
    have hr := rdLs_tN (x :: L) [] [] (tN (x :: L)).length h1 (by have := tN_ge h1; omega)
    rw [List.nil_append, List.length_nil, List.nil_append] at hr
    rw [e]
    unfold rdN
    rw [hr, if_neg (by rw [e2]; simp), if_neg (by rw [e2]; intro e3; injection e3 with e3 _; rw [e3] at hc; exact hc rfl)]
    simp only [if_true]
    unfold named
    rw [if_neg (by omega), ← h2]
theorem rdN_drop {l : List UInt8} (h : chkN l = 0) (h0 : l ≠ []) : rdN (txN l).dropLast = (l, 0) := by
  obtain ⟨L, h1, h2, h3, h4⟩ := chkN_out h
  rcases L with _ | ⟨x, L⟩
  · exact absurd h2 h0
  · have hx := (okN_cons.1 h1).1
    have hl : l.length ≠ 0 := by
      rw [h2, enc_cons, List.length_append, enc1_length]
      omega
    have e : txN l = tN (x :: L) := by unfold txN; rw [if_pos h, if_neg hl, h3]
    obtain ⟨c, t, ec, hc⟩ := tx_head hx.1
    have e2 : (tN (x :: L)).dropLast = c :: (t ++ 46 :: tN L).dropLast := by
      rw [tN_cons, ec, List.cons_append, List.dropLast_cons_of_ne_nil (by simp)]
    have hr := rdLs_tN' L [] x [] (tN (x :: L)).dropLast.length h1 (by have := tN_ge h1; rw [List.length_dropLast]; simp at this; omega)
    rw [List.nil_append, List.length_nil, List.nil_append] at hr
    rw [e]
    unfold rdN
    rw [hr, if_neg (by rw [e2]; simp), if_neg (by rw [e2]; intro e3; injection e3 with e3 _; rw [e3] at hc; exact hc rfl)]
    simp only [if_true]
    unfold named
    rw [if_neg (by omega), ← h2]
theorem txN_last {l : List UInt8} (h : chkN l = 0) : ∃ t, txN l = t ++ [46] := by
  unfold txN
  rw [if_pos h]
  split
  · exact ⟨[], rfl⟩
  · rcases List.eq_nil_or_concat (labs l) with e | ⟨M, x, e⟩
    · obtain ⟨_, h2⟩ := chkN_iff.1 h
      rw [e] at h2
      have : l = [] := h2.symm
      subst this
      simp at *
    · exact ⟨tN M ++ tx x, by rw [e, List.concat_eq_append, tN_snoc, List.append_assoc]⟩

theorem back_long (n : ByteArray) (w : World) (hs : n.size ≤ maxLen) (h : 400 < n.size) :
    Calls Try.prog 5 #[.string n] w fun e w' => e = .returned (.bool true) ∧ Below w.heap.size w w' := by
  unfold maxLen at hs
  go_enter Try.func5, Try.ntmps5
  go_wp2_with (go_at_call 11; refine (lives2 _).mono ?_; rintro e w1 ⟨rfl, hb1⟩)
  go_ret
  exact ⟨rfl, hb1⟩

set_option maxHeartbeats 1000000 in
theorem back_bad (n : ByteArray) (E : Nat) (w : World) (hs : n.size ≤ 400) (hE : E ≠ 0)
    (h1 : Gives 14 #[.string n] (.tuple #[.string ⟨#[]⟩, .int .i64 E])) (h2 : Gives 17 #[.string n] (.int .i64 E)) (h3 : ∀ wx, Calls Try.prog 31 #[.string n] wx (Lbs wx [])) :
    Calls Try.prog 5 #[.string n] w fun e w' => e = .returned (.bool true) ∧ Below w.heap.size w w' := by
  have hb : ((E : Int) != 0) = true := bne_iff_ne.2 (by omega)
  go_enter Try.func5, Try.ntmps5
  go_wp2_with (go_at_call 11; refine (lives2 _).mono ?_; rintro e w1 ⟨rfl, hb1⟩)
  refine (h1 _).mono ?_
  rintro e w2 ⟨rfl, hb2⟩
  go_wp2_with fail
  refine (h2 _).mono ?_
  rintro e w3 ⟨rfl, hb3⟩
  go_wp2_with fail
  refine (h3 _).mono ?_
  rintro e w4 ⟨v, L, rfl, hL, hLL, hb4⟩
  obtain rfl : L = [] := List.map_eq_nil_iff.1 hLL
  obtain ⟨A, ca, rfl, _, _⟩ := hL.shape
  clear hLL hL
  go_wp2
  go_ret
  exact ⟨by simp, next (next (next hb1 hb2) hb3) hb4⟩

set_option maxHeartbeats 2000000 in
theorem back_ok (n s : ByteArray) (w : World) (hs : n.size ≤ 254) (h0 : 0 < n.size) (hk : 1 ≤ s.size) (hk2 : s.size ≤ 65536) (hlast : ∀ h : s.size - 1 < s.size, s[(s.size - 1)].toNat = 46)
    (h1 : Gives 14 #[.string n] (.tuple #[.string s, .int .i64 0])) (h2 : Gives 12 #[.string s] (.tuple #[.string n, .int .i64 0]))
    (h3 : ∀ wx, Calls Try.prog 31 #[.string n] wx (Lbs wx (nlabs (bs n)))) (h4 : mkN (nlabs (bs n)) = (bs n, 0)) (h5 : Gives 12 #[.string (s.extract 0 (s.size - 1))] (.tuple #[.string n, .int .i64 0])) :
    Calls Try.prog 5 #[.string n] w fun e w' => e = .returned (.bool true) ∧ Below w.heap.size w w' := by
  obtain ⟨e1, e2⟩ := empty_no h0
  have hlt : s.size - 1 < s.size := by omega
  have hl := hlast hlt
  have hz : ((s.size : Int) == 0) = false := beq_eq_false_iff_ne.2 (by omega)
  have hb46 : ((s[(s.size - 1)].toNat : Int) != 46) = false := bne_eq_false_iff_eq.2 (by omega)
  have H4 := Lib.hid h4
  have hn4 := nlabs_len (bs n)
  clear hl hlast h4 h0
  go_enter Try.func5, Try.ntmps5
  go_wp2_with (go_at_call 11; refine (lives2 _).mono ?_; rintro e w1 ⟨rfl, hb1⟩)
  refine (h1 _).mono ?_
  rintro e w2 ⟨rfl, hb2⟩
  go_wp2_with fail
  refine (h2 _).mono ?_
  rintro e w3 ⟨rfl, hb3⟩
  go_wp2_with fail
  refine (h3 _).mono ?_
  rintro e w4 ⟨v, L, rfl, hL, hLL, hb4⟩
  have hsm := small_of hLL (nlabs_ok _)
  have hln : L.length ≤ 127 := by rw [labs_len hLL]; exact hn4
  have HM := Lib.hid (Make_any v L w4 hL (by omega) hsm)
  rw [hLL, H4.out] at HM
  have HL := Lib.hid hLL
  clear hLL hsm
  obtain ⟨A, ca, rfl, _, _⟩ := hL.shape
  go_wp2_with fail
  refine HM.out.mono ?_
  rintro e w5 ⟨rfl, hb5⟩
  rw [arr_of rfl]
  go_wp2_with fail
  refine (h5 _).mono ?_
  rintro e w6 ⟨rfl, hb6⟩
  go_wp2
  go_ret
  exact ⟨by simp, next (next (next (next (next hb1 hb2) hb3) hb4) hb5) hb6⟩

set_option maxHeartbeats 2000000 in
theorem back_root (n : ByteArray) (w : World) (h0 : n.size = 0)
    (h1 : Gives 14 #[.string n] (.tuple #[.string ⟨#[46]⟩, .int .i64 0])) (h2 : Gives 12 #[.string ⟨#[46]⟩] (.tuple #[.string n, .int .i64 0]))
    (h3 : ∀ wx, Calls Try.prog 31 #[.string n] wx (Lbs wx (nlabs (bs n)))) (h4 : mkN (nlabs (bs n)) = (bs n, 0)) :
    Calls Try.prog 5 #[.string n] w fun e w' => e = .returned (.bool true) ∧ Below w.heap.size w w' := by
  have e1 := empty_yes h0
  have hs : n.size ≤ 400 := by omega
  have H4 := Lib.hid h4
  have hn4 := nlabs_len (bs n)
  clear h4 h0
  go_enter Try.func5, Try.ntmps5
  go_wp2_with (go_at_call 11; refine (lives2 _).mono ?_; rintro e w1 ⟨rfl, hb1⟩)
  refine (h1 _).mono ?_
  rintro e w2 ⟨rfl, hb2⟩
  go_wp2_with fail
  refine (h2 _).mono ?_
  rintro e w3 ⟨rfl, hb3⟩
  go_wp2_with fail
  refine (h3 _).mono ?_
  rintro e w4 ⟨v, L, rfl, hL, hLL, hb4⟩
  have hsm := small_of hLL (nlabs_ok _)
  have hln : L.length ≤ 127 := by rw [labs_len hLL]; exact hn4
  have HM := Lib.hid (Make_any v L w4 hL (by omega) hsm)
  rw [hLL, H4.out] at HM
  have HL := Lib.hid hLL
  clear hLL hsm
  obtain ⟨A, ca, rfl, _, _⟩ := hL.shape
  go_wp2_with fail
  refine HM.out.mono ?_
  rintro e w5 ⟨rfl, hb5⟩
  rw [arr_of rfl]
  go_wp2
  go_ret
  exact ⟨by simp, next (next (next (next hb1 hb2) hb3) hb4) hb5⟩

theorem NameBack_walk (n : ByteArray) (hn : n.size ≤ maxLen) (w : World) :
    Calls Try.prog 5 #[.string n] w fun e w' => e = .returned (.bool true) ∧ Below w.heap.size w w' := by
  by_cases hl : 400 < n.size
  · exact back_long n w hn hl
  · by_cases hc : chkN (bs n) = 0
    · obtain ⟨s, hs⟩ : ∃ s : ByteArray, bs s = txN (bs n) := ⟨_, bs_mk _⟩
      have hle := (chkN_iff.1 hc).1
      rw [bs_length] at hle
      have hm4 : mkN (nlabs (bs n)) = (bs n, 0) := by rw [nlabs_yes hc]; exact mkN_labs hc
      have hss : s.size ≤ 65536 := by
        rw [← bs_length, hs]
        unfold txN
        rw [if_pos hc]
        split
        · simp
        · have h1 := tN_len (labs (bs n))
          rw [(chkN_iff.1 hc).2, bs_length] at h1
          omega
      rcases Nat.eq_zero_or_pos n.size with h0 | h0
      · have hnil : bs n = [] := List.eq_nil_of_length_eq_zero (by rw [bs_length]; exact h0)
        refine back_root n w h0 (gText (e := 0) hn ?_ hc) (gRead (e := 0) (by decide) ?_) (fun wx => Labels_any n wx hn) hm4
        · rw [hnil]; rfl
        · rw [hnil]; rfl
      · have hne : bs n ≠ [] := fun e => by
          have := bs_length n
          rw [e] at this
          simp at this
          omega
        obtain ⟨t, ht⟩ := txN_last hc
        have hsz : s.size = t.length + 1 := by rw [← bs_length, hs, ht]; simp
        have hm : (s.size - 1) = t.length := by omega
        have hex : bs (s.extract 0 (s.size - 1)) = (txN (bs n)).dropLast := by
          rw [bs_extract, hs, ht, hm]
          simp
        refine back_ok n s w hle h0 (by omega) hss ?_ (gText (e := 0) hn hs.symm hc) (gRead (e := 0) (by omega) ?_) (fun wx => Labels_any n wx hn) hm4 (gRead (e := 0) ?_ ?_)
        · intro h
          have e : s[(s.size - 1)] = (bs s)[(s.size - 1)]'(by rw [bs_length]; exact h) := rfl
          rw [e]
          simp only [hs, ht, hm]
          simp
        · rw [hs]
          exact rdN_txN hc
        · have := bs_length (s.extract 0 (s.size - 1))
          rw [hex, List.length_dropLast, ← hs, bs_length] at this
          omega
        · rw [hex]
          exact rdN_drop hc hne
    · have hE := chkN_cases (bs n)
      refine back_bad n (chkN (bs n)) w (by omega) hc (gText hn ?_ rfl) (gCheck hn rfl) (fun wx => ?_)
      · show txN (bs n) = []
        exact if_neg hc
      · have := Labels_any n wx hn
        rw [nlabs_no hc] at this
        exact this
end Go.Proofs.Ytjflmifolmpdgaa
