/-
  The walk of the law AddrOrder, out of its cases. Conditions: as each theorem names them.
-/
import Derived.Test.YtpaocfjpnajonaaGreatDoorAdOry0
import Derived.Test.YtpaocfjpnajonaaGreatDoorAdOry1
import Derived.Test.YtpaocfjpnajonaaGreatDoorAdOrnw
import Derived.Test.YtpaocfjpnajonaaGreatDoorAdOrno
import Derived.Test.YtpaocfjpnajonaaGreatDoorAdOrM
namespace Go.Proofs.YtpaocfjpnajonaaGreatDoor
open Go.RowKit
set_option linter.unusedVariables false

theorem fit_pair {s : Bool} {h l : Nat} (h1 : h < 18446744073709551616) (h2 : l < 18446744073709551616) : fitA (s, h, l) := ⟨h1, h2⟩
theorem oc_str (a : Ad) (h : chkA a = 0) : ∃ X : ByteArray, ocA a = (bs X, 0) ∧ X.toList = octA a := by
  refine ⟨⟨(octA a).toArray⟩, ?_, ?_⟩
  · rw [ocA_ok h, bs_mk]
  · rw [bs_toList, bs_mk]
/-- What the second part of the law comes to. -/
inductive Sums (s : Bool) (a1 a2 m n : Nat) : Prop where
  | y0 (ph pl qh ql : Nat) (hfq : fitA (s, qh, ql)) (hA1 : addA (s, a1, a2) (m + n) = ((s, ph, pl), true)) (hA2 : addA (s, a1, a2) m = ((s, qh, ql), true)) (hA3 : addA (s, qh, ql) n = ((s, ph, pl), true)) (hfp : fitA (s, ph, pl)) (hd : cmpA (s, a1, a2) (s, ph, pl) = 0) (hs : (m : Int) + (n : Int) = 0)
  | y1 (ph pl qh ql : Nat) (hfq : fitA (s, qh, ql)) (hA1 : addA (s, a1, a2) (m + n) = ((s, ph, pl), true)) (hA2 : addA (s, a1, a2) m = ((s, qh, ql), true)) (hA3 : addA (s, qh, ql) n = ((s, ph, pl), true)) (hfp : fitA (s, ph, pl)) (hd : cmpA (s, a1, a2) (s, ph, pl) = -1) (hs : ¬ (m : Int) + (n : Int) = 0)
  | nw (hA1 : addA (s, a1, a2) (m + n) = (noA, false)) (hA2 : addA (s, a1, a2) m = (noA, false)) (hA3 : addA noA n = ((false, 0, n), true))
  | no (qh ql : Nat) (hfq : fitA (s, qh, ql)) (hA1 : addA (s, a1, a2) (m + n) = (noA, false)) (hA2 : addA (s, a1, a2) m = ((s, qh, ql), true)) (hA3 : addA (s, qh, ql) n = (noA, false))
theorem sums {s : Bool} {a1 a2 m n : Nat} (h1 : a1 < 18446744073709551616) (h2 : a2 < 18446744073709551616) (hm : m < 4294967296) (hn : n < 4294967296) (hc : chkA (s, a1, a2) = 0) : Sums s a1 a2 m n := by
  have hf : fitA (s, a1, a2) := ⟨h1, h2⟩
  rcases Nat.lt_or_ge (V (s, a1, a2) + m) (many s) with k1 | k1
  · obtain ⟨e1, e2, e3, e4, e5⟩ := add_yes hf (by omega) hc k1
    obtain ⟨q, hq⟩ : ∃ q, q = addA (s, a1, a2) m := ⟨_, rfl⟩
    rw [← hq] at e1 e2 e3 e4 e5
    obtain ⟨⟨qs, qh, ql⟩, was⟩ := q
    simp only at e1 e2 e3 e4 e5
    subst e1
    obtain rfl := e2.symm
    rcases Nat.lt_or_ge (V (s, a1, a2) + (m + n)) (many s) with k2 | k2
    · obtain ⟨f1, f2, f3, f4, f5⟩ := add_yes hf (by omega) hc k2
      obtain ⟨g1, g2, g3, g4, g5⟩ := add_yes (a := (s, qh, ql)) (n := n) e4 (by omega) e5 (by rw [e3]; show _ < many s; omega)
      obtain ⟨p, hp⟩ : ∃ p, p = addA (s, a1, a2) (m + n) := ⟨_, rfl⟩
      rw [← hp] at f1 f2 f3 f4 f5
      obtain ⟨⟨ps, ph, pl⟩, is⟩ := p
      simp only at f1 f2 f3 f4 f5
      subst f1
      obtain rfl := f2.symm
      have hr : addA (s, qh, ql) n = ((s, ph, pl), true) := by
        obtain ⟨r, hr⟩ : ∃ r, r = addA (s, qh, ql) n := ⟨_, rfl⟩
        rw [← hr] at g1 g2 g3 g4 g5 ⊢
        obtain ⟨r1, r2⟩ := r
        simp only at g1 g2 g3 g4
        rw [v_inj g4 f4 g2 (by omega), g1]
      by_cases hs : m + n = 0
      · refine .y0 ph pl qh ql e4 hp.symm hq.symm hr f4 ?_ (by omega)
        rw [cmp_same h2 (show pl < 18446744073709551616 from f4.2), if_neg (by omega), if_neg (by omega)]
      · refine .y1 ph pl qh ql e4 hp.symm hq.symm hr f4 ?_ (by omega)
        rw [cmp_same h2 (show pl < 18446744073709551616 from f4.2), if_pos (by omega)]
    · exact .no qh ql e4 (add_no hf (by omega) hc k2) hq.symm (add_no e4 (by omega) e5 (by rw [e3]; show many s ≤ _; omega))
  · exact .nw (add_no hf (by omega) hc (by show many s ≤ _; omega)) (add_no hf (by omega) hc k1) (add_noA n hn)
theorem u32_nat {z : Int} (h : (Lit.int IntKind.u32 z).wf = true) : ∃ n : Nat, z = n ∧ n < 4294967296 := by
  simp only [Lit.wf, Bool.and_eq_true, decide_eq_true_eq] at h
  have h2 : IntKind.u32.min = 0 := by decide
  have h3 : IntKind.u32.max = 4294967295 := by decide
  exact ⟨z.toNat, by omega, by omega⟩
/-- Octets of one that may not be. -/
theorem ocA_no {a : Ad} (h : chkA a = 2) : ocA a = (bs ⟨#[]⟩, 2) := by rw [ocA_bad (by rw [h]; decide), h]; rfl
set_option maxHeartbeats 2000000 in
theorem ord_bad_a (s t : Bool) (a1 a2 b1 b2 : Nat) (m n : Int) (w : World) (h1 : a1 < 18446744073709551616) (h2 : a2 < 18446744073709551616) (h3 : b1 < 18446744073709551616) (h4 : b2 < 18446744073709551616) (hG : Ground w) (X Y : ByteArray) (f : Nat) (ho1 : ocA (s, a1, a2) = (bs X, 2)) (ho2 : ocA (t, b1, b2) = (bs Y, f)) :
    Calls Tryz.prog 6 #[.agg #[.bool s, .int .u64 (a1 : Int), .int .u64 (a2 : Int)], .agg #[.bool t, .int .u64 (b1 : Int), .int .u64 (b2 : Int)], .int .u32 m, .int .u32 n] w fun e w' => e = .returned (.bool true) ∧ Below w.heap.size w w' := by
  obtain ⟨w0, hw0⟩ : ∃ w0, w0 = (w.alloc (.cells #[.bool s, .int .u64 (a1 : Int), .int .u64 (a2 : Int)] 26)).alloc (.cells #[.bool t, .int .u64 (b1 : Int), .int .u64 (b2 : Int)] 26) := ⟨_, rfl⟩
  have HB0 : Hid (Below w.heap.size w w0) := Lib.hid (by rw [hw0]; exact ((Below.refl _ _).alloc (Nat.le_refl _) _).alloc (le_alloc (Nat.le_refl _) _) _)
  have HG := Lib.hid (hG.next HB0.out)
  have HK : Hid (∀ w', Below w0.heap.size w0 w' → AdB w' w.heap.size s a1 a2 ∧ AdB w' (w.heap.size + 1) t b1 b2) := Lib.hid (by
    rw [hw0]
    intro w' hb
    have k1 := ((Lies.new w 26 #[.bool s, .int .u64 (a1 : Int), .int .u64 (a2 : Int)]).alloc (.cells #[.bool t, .int .u64 (b1 : Int), .int .u64 (b2 : Int)] 26)).next hb
    have k2 := (Lies.new (w.alloc (.cells #[.bool s, .int .u64 (a1 : Int), .int .u64 (a2 : Int)] 26)) 26 #[.bool t, .int .u64 (b1 : Int), .int .u64 (b2 : Int)]).next hb
    rw [size1] at k2
    exact ⟨k1, k2⟩)
  have HO1 : Hid (GG 25 #[.agg #[.bool s, .int .u64 (a1 : Int), .int .u64 (a2 : Int)]] (.tuple #[.string X, .int .i64 2])) := Lib.hid (gOc (a := (s, a1, a2)) (e := 2) ⟨h1, h2⟩ ho1)
  have HO2 : Hid (GG 25 #[.agg #[.bool t, .int .u64 (b1 : Int), .int .u64 (b2 : Int)]] (.tuple #[.string Y, .int .i64 f])) := Lib.hid (gOc (a := (t, b1, b2)) (e := f) ⟨h3, h4⟩ ho2)
  clear h1 h2 h3 h4 ho1 ho2 hG
  have hbb : Below w0.heap.size w0 w0 := Below.refl _ _
  go_enter Tryz.func6, Tryz.ntmps6
  go_wp2_with (first | (go_at_call 14; rw [← hw0]; (with_reducible refine (lives4.go _ (HG.out.next hbb)).mono ?_); rintro e w1 ⟨rfl, hb'⟩; replace hbb := next hbb hb'; clear hb'; obtain ⟨⟨⟨ha0, ha1, ha2⟩, _⟩, ⟨hb0, hb1, hb2⟩, _⟩ := And.intro (HK.out _ hbb).1.facts (HK.out _ hbb).2.facts; clear hw0) | (go_at_call 25; (with_reducible refine (HO1.out.go _ (HG.out.next hbb)).mono ?_); rintro e w2 ⟨rfl, hb'⟩; replace hbb := next hbb hb'; clear hb'; obtain ⟨⟨⟨ha0, ha1, ha2⟩, _⟩, ⟨hb0, hb1, hb2⟩, _⟩ := And.intro (HK.out _ hbb).1.facts (HK.out _ hbb).2.facts) | (go_at_call 25; (with_reducible refine (HO2.out.go _ (HG.out.next hbb)).mono ?_); rintro e w3 ⟨rfl, hb'⟩; replace hbb := next hbb hb'; clear hb'; obtain ⟨⟨⟨ha0, ha1, ha2⟩, _⟩, ⟨hb0, hb1, hb2⟩, _⟩ := And.intro (HK.out _ hbb).1.facts (HK.out _ hbb).2.facts) | fail)
  go_ret
  exact ⟨rfl, next HB0.out hbb⟩
set_option maxHeartbeats 2000000 in
theorem ord_bad_b (s t : Bool) (a1 a2 b1 b2 : Nat) (m n : Int) (w : World) (h1 : a1 < 18446744073709551616) (h2 : a2 < 18446744073709551616) (h3 : b1 < 18446744073709551616) (h4 : b2 < 18446744073709551616) (hG : Ground w) (X Y : ByteArray) (f : Nat) (ho1 : ocA (s, a1, a2) = (bs X, 0)) (ho2 : ocA (t, b1, b2) = (bs Y, 2)) :
    Calls Tryz.prog 6 #[.agg #[.bool s, .int .u64 (a1 : Int), .int .u64 (a2 : Int)], .agg #[.bool t, .int .u64 (b1 : Int), .int .u64 (b2 : Int)], .int .u32 m, .int .u32 n] w fun e w' => e = .returned (.bool true) ∧ Below w.heap.size w w' := by
  obtain ⟨w0, hw0⟩ : ∃ w0, w0 = (w.alloc (.cells #[.bool s, .int .u64 (a1 : Int), .int .u64 (a2 : Int)] 26)).alloc (.cells #[.bool t, .int .u64 (b1 : Int), .int .u64 (b2 : Int)] 26) := ⟨_, rfl⟩
  have HB0 : Hid (Below w.heap.size w w0) := Lib.hid (by rw [hw0]; exact ((Below.refl _ _).alloc (Nat.le_refl _) _).alloc (le_alloc (Nat.le_refl _) _) _)
  have HG := Lib.hid (hG.next HB0.out)
  have HK : Hid (∀ w', Below w0.heap.size w0 w' → AdB w' w.heap.size s a1 a2 ∧ AdB w' (w.heap.size + 1) t b1 b2) := Lib.hid (by
    rw [hw0]
    intro w' hb
    have k1 := ((Lies.new w 26 #[.bool s, .int .u64 (a1 : Int), .int .u64 (a2 : Int)]).alloc (.cells #[.bool t, .int .u64 (b1 : Int), .int .u64 (b2 : Int)] 26)).next hb
    have k2 := (Lies.new (w.alloc (.cells #[.bool s, .int .u64 (a1 : Int), .int .u64 (a2 : Int)] 26)) 26 #[.bool t, .int .u64 (b1 : Int), .int .u64 (b2 : Int)]).next hb
    rw [size1] at k2
    exact ⟨k1, k2⟩)
  have HO1 : Hid (GG 25 #[.agg #[.bool s, .int .u64 (a1 : Int), .int .u64 (a2 : Int)]] (.tuple #[.string X, .int .i64 0])) := Lib.hid (gOc (a := (s, a1, a2)) (e := 0) ⟨h1, h2⟩ ho1)
  have HO2 : Hid (GG 25 #[.agg #[.bool t, .int .u64 (b1 : Int), .int .u64 (b2 : Int)]] (.tuple #[.string Y, .int .i64 2])) := Lib.hid (gOc (a := (t, b1, b2)) (e := 2) ⟨h3, h4⟩ ho2)
  clear h1 h2 h3 h4 ho1 ho2 hG
  have hbb : Below w0.heap.size w0 w0 := Below.refl _ _
  go_enter Tryz.func6, Tryz.ntmps6
  go_wp2_with (first | (go_at_call 14; rw [← hw0]; (with_reducible refine (lives4.go _ (HG.out.next hbb)).mono ?_); rintro e w1 ⟨rfl, hb'⟩; replace hbb := next hbb hb'; clear hb'; obtain ⟨⟨⟨ha0, ha1, ha2⟩, _⟩, ⟨hb0, hb1, hb2⟩, _⟩ := And.intro (HK.out _ hbb).1.facts (HK.out _ hbb).2.facts; clear hw0) | (go_at_call 25; (with_reducible refine (HO1.out.go _ (HG.out.next hbb)).mono ?_); rintro e w2 ⟨rfl, hb'⟩; replace hbb := next hbb hb'; clear hb'; obtain ⟨⟨⟨ha0, ha1, ha2⟩, _⟩, ⟨hb0, hb1, hb2⟩, _⟩ := And.intro (HK.out _ hbb).1.facts (HK.out _ hbb).2.facts) | (go_at_call 25; (with_reducible refine (HO2.out.go _ (HG.out.next hbb)).mono ?_); rintro e w3 ⟨rfl, hb'⟩; replace hbb := next hbb hb'; clear hb'; obtain ⟨⟨⟨ha0, ha1, ha2⟩, _⟩, ⟨hb0, hb1, hb2⟩, _⟩ := And.intro (HK.out _ hbb).1.facts (HK.out _ hbb).2.facts) | fail)
  go_ret
  exact ⟨rfl, next HB0.out hbb⟩
theorem AddrOrder_walk (s0 : Bool) (h0 l0 : Nat) (s1 : Bool) (h1' l1 : Nat) (a2 a3 : Int) (f0 : h0 < 18446744073709551616) (g0 : l0 < 18446744073709551616) (f1 : h1' < 18446744073709551616) (g1 : l1 < 18446744073709551616) (w2 : (Lit.int IntKind.u32 a2).wf = true) (w3 : (Lit.int IntKind.u32 a3).wf = true) (w : World) (hG : Ground w) :
    Calls Tryz.prog 6 #[.agg #[.bool s0, .int .u64 (h0 : Int), .int .u64 (l0 : Int)], .agg #[.bool s1, .int .u64 (h1' : Int), .int .u64 (l1 : Int)], .int .u32 a2, .int .u32 a3] w fun e w' => e = .returned (.bool true) ∧ Below w.heap.size w w' := by
  obtain ⟨m, rfl, hm⟩ := u32_nat w2
  obtain ⟨n, rfl, hn⟩ := u32_nat w3
  have h1 := f0; have h2 := g0; have h3 := f1; have h4 := g1
  rcases chkA_cases (s0, h0, l0) with ha | ha
  · obtain ⟨X, ho1, hX⟩ := oc_str _ ha
    rcases chkA_cases (s1, h1', l1) with hb | hb
    · obtain ⟨Y, ho2, hY⟩ := oc_str _ hb
      have hFa : fitA (s0, h0, l0) := ⟨h1, h2⟩
      have hFb : fitA (s1, h1', l1) := ⟨h3, h4⟩
      have hkxy : s0 = s1 → Op.bytesLess X.toList Y.toList = decide (V (s0, h0, l0) < V (s1, h1', l1)) := fun e => by
        rw [bytesLess_eq, hX, hY]
        exact decide_eq_decide.2 (oct_lt hFa hFb ha hb e)
      cases s0 <;> cases s1
      · have hxy := hkxy rfl
        rcases Nat.lt_trichotomy h0 h1' with e1 | e1 | e1
        · exfalso
          rw [chk_v] at ha hb
          simp only [Bool.false_eq_true, false_or] at ha hb
          omega
        · subst e1
          rcases Nat.lt_trichotomy l0 l1 with e2 | e2 | e2
          · have kne : ¬ (l0 : Int) = (l1 : Int) := by omega
            rcases sums (m := m) (n := n) h1 h2 hm hn ha with ⟨ph, pl, qh, ql, hfq, hA1, hA2, hA3, hfp, hd, hs⟩ | ⟨ph, pl, qh, ql, hfq, hA1, hA2, hA3, hfp, hd, hs⟩ | ⟨hA1, hA2, hA3⟩ | ⟨qh, ql, hfq, hA1, hA2, hA3⟩
            · exact ord_fl2_y0 h0 l0 l1 m n w h1 h2 h4 hm hn hG X Y ho1 ho2 (by rw [cmp_same h2 h4, if_pos (by unfold V; simp only; omega)]) (by rw [cmp_same h4 h2, if_neg (by unfold V; simp only; omega), if_pos (by unfold V; simp only; omega)]) (by rw [hxy]; exact decide_eq_true (by unfold V; simp only; omega)) kne ph pl qh ql hfq hA1 hA2 hA3 hfp hd hs
            · exact ord_fl2_y1 h0 l0 l1 m n w h1 h2 h4 hm hn hG X Y ho1 ho2 (by rw [cmp_same h2 h4, if_pos (by unfold V; simp only; omega)]) (by rw [cmp_same h4 h2, if_neg (by unfold V; simp only; omega), if_pos (by unfold V; simp only; omega)]) (by rw [hxy]; exact decide_eq_true (by unfold V; simp only; omega)) kne ph pl qh ql hfq hA1 hA2 hA3 hfp hd hs
            · exact ord_fl2_nw h0 l0 l1 m n w h1 h2 h4 hm hn hG X Y ho1 ho2 (by rw [cmp_same h2 h4, if_pos (by unfold V; simp only; omega)]) (by rw [cmp_same h4 h2, if_neg (by unfold V; simp only; omega), if_pos (by unfold V; simp only; omega)]) (by rw [hxy]; exact decide_eq_true (by unfold V; simp only; omega)) kne hA1 hA2 hA3
            · exact ord_fl2_no h0 l0 l1 m n w h1 h2 h4 hm hn hG X Y ho1 ho2 (by rw [cmp_same h2 h4, if_pos (by unfold V; simp only; omega)]) (by rw [cmp_same h4 h2, if_neg (by unfold V; simp only; omega), if_pos (by unfold V; simp only; omega)]) (by rw [hxy]; exact decide_eq_true (by unfold V; simp only; omega)) kne qh ql hfq hA1 hA2 hA3
          · subst e2
            obtain rfl : X = Y := bs_inj (by rw [← bs_toList, ← bs_toList, hX, hY])
            rcases sums (m := m) (n := n) h1 h2 hm hn ha with ⟨ph, pl, qh, ql, hfq, hA1, hA2, hA3, hfp, hd, hs⟩ | ⟨ph, pl, qh, ql, hfq, hA1, hA2, hA3, hfp, hd, hs⟩ | ⟨hA1, hA2, hA3⟩ | ⟨qh, ql, hfq, hA1, hA2, hA3⟩
            · exact ord_feq_y0 h0 l0 m n w h1 h2 hm hn hG X X ho1 ho2 (by rw [cmp_same h2 h2, if_neg (by omega), if_neg (by omega)]) (by rw [cmp_same h2 h2, if_neg (by omega), if_neg (by omega)]) (by rw [hxy]; exact decide_eq_false (Nat.lt_irrefl _)) ph pl qh ql hfq hA1 hA2 hA3 hfp hd hs
            · exact ord_feq_y1 h0 l0 m n w h1 h2 hm hn hG X X ho1 ho2 (by rw [cmp_same h2 h2, if_neg (by omega), if_neg (by omega)]) (by rw [cmp_same h2 h2, if_neg (by omega), if_neg (by omega)]) (by rw [hxy]; exact decide_eq_false (Nat.lt_irrefl _)) ph pl qh ql hfq hA1 hA2 hA3 hfp hd hs
            · exact ord_feq_nw h0 l0 m n w h1 h2 hm hn hG X X ho1 ho2 (by rw [cmp_same h2 h2, if_neg (by omega), if_neg (by omega)]) (by rw [cmp_same h2 h2, if_neg (by omega), if_neg (by omega)]) (by rw [hxy]; exact decide_eq_false (Nat.lt_irrefl _)) hA1 hA2 hA3
            · exact ord_feq_no h0 l0 m n w h1 h2 hm hn hG X X ho1 ho2 (by rw [cmp_same h2 h2, if_neg (by omega), if_neg (by omega)]) (by rw [cmp_same h2 h2, if_neg (by omega), if_neg (by omega)]) (by rw [hxy]; exact decide_eq_false (Nat.lt_irrefl _)) qh ql hfq hA1 hA2 hA3
          · have kne : ¬ (l0 : Int) = (l1 : Int) := by omega
            rcases sums (m := m) (n := n) h1 h2 hm hn ha with ⟨ph, pl, qh, ql, hfq, hA1, hA2, hA3, hfp, hd, hs⟩ | ⟨ph, pl, qh, ql, hfq, hA1, hA2, hA3, hfp, hd, hs⟩ | ⟨hA1, hA2, hA3⟩ | ⟨qh, ql, hfq, hA1, hA2, hA3⟩
            · exact ord_fg2_y0 h0 l0 l1 m n w h1 h2 h4 hm hn hG X Y ho1 ho2 (by rw [cmp_same h2 h4, if_neg (by unfold V; simp only; omega), if_pos (by unfold V; simp only; omega)]) (by rw [cmp_same h4 h2, if_pos (by unfold V; simp only; omega)]) (by rw [hxy]; exact decide_eq_false (by unfold V; simp only; omega)) kne ph pl qh ql hfq hA1 hA2 hA3 hfp hd hs
            · exact ord_fg2_y1 h0 l0 l1 m n w h1 h2 h4 hm hn hG X Y ho1 ho2 (by rw [cmp_same h2 h4, if_neg (by unfold V; simp only; omega), if_pos (by unfold V; simp only; omega)]) (by rw [cmp_same h4 h2, if_pos (by unfold V; simp only; omega)]) (by rw [hxy]; exact decide_eq_false (by unfold V; simp only; omega)) kne ph pl qh ql hfq hA1 hA2 hA3 hfp hd hs
            · exact ord_fg2_nw h0 l0 l1 m n w h1 h2 h4 hm hn hG X Y ho1 ho2 (by rw [cmp_same h2 h4, if_neg (by unfold V; simp only; omega), if_pos (by unfold V; simp only; omega)]) (by rw [cmp_same h4 h2, if_pos (by unfold V; simp only; omega)]) (by rw [hxy]; exact decide_eq_false (by unfold V; simp only; omega)) kne hA1 hA2 hA3
            · exact ord_fg2_no h0 l0 l1 m n w h1 h2 h4 hm hn hG X Y ho1 ho2 (by rw [cmp_same h2 h4, if_neg (by unfold V; simp only; omega), if_pos (by unfold V; simp only; omega)]) (by rw [cmp_same h4 h2, if_pos (by unfold V; simp only; omega)]) (by rw [hxy]; exact decide_eq_false (by unfold V; simp only; omega)) kne qh ql hfq hA1 hA2 hA3
        · exfalso
          rw [chk_v] at ha hb
          simp only [Bool.false_eq_true, false_or] at ha hb
          omega
      · clear hkxy
        rcases sums (m := m) (n := n) h1 h2 hm hn ha with ⟨ph, pl, qh, ql, hfq, hA1, hA2, hA3, hfp, hd, hs⟩ | ⟨ph, pl, qh, ql, hfq, hA1, hA2, hA3, hfp, hd, hs⟩ | ⟨hA1, hA2, hA3⟩ | ⟨qh, ql, hfq, hA1, hA2, hA3⟩
        · exact ord_dft_y0 h0 l0 h1' l1 m n w h1 h2 h3 h4 hm hn hG X Y ho1 ho2 (by simp [cmpA]) (by simp [cmpA]) ph pl qh ql hfq hA1 hA2 hA3 hfp hd hs
        · exact ord_dft_y1 h0 l0 h1' l1 m n w h1 h2 h3 h4 hm hn hG X Y ho1 ho2 (by simp [cmpA]) (by simp [cmpA]) ph pl qh ql hfq hA1 hA2 hA3 hfp hd hs
        · exact ord_dft_nw h0 l0 h1' l1 m n w h1 h2 h3 h4 hm hn hG X Y ho1 ho2 (by simp [cmpA]) (by simp [cmpA]) hA1 hA2 hA3
        · exact ord_dft_no h0 l0 h1' l1 m n w h1 h2 h3 h4 hm hn hG X Y ho1 ho2 (by simp [cmpA]) (by simp [cmpA]) qh ql hfq hA1 hA2 hA3
      · clear hkxy
        rcases sums (m := m) (n := n) h1 h2 hm hn ha with ⟨ph, pl, qh, ql, hfq, hA1, hA2, hA3, hfp, hd, hs⟩ | ⟨ph, pl, qh, ql, hfq, hA1, hA2, hA3, hfp, hd, hs⟩ | ⟨hA1, hA2, hA3⟩ | ⟨qh, ql, hfq, hA1, hA2, hA3⟩
        · exact ord_dtf_y0 h0 l0 h1' l1 m n w h1 h2 h3 h4 hm hn hG X Y ho1 ho2 (by simp [cmpA]) (by simp [cmpA]) ph pl qh ql hfq hA1 hA2 hA3 hfp hd hs
        · exact ord_dtf_y1 h0 l0 h1' l1 m n w h1 h2 h3 h4 hm hn hG X Y ho1 ho2 (by simp [cmpA]) (by simp [cmpA]) ph pl qh ql hfq hA1 hA2 hA3 hfp hd hs
        · exact ord_dtf_nw h0 l0 h1' l1 m n w h1 h2 h3 h4 hm hn hG X Y ho1 ho2 (by simp [cmpA]) (by simp [cmpA]) hA1 hA2 hA3
        · exact ord_dtf_no h0 l0 h1' l1 m n w h1 h2 h3 h4 hm hn hG X Y ho1 ho2 (by simp [cmpA]) (by simp [cmpA]) qh ql hfq hA1 hA2 hA3
      · have hxy := hkxy rfl
        rcases Nat.lt_trichotomy h0 h1' with e1 | e1 | e1
        · have kne : ¬ (h0 : Int) = (h1' : Int) := by omega
          rcases sums (m := m) (n := n) h1 h2 hm hn ha with ⟨ph, pl, qh, ql, hfq, hA1, hA2, hA3, hfp, hd, hs⟩ | ⟨ph, pl, qh, ql, hfq, hA1, hA2, hA3, hfp, hd, hs⟩ | ⟨hA1, hA2, hA3⟩ | ⟨qh, ql, hfq, hA1, hA2, hA3⟩
          · exact ord_tl1_y0 h0 l0 h1' l1 m n w h1 h2 h3 h4 hm hn hG X Y ho1 ho2 (by rw [cmp_same h2 h4, if_pos (by unfold V; simp only; omega)]) (by rw [cmp_same h4 h2, if_neg (by unfold V; simp only; omega), if_pos (by unfold V; simp only; omega)]) (by rw [hxy]; exact decide_eq_true (by unfold V; simp only; omega)) kne ph pl qh ql hfq hA1 hA2 hA3 hfp hd hs
          · exact ord_tl1_y1 h0 l0 h1' l1 m n w h1 h2 h3 h4 hm hn hG X Y ho1 ho2 (by rw [cmp_same h2 h4, if_pos (by unfold V; simp only; omega)]) (by rw [cmp_same h4 h2, if_neg (by unfold V; simp only; omega), if_pos (by unfold V; simp only; omega)]) (by rw [hxy]; exact decide_eq_true (by unfold V; simp only; omega)) kne ph pl qh ql hfq hA1 hA2 hA3 hfp hd hs
          · exact ord_tl1_nw h0 l0 h1' l1 m n w h1 h2 h3 h4 hm hn hG X Y ho1 ho2 (by rw [cmp_same h2 h4, if_pos (by unfold V; simp only; omega)]) (by rw [cmp_same h4 h2, if_neg (by unfold V; simp only; omega), if_pos (by unfold V; simp only; omega)]) (by rw [hxy]; exact decide_eq_true (by unfold V; simp only; omega)) kne hA1 hA2 hA3
          · exact ord_tl1_no h0 l0 h1' l1 m n w h1 h2 h3 h4 hm hn hG X Y ho1 ho2 (by rw [cmp_same h2 h4, if_pos (by unfold V; simp only; omega)]) (by rw [cmp_same h4 h2, if_neg (by unfold V; simp only; omega), if_pos (by unfold V; simp only; omega)]) (by rw [hxy]; exact decide_eq_true (by unfold V; simp only; omega)) kne qh ql hfq hA1 hA2 hA3
        · subst e1
          rcases Nat.lt_trichotomy l0 l1 with e2 | e2 | e2
          · have kne : ¬ (l0 : Int) = (l1 : Int) := by omega
            rcases sums (m := m) (n := n) h1 h2 hm hn ha with ⟨ph, pl, qh, ql, hfq, hA1, hA2, hA3, hfp, hd, hs⟩ | ⟨ph, pl, qh, ql, hfq, hA1, hA2, hA3, hfp, hd, hs⟩ | ⟨hA1, hA2, hA3⟩ | ⟨qh, ql, hfq, hA1, hA2, hA3⟩
            · exact ord_tl2_y0 h0 l0 l1 m n w h1 h2 h4 hm hn hG X Y ho1 ho2 (by rw [cmp_same h2 h4, if_pos (by unfold V; simp only; omega)]) (by rw [cmp_same h4 h2, if_neg (by unfold V; simp only; omega), if_pos (by unfold V; simp only; omega)]) (by rw [hxy]; exact decide_eq_true (by unfold V; simp only; omega)) kne ph pl qh ql hfq hA1 hA2 hA3 hfp hd hs
            · exact ord_tl2_y1 h0 l0 l1 m n w h1 h2 h4 hm hn hG X Y ho1 ho2 (by rw [cmp_same h2 h4, if_pos (by unfold V; simp only; omega)]) (by rw [cmp_same h4 h2, if_neg (by unfold V; simp only; omega), if_pos (by unfold V; simp only; omega)]) (by rw [hxy]; exact decide_eq_true (by unfold V; simp only; omega)) kne ph pl qh ql hfq hA1 hA2 hA3 hfp hd hs
            · exact ord_tl2_nw h0 l0 l1 m n w h1 h2 h4 hm hn hG X Y ho1 ho2 (by rw [cmp_same h2 h4, if_pos (by unfold V; simp only; omega)]) (by rw [cmp_same h4 h2, if_neg (by unfold V; simp only; omega), if_pos (by unfold V; simp only; omega)]) (by rw [hxy]; exact decide_eq_true (by unfold V; simp only; omega)) kne hA1 hA2 hA3
            · exact ord_tl2_no h0 l0 l1 m n w h1 h2 h4 hm hn hG X Y ho1 ho2 (by rw [cmp_same h2 h4, if_pos (by unfold V; simp only; omega)]) (by rw [cmp_same h4 h2, if_neg (by unfold V; simp only; omega), if_pos (by unfold V; simp only; omega)]) (by rw [hxy]; exact decide_eq_true (by unfold V; simp only; omega)) kne qh ql hfq hA1 hA2 hA3
          · subst e2
            obtain rfl : X = Y := bs_inj (by rw [← bs_toList, ← bs_toList, hX, hY])
            rcases sums (m := m) (n := n) h1 h2 hm hn ha with ⟨ph, pl, qh, ql, hfq, hA1, hA2, hA3, hfp, hd, hs⟩ | ⟨ph, pl, qh, ql, hfq, hA1, hA2, hA3, hfp, hd, hs⟩ | ⟨hA1, hA2, hA3⟩ | ⟨qh, ql, hfq, hA1, hA2, hA3⟩
            · exact ord_teq_y0 h0 l0 m n w h1 h2 hm hn hG X X ho1 ho2 (by rw [cmp_same h2 h2, if_neg (by omega), if_neg (by omega)]) (by rw [cmp_same h2 h2, if_neg (by omega), if_neg (by omega)]) (by rw [hxy]; exact decide_eq_false (Nat.lt_irrefl _)) ph pl qh ql hfq hA1 hA2 hA3 hfp hd hs
            · exact ord_teq_y1 h0 l0 m n w h1 h2 hm hn hG X X ho1 ho2 (by rw [cmp_same h2 h2, if_neg (by omega), if_neg (by omega)]) (by rw [cmp_same h2 h2, if_neg (by omega), if_neg (by omega)]) (by rw [hxy]; exact decide_eq_false (Nat.lt_irrefl _)) ph pl qh ql hfq hA1 hA2 hA3 hfp hd hs
            · exact ord_teq_nw h0 l0 m n w h1 h2 hm hn hG X X ho1 ho2 (by rw [cmp_same h2 h2, if_neg (by omega), if_neg (by omega)]) (by rw [cmp_same h2 h2, if_neg (by omega), if_neg (by omega)]) (by rw [hxy]; exact decide_eq_false (Nat.lt_irrefl _)) hA1 hA2 hA3
            · exact ord_teq_no h0 l0 m n w h1 h2 hm hn hG X X ho1 ho2 (by rw [cmp_same h2 h2, if_neg (by omega), if_neg (by omega)]) (by rw [cmp_same h2 h2, if_neg (by omega), if_neg (by omega)]) (by rw [hxy]; exact decide_eq_false (Nat.lt_irrefl _)) qh ql hfq hA1 hA2 hA3
          · have kne : ¬ (l0 : Int) = (l1 : Int) := by omega
            rcases sums (m := m) (n := n) h1 h2 hm hn ha with ⟨ph, pl, qh, ql, hfq, hA1, hA2, hA3, hfp, hd, hs⟩ | ⟨ph, pl, qh, ql, hfq, hA1, hA2, hA3, hfp, hd, hs⟩ | ⟨hA1, hA2, hA3⟩ | ⟨qh, ql, hfq, hA1, hA2, hA3⟩
            · exact ord_tg2_y0 h0 l0 l1 m n w h1 h2 h4 hm hn hG X Y ho1 ho2 (by rw [cmp_same h2 h4, if_neg (by unfold V; simp only; omega), if_pos (by unfold V; simp only; omega)]) (by rw [cmp_same h4 h2, if_pos (by unfold V; simp only; omega)]) (by rw [hxy]; exact decide_eq_false (by unfold V; simp only; omega)) kne ph pl qh ql hfq hA1 hA2 hA3 hfp hd hs
            · exact ord_tg2_y1 h0 l0 l1 m n w h1 h2 h4 hm hn hG X Y ho1 ho2 (by rw [cmp_same h2 h4, if_neg (by unfold V; simp only; omega), if_pos (by unfold V; simp only; omega)]) (by rw [cmp_same h4 h2, if_pos (by unfold V; simp only; omega)]) (by rw [hxy]; exact decide_eq_false (by unfold V; simp only; omega)) kne ph pl qh ql hfq hA1 hA2 hA3 hfp hd hs
            · exact ord_tg2_nw h0 l0 l1 m n w h1 h2 h4 hm hn hG X Y ho1 ho2 (by rw [cmp_same h2 h4, if_neg (by unfold V; simp only; omega), if_pos (by unfold V; simp only; omega)]) (by rw [cmp_same h4 h2, if_pos (by unfold V; simp only; omega)]) (by rw [hxy]; exact decide_eq_false (by unfold V; simp only; omega)) kne hA1 hA2 hA3
            · exact ord_tg2_no h0 l0 l1 m n w h1 h2 h4 hm hn hG X Y ho1 ho2 (by rw [cmp_same h2 h4, if_neg (by unfold V; simp only; omega), if_pos (by unfold V; simp only; omega)]) (by rw [cmp_same h4 h2, if_pos (by unfold V; simp only; omega)]) (by rw [hxy]; exact decide_eq_false (by unfold V; simp only; omega)) kne qh ql hfq hA1 hA2 hA3
        · have kne : ¬ (h0 : Int) = (h1' : Int) := by omega
          rcases sums (m := m) (n := n) h1 h2 hm hn ha with ⟨ph, pl, qh, ql, hfq, hA1, hA2, hA3, hfp, hd, hs⟩ | ⟨ph, pl, qh, ql, hfq, hA1, hA2, hA3, hfp, hd, hs⟩ | ⟨hA1, hA2, hA3⟩ | ⟨qh, ql, hfq, hA1, hA2, hA3⟩
          · exact ord_tg1_y0 h0 l0 h1' l1 m n w h1 h2 h3 h4 hm hn hG X Y ho1 ho2 (by rw [cmp_same h2 h4, if_neg (by unfold V; simp only; omega), if_pos (by unfold V; simp only; omega)]) (by rw [cmp_same h4 h2, if_pos (by unfold V; simp only; omega)]) (by rw [hxy]; exact decide_eq_false (by unfold V; simp only; omega)) kne ph pl qh ql hfq hA1 hA2 hA3 hfp hd hs
          · exact ord_tg1_y1 h0 l0 h1' l1 m n w h1 h2 h3 h4 hm hn hG X Y ho1 ho2 (by rw [cmp_same h2 h4, if_neg (by unfold V; simp only; omega), if_pos (by unfold V; simp only; omega)]) (by rw [cmp_same h4 h2, if_pos (by unfold V; simp only; omega)]) (by rw [hxy]; exact decide_eq_false (by unfold V; simp only; omega)) kne ph pl qh ql hfq hA1 hA2 hA3 hfp hd hs
          · exact ord_tg1_nw h0 l0 h1' l1 m n w h1 h2 h3 h4 hm hn hG X Y ho1 ho2 (by rw [cmp_same h2 h4, if_neg (by unfold V; simp only; omega), if_pos (by unfold V; simp only; omega)]) (by rw [cmp_same h4 h2, if_pos (by unfold V; simp only; omega)]) (by rw [hxy]; exact decide_eq_false (by unfold V; simp only; omega)) kne hA1 hA2 hA3
          · exact ord_tg1_no h0 l0 h1' l1 m n w h1 h2 h3 h4 hm hn hG X Y ho1 ho2 (by rw [cmp_same h2 h4, if_neg (by unfold V; simp only; omega), if_pos (by unfold V; simp only; omega)]) (by rw [cmp_same h4 h2, if_pos (by unfold V; simp only; omega)]) (by rw [hxy]; exact decide_eq_false (by unfold V; simp only; omega)) kne qh ql hfq hA1 hA2 hA3
    · exact ord_bad_b s0 s1 h0 l0 h1' l1 m n w h1 h2 h3 h4 hG X _ 0 ho1 (ocA_no hb)
  · rcases chkA_cases (s1, h1', l1) with hb | hb
    · obtain ⟨Y, ho2, hY⟩ := oc_str _ hb
      exact ord_bad_a s0 s1 h0 l0 h1' l1 m n w h1 h2 h3 h4 hG _ Y 0 (ocA_no ha) ho2
    · exact ord_bad_a s0 s1 h0 l0 h1' l1 m n w h1 h2 h3 h4 hG _ _ 2 (ocA_no ha) (ocA_no hb)
end Go.Proofs.YtpaocfjpnajonaaGreatDoor
