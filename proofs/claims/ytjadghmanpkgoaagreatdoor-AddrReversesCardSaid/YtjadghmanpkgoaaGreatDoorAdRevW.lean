/-
  The walk of the law AddrReverses. Conditions: the laid tables' cells and errors (Ground), the addresses' numbers such as their types bear.
-/
import Derived.Test.YtjadghmanpkgoaaGreatDoorAdBkM
import Derived.Test.YtjadghmanpkgoaaGreatDoorAdRvN
import Derived.Test.YtjadghmanpkgoaaGreatDoorBx
import Derived.Deep.QuietTactic
import Derived.BigQuiet
namespace Go.Proofs.YtjadghmanpkgoaaGreatDoor
open Go.RowKit
set_option linter.unusedVariables false

theorem adr_equal (s : Bool) (hh hl : Nat) (six : Bool) (hi lo : Nat) (w : World) : (Op.equalIn 10000 24 (.agg #[.bool s, .int .u64 (hh : Int), .int .u64 (hl : Int)]) (.agg #[.bool six, .int .u64 (hi : Int), .int .u64 (lo : Int)])).run Tryz.prog w = .ok (decide (((s, hh, hl) : Ad) = (six, hi, lo))) w := by
  have hS : Tryz.prog.underlying 24 = some (.struct (Tryz.prog.fieldsOf 24)) := by kernel_rfl
  have hp : Tryz.prog.stoodInHeld 24 = false := by kernel_rfl
  rw [show (10000 : Nat) = 9999 + 1 from rfl, run_equalIn_agg w 9999 24 _ _ hS hp]
  simp only [Program.fieldsOf, Tryz.underlying24]
  go_simp
  by_cases h0 : s = six
  · by_cases h1 : hh = hi
    · by_cases h2 : hl = lo
      · simp [h0, h1, h2]
      · simp [h0, h1, h2]; omega
    · simp [h0, h1]; omega
  · simp [h0]
/-- A name's labels as a block that bears them. -/
theorem labs_row (n : ByteArray) (w : World) (hs : n.size ≤ maxLen) {N : Nat} (hN : (nlabs (bs n)).length = N) (h0 : 0 < N) : Calls Tryz.prog 31 #[.string n] w fun e w' => ∃ g cap cs, e = .returned (.slice (some ⟨g, 0, none⟩) N cap) ∧ N ≤ cap ∧ Lies w' g 9 cs ∧ (∀ (j : Nat) (x : ByteArray), (strB (nlabs (bs n)))[j]? = some x → cs[j]? = some (.string x)) ∧ Below w.heap.size w w' := by
  refine (Labels_long n w hs N hN h0).mono ?_
  rintro e w' ⟨g, cap, base, rfl, hb, ho, hbel⟩
  have hl : (strB (nlabs (bs n))).length = N := by unfold strB; rw [List.length_map, hN]
  obtain ⟨cs, hL, _, hnc, _, hcs⟩ := own_lies ho hl
  refine ⟨g, cap, cs, rfl, hnc, hL, fun j x hj => ?_, hbel⟩
  obtain ⟨hlt, rfl⟩ := List.getElem?_eq_some_iff.1 hj
  exact hcs j hlt
set_option maxRecDepth 100000 in
set_option maxHeartbeats 8000000 in
theorem adrev_old (a1 a2 : Nat) (t : Bool) (b1 b2 : Nat) (hf : fitA (false, a1, a2)) (hfb : fitA (t, b1, b2)) (hc : chkA (false, a1, a2) = 0) (hcb : chkA (t, b1, b2) = 0) (w : World) (hG : Ground w) :
    Calls Tryz.prog 5 #[.agg #[.bool false, .int .u64 (a1 : Int), .int .u64 (a2 : Int)], .agg #[.bool t, .int .u64 (b1 : Int), .int .u64 (b2 : Int)]] w fun e w' => e = .returned (.bool true) ∧ Below w.heap.size w w' := by
  have HG := Lib.hid (fun wx (hb : Below w.heap.size w wx) => hG.next hb)
  have GL := Lib.hid lives4
  obtain ⟨R, hR⟩ : ∃ R : ByteArray, bs R = enc ((digA (false, a1, a2)).reverse ++ [endA (false, a1, a2), arpa]) := ⟨⟨(enc ((digA (false, a1, a2)).reverse ++ [endA (false, a1, a2), arpa])).toArray⟩, bs_mk _⟩
  obtain ⟨Q, hQ⟩ : ∃ Q : ByteArray, bs Q = enc ((digA (t, b1, b2)).reverse ++ [endA (t, b1, b2), arpa]) := ⟨⟨(enc ((digA (t, b1, b2)).reverse ++ [endA (t, b1, b2), arpa])).toArray⟩, bs_mk _⟩
  have GA := Lib.hid (show GG 23 #[.agg #[.bool false, .int .u64 (a1 : Int), .int .u64 (a2 : Int)]] (.tuple #[.string R, .int .i64 0]) from gRv (a := (false, a1, a2)) (e := 0) hf (by rw [revA_ok hc, hR]))
  have GB := Lib.hid (show GG 23 #[.agg #[.bool t, .int .u64 (b1 : Int), .int .u64 (b2 : Int)]] (.tuple #[.string Q, .int .i64 0]) from gRv (a := (t, b1, b2)) (e := 0) hfb (by rw [revA_ok hcb, hQ]))
  obtain ⟨E, hE⟩ : ∃ E, E = decide (((false, a1, a2) : Ad) = (t, b1, b2)) := ⟨_, rfl⟩
  have EQA : ∀ wx, (Op.equalIn 10000 24 (.agg #[.bool false, .int .u64 (a1 : Int), .int .u64 (a2 : Int)]) (.agg #[.bool t, .int .u64 (b1 : Int), .int .u64 (b2 : Int)])).run Tryz.prog wx = .ok E wx := fun wx => by
    have := adr_equal false a1 a2 t b1 b2 wx
    rw [← hE] at this
    exact this
  have kE : (R.toList == Q.toList) = E := by
    rw [hE, Bool.eq_iff_iff, beq_iff_eq, decide_eq_true_iff, bs_toList, bs_toList, hR, hQ]
    have := rev_inj hf hfb hc hcb
    rw [revA_ok hc, revA_ok hcb] at this
    exact this
  have kEE : (E != E) = false := by simp
  have hlab : nlabs (bs R) = (digA (false, a1, a2)).reverse ++ [endA (false, a1, a2), arpa] := by rw [hR, (rev_labs (false, a1, a2) arpa rfl).2.1]
  have hlen : (nlabs (bs R)).length = 6 := by rw [hlab, List.length_append, List.length_reverse, digA_len]; rfl
  have hRs : R.size ≤ maxLen := by rw [← bs_length, hR]; have := (rev_name (false, a1, a2) arpa rfl).2; unfold maxLen; omega
  have HLb := Lib.hid (fun wx => labs_row R wx hRs hlen (by decide))
  rw [hlab] at HLb
  have HS : Hid (Bx w ((w.alloc (.cells #[.bool false, .int .u64 (a1 : Int), .int .u64 (a2 : Int)] 24)).alloc (.cells #[.bool t, .int .u64 (b1 : Int), .int .u64 (b2 : Int)] 24)) [(w.heap.size + 1, 24, #[.bool t, .int .u64 (b1 : Int), .int .u64 (b2 : Int)]), (w.heap.size, 24, #[.bool false, .int .u64 (a1 : Int), .int .u64 (a2 : Int)])]) := Lib.hid (by
    have h1 := ((Bx.start w).more 24 #[.bool false, .int .u64 (a1 : Int), .int .u64 (a2 : Int)]).more 24 #[.bool t, .int .u64 (b1 : Int), .int .u64 (b2 : Int)]
    simpa using h1)
  obtain ⟨S, hS⟩ : ∃ S : ByteArray, bs S = (txA (false, a1, a2)).1 := ⟨⟨(txA (false, a1, a2)).1.toArray⟩, bs_mk _⟩
  have hSt : txA (false, a1, a2) = (bs S, 0) := by rw [hS]; unfold txA; rw [if_neg (by rw [hc]; decide)]; rfl
  have GT := Lib.hid (show GG 15 #[.agg #[.bool false, .int .u64 (a1 : Int), .int .u64 (a2 : Int)]] (.tuple #[.string S, .int .i64 0]) from gTx (a := (false, a1, a2)) (e := 0) hf hSt)
  obtain ⟨d0, d1, d2, d3, hd⟩ : ∃ d0 d1 d2 d3, digA (false, a1, a2) = [d0, d1, d2, d3] := by
    have hl := digA_len (false, a1, a2)
    match digA (false, a1, a2), hl with
    | [d0, d1, d2, d3], _ => exact ⟨d0, d1, d2, d3, rfl⟩
  have hdl := digA_ok (false, a1, a2)
  rw [hd] at hdl HLb
  obtain ⟨D0, e0⟩ : ∃ D : ByteArray, bs D = d0 := ⟨⟨d0.toArray⟩, bs_mk _⟩
  obtain ⟨D1, e1⟩ : ∃ D : ByteArray, bs D = d1 := ⟨⟨d1.toArray⟩, bs_mk _⟩
  obtain ⟨D2, e2⟩ : ∃ D : ByteArray, bs D = d2 := ⟨⟨d2.toArray⟩, bs_mk _⟩
  obtain ⟨D3, e3⟩ : ∃ D : ByteArray, bs D = d3 := ⟨⟨d3.toArray⟩, bs_mk _⟩
  have z0 : D0.size ≤ 3 := by rw [← bs_length, e0]; exact (hdl d0 (by simp)).2.1
  have z1 : D1.size ≤ 3 := by rw [← bs_length, e1]; exact (hdl d1 (by simp)).2.1
  have z2 : D2.size ≤ 3 := by rw [← bs_length, e2]; exact (hdl d2 (by simp)).2.1
  have z3 : D3.size ≤ 3 := by rw [← bs_length, e3]; exact (hdl d3 (by simp)).2.1
  have hSq : S = D0 ++ ⟨#[46]⟩ ++ D1 ++ ⟨#[46]⟩ ++ D2 ++ ⟨#[46]⟩ ++ D3 := bs_inj (by
    rw [hS, old_text hc rfl, hd, join2, join2, join2, Lib.join_one]
    simp only [bs_append, e0, e1, e2, e3]
    simp [bs])
  obtain ⟨T1, t1⟩ : ∃ T, T = D0 ++ ⟨#[46]⟩ := ⟨_, rfl⟩
  obtain ⟨T2, t2⟩ : ∃ T, T = T1 ++ D1 := ⟨_, rfl⟩
  obtain ⟨T3, t3⟩ : ∃ T, T = T2 ++ ⟨#[46]⟩ := ⟨_, rfl⟩
  obtain ⟨T4, t4⟩ : ∃ T, T = T3 ++ D2 := ⟨_, rfl⟩
  obtain ⟨T5, t5⟩ : ∃ T, T = T4 ++ ⟨#[46]⟩ := ⟨_, rfl⟩
  rw [← t1, ← t2, ← t3, ← t4, ← t5] at hSq
  have y1 : T1.size = D0.size + 1 := by rw [t1, ByteArray.size_append]; rfl
  have y2 : T2.size = T1.size + D1.size := by rw [t2, ByteArray.size_append]
  have y3 : T3.size = T2.size + 1 := by rw [t3, ByteArray.size_append]; rfl
  have y4 : T4.size = T3.size + D2.size := by rw [t4, ByteArray.size_append]
  have y5 : T5.size = T4.size + 1 := by rw [t5, ByteArray.size_append]; rfl
  have q1 : ¬ 9223372036854775807 < D0.size + (⟨#[46]⟩ : ByteArray).size := by show ¬ _ < D0.size + 1; omega
  have q1' : ¬ 9223372036854775807 < D0.size + 1 := by omega
  have q2 : ¬ 9223372036854775807 < T1.size + D1.size := by omega
  have q3 : ¬ 9223372036854775807 < T2.size + (⟨#[46]⟩ : ByteArray).size := by show ¬ _ < T2.size + 1; omega
  have q3' : ¬ 9223372036854775807 < T2.size + 1 := by omega
  have q4 : ¬ 9223372036854775807 < T3.size + D2.size := by omega
  have q5 : ¬ 9223372036854775807 < T4.size + (⟨#[46]⟩ : ByteArray).size := by show ¬ _ < T4.size + 1; omega
  have q5' : ¬ 9223372036854775807 < T4.size + 1 := by omega
  have q6 : ¬ 9223372036854775807 < T5.size + D3.size := by omega
  have qq : ((T5 ++ D3).toList == S.toList) = true := by rw [hSq]; simp
  have qe : (T5 ++ D3).toList = S.toList := by rw [hSq]
  have hM : strB ([d0, d1, d2, d3].reverse ++ [endA (false, a1, a2), arpa]) = [D3, D2, D1, D0, ⟨#[105, 110, 45, 97, 100, 100, 114]⟩, ⟨#[97, 114, 112, 97]⟩] := by
    have f0 : D0 = ⟨d0.toArray⟩ := bs_inj (by rw [e0, bs_mk])
    have f1 : D1 = ⟨d1.toArray⟩ := bs_inj (by rw [e1, bs_mk])
    have f2 : D2 = ⟨d2.toArray⟩ := bs_inj (by rw [e2, bs_mk])
    have f3 : D3 = ⟨d3.toArray⟩ := bs_inj (by rw [e3, bs_mk])
    rw [f0, f1, f2, f3]
    rfl
  rw [hM] at HLb
  have t1s := t1.symm
  have t2s := t2.symm
  have t3s := t3.symm
  have t4s := t4.symm
  have t5s := t5.symm
  clear hf hfb hc hcb hR hQ hE hlab hlen hRs hS hSt hd hdl hM e0 e1 e2 e3 hSq t1 t2 t3 t4 t5 y1 y2 y3 y4 y5 hG z0 z1 z2 z3
  go_enter Tryz.func5, Tryz.ntmps5
  go_wp2_with fail
  (with_reducible refine (GL.out.go _ (HG.out _ HS.out.bel)).mono ?_)
  rintro e w1 ⟨rfl, hb⟩
  replace HS := Lib.hid (HS.out.next hb)
  clear hb
  have a0 : w1.cell? ⟨w.heap.size, 0, none⟩ = some (.bool false) := Lies.cell (HS.out.at (List.mem_cons_of_mem _ List.mem_cons_self)) 0
  have a1' : w1.cell? ⟨w.heap.size, 1, none⟩ = some (.int .u64 (a1 : Int)) := Lies.cell (HS.out.at (List.mem_cons_of_mem _ List.mem_cons_self)) 1
  have a2' : w1.cell? ⟨w.heap.size, 2, none⟩ = some (.int .u64 (a2 : Int)) := Lies.cell (HS.out.at (List.mem_cons_of_mem _ List.mem_cons_self)) 2
  have b0 : w1.cell? ⟨w.heap.size + 1, 0, none⟩ = some (.bool t) := Lies.cell (HS.out.at List.mem_cons_self) 0
  have b1' : w1.cell? ⟨w.heap.size + 1, 1, none⟩ = some (.int .u64 (b1 : Int)) := Lies.cell (HS.out.at List.mem_cons_self) 1
  have b2' : w1.cell? ⟨w.heap.size + 1, 2, none⟩ = some (.int .u64 (b2 : Int)) := Lies.cell (HS.out.at List.mem_cons_self) 2
  go_wp2_with fail
  (with_reducible refine (GA.out.go _ (HG.out _ HS.out.bel)).mono ?_)
  rintro e w2 ⟨rfl, hb⟩
  replace HS := Lib.hid (HS.out.next hb)
  clear hb a0 a1' a2' b0 b1' b2'
  have a0 : w2.cell? ⟨w.heap.size, 0, none⟩ = some (.bool false) := Lies.cell (HS.out.at (List.mem_cons_of_mem _ List.mem_cons_self)) 0
  have a1' : w2.cell? ⟨w.heap.size, 1, none⟩ = some (.int .u64 (a1 : Int)) := Lies.cell (HS.out.at (List.mem_cons_of_mem _ List.mem_cons_self)) 1
  have a2' : w2.cell? ⟨w.heap.size, 2, none⟩ = some (.int .u64 (a2 : Int)) := Lies.cell (HS.out.at (List.mem_cons_of_mem _ List.mem_cons_self)) 2
  have b0 : w2.cell? ⟨w.heap.size + 1, 0, none⟩ = some (.bool t) := Lies.cell (HS.out.at List.mem_cons_self) 0
  have b1' : w2.cell? ⟨w.heap.size + 1, 1, none⟩ = some (.int .u64 (b1 : Int)) := Lies.cell (HS.out.at List.mem_cons_self) 1
  have b2' : w2.cell? ⟨w.heap.size + 1, 2, none⟩ = some (.int .u64 (b2 : Int)) := Lies.cell (HS.out.at List.mem_cons_self) 2
  go_wp2_with fail
  (with_reducible refine (GB.out.go _ (HG.out _ HS.out.bel)).mono ?_)
  rintro e w3 ⟨rfl, hb⟩
  replace HS := Lib.hid (HS.out.next hb)
  clear hb a0 a1' a2' b0 b1' b2'
  have a0 : w3.cell? ⟨w.heap.size, 0, none⟩ = some (.bool false) := Lies.cell (HS.out.at (List.mem_cons_of_mem _ List.mem_cons_self)) 0
  have a1' : w3.cell? ⟨w.heap.size, 1, none⟩ = some (.int .u64 (a1 : Int)) := Lies.cell (HS.out.at (List.mem_cons_of_mem _ List.mem_cons_self)) 1
  have a2' : w3.cell? ⟨w.heap.size, 2, none⟩ = some (.int .u64 (a2 : Int)) := Lies.cell (HS.out.at (List.mem_cons_of_mem _ List.mem_cons_self)) 2
  have b0 : w3.cell? ⟨w.heap.size + 1, 0, none⟩ = some (.bool t) := Lies.cell (HS.out.at List.mem_cons_self) 0
  have b1' : w3.cell? ⟨w.heap.size + 1, 1, none⟩ = some (.int .u64 (b1 : Int)) := Lies.cell (HS.out.at List.mem_cons_self) 1
  have b2' : w3.cell? ⟨w.heap.size + 1, 2, none⟩ = some (.int .u64 (b2 : Int)) := Lies.cell (HS.out.at List.mem_cons_self) 2
  go_wp2_with fail
  (with_reducible refine (HLb.out _).mono ?_)
  rintro e w4 ⟨g, cap, cs, rfl, hcap, hL, hcs, hb⟩
  replace HS := Lib.hid ((HS.out.next hb).add hL)
  have HCS := Lib.hid hcs
  clear hb hL hcs a0 a1' a2' b0 b1' b2'
  have hcapI : (6 : Int) ≤ (cap : Int) := by omega
  have a0 : w4.cell? ⟨w.heap.size, 0, none⟩ = some (.bool false) := Lies.cell (HS.out.at (List.mem_cons_of_mem _ (List.mem_cons_of_mem _ List.mem_cons_self))) 0
  have a1' : w4.cell? ⟨w.heap.size, 1, none⟩ = some (.int .u64 (a1 : Int)) := Lies.cell (HS.out.at (List.mem_cons_of_mem _ (List.mem_cons_of_mem _ List.mem_cons_self))) 1
  have a2' : w4.cell? ⟨w.heap.size, 2, none⟩ = some (.int .u64 (a2 : Int)) := Lies.cell (HS.out.at (List.mem_cons_of_mem _ (List.mem_cons_of_mem _ List.mem_cons_self))) 2
  have b0 : w4.cell? ⟨w.heap.size + 1, 0, none⟩ = some (.bool t) := Lies.cell (HS.out.at (List.mem_cons_of_mem _ List.mem_cons_self)) 0
  have b1' : w4.cell? ⟨w.heap.size + 1, 1, none⟩ = some (.int .u64 (b1 : Int)) := Lies.cell (HS.out.at (List.mem_cons_of_mem _ List.mem_cons_self)) 1
  have b2' : w4.cell? ⟨w.heap.size + 1, 2, none⟩ = some (.int .u64 (b2 : Int)) := Lies.cell (HS.out.at (List.mem_cons_of_mem _ List.mem_cons_self)) 2
  have u0 : w4.cell? ⟨g, 0, none⟩ = some (.string D3) := (Lies.cell (HS.out.at List.mem_cons_self) 0).trans (HCS.out 0 _ rfl)
  have u1 : w4.cell? ⟨g, 1, none⟩ = some (.string D2) := (Lies.cell (HS.out.at List.mem_cons_self) 1).trans (HCS.out 1 _ rfl)
  have u2 : w4.cell? ⟨g, 2, none⟩ = some (.string D1) := (Lies.cell (HS.out.at List.mem_cons_self) 2).trans (HCS.out 2 _ rfl)
  have u3 : w4.cell? ⟨g, 3, none⟩ = some (.string D0) := (Lies.cell (HS.out.at List.mem_cons_self) 3).trans (HCS.out 3 _ rfl)
  have u4 : w4.cell? ⟨g, 4, none⟩ = some (.string ⟨#[105, 110, 45, 97, 100, 100, 114]⟩) := (Lies.cell (HS.out.at List.mem_cons_self) 4).trans (HCS.out 4 _ rfl)
  have u5 : w4.cell? ⟨g, 5, none⟩ = some (.string ⟨#[97, 114, 112, 97]⟩) := (Lies.cell (HS.out.at List.mem_cons_self) 5).trans (HCS.out 5 _ rfl)
  go_wp2_with fail
  (with_reducible refine (GT.out.go _ (HG.out _ HS.out.bel)).mono ?_)
  rintro e w5 ⟨rfl, hb⟩
  replace HS := Lib.hid (HS.out.next hb)
  clear hb a0 a1' a2' b0 b1' b2' u0 u1 u2 u3 u4 u5
  have a0 : w5.cell? ⟨w.heap.size, 0, none⟩ = some (.bool false) := Lies.cell (HS.out.at (List.mem_cons_of_mem _ (List.mem_cons_of_mem _ List.mem_cons_self))) 0
  have a1' : w5.cell? ⟨w.heap.size, 1, none⟩ = some (.int .u64 (a1 : Int)) := Lies.cell (HS.out.at (List.mem_cons_of_mem _ (List.mem_cons_of_mem _ List.mem_cons_self))) 1
  have a2' : w5.cell? ⟨w.heap.size, 2, none⟩ = some (.int .u64 (a2 : Int)) := Lies.cell (HS.out.at (List.mem_cons_of_mem _ (List.mem_cons_of_mem _ List.mem_cons_self))) 2
  have b0 : w5.cell? ⟨w.heap.size + 1, 0, none⟩ = some (.bool t) := Lies.cell (HS.out.at (List.mem_cons_of_mem _ List.mem_cons_self)) 0
  have b1' : w5.cell? ⟨w.heap.size + 1, 1, none⟩ = some (.int .u64 (b1 : Int)) := Lies.cell (HS.out.at (List.mem_cons_of_mem _ List.mem_cons_self)) 1
  have b2' : w5.cell? ⟨w.heap.size + 1, 2, none⟩ = some (.int .u64 (b2 : Int)) := Lies.cell (HS.out.at (List.mem_cons_of_mem _ List.mem_cons_self)) 2
  have u0 : w5.cell? ⟨g, 0, none⟩ = some (.string D3) := (Lies.cell (HS.out.at List.mem_cons_self) 0).trans (HCS.out 0 _ rfl)
  have u1 : w5.cell? ⟨g, 1, none⟩ = some (.string D2) := (Lies.cell (HS.out.at List.mem_cons_self) 1).trans (HCS.out 1 _ rfl)
  have u2 : w5.cell? ⟨g, 2, none⟩ = some (.string D1) := (Lies.cell (HS.out.at List.mem_cons_self) 2).trans (HCS.out 2 _ rfl)
  have u3 : w5.cell? ⟨g, 3, none⟩ = some (.string D0) := (Lies.cell (HS.out.at List.mem_cons_self) 3).trans (HCS.out 3 _ rfl)
  have u4 : w5.cell? ⟨g, 4, none⟩ = some (.string ⟨#[105, 110, 45, 97, 100, 100, 114]⟩) := (Lies.cell (HS.out.at List.mem_cons_self) 4).trans (HCS.out 4 _ rfl)
  have u5 : w5.cell? ⟨g, 5, none⟩ = some (.string ⟨#[97, 114, 112, 97]⟩) := (Lies.cell (HS.out.at List.mem_cons_self) 5).trans (HCS.out 5 _ rfl)
  go_wp2
  go_quiet (fail)
  all_goals
    go_wp2
    go_ret
    exact ⟨rfl, (HS.out.drewN _).bel⟩
/-- The relation of the law's loop. -/
def RvRel (D : List (List UInt8)) (v12 v13 : Value) : Prop := ∃ (j : Nat) (s : ByteArray), j ≤ 32 ∧ bs s = accD D j ∧ v12 = .string s ∧ v13 = .int .i64 (31 - (j : Int))
set_option maxRecDepth 100000 in
set_option maxHeartbeats 8000000 in
theorem adrev_new (a1 a2 : Nat) (t : Bool) (b1 b2 : Nat) (hf : fitA (true, a1, a2)) (hfb : fitA (t, b1, b2)) (hc : chkA (true, a1, a2) = 0) (hcb : chkA (t, b1, b2) = 0) (w : World) (hG : Ground w) :
    Calls Tryz.prog 5 #[.agg #[.bool true, .int .u64 (a1 : Int), .int .u64 (a2 : Int)], .agg #[.bool t, .int .u64 (b1 : Int), .int .u64 (b2 : Int)]] w fun e w' => e = .returned (.bool true) ∧ Below w.heap.size w w' := by
  have HG := Lib.hid (fun wx (hb : Below w.heap.size w wx) => hG.next hb)
  have GL := Lib.hid lives4
  obtain ⟨R, hR⟩ : ∃ R : ByteArray, bs R = enc ((digA (true, a1, a2)).reverse ++ [endA (true, a1, a2), arpa]) := ⟨⟨(enc ((digA (true, a1, a2)).reverse ++ [endA (true, a1, a2), arpa])).toArray⟩, bs_mk _⟩
  obtain ⟨Q, hQ⟩ : ∃ Q : ByteArray, bs Q = enc ((digA (t, b1, b2)).reverse ++ [endA (t, b1, b2), arpa]) := ⟨⟨(enc ((digA (t, b1, b2)).reverse ++ [endA (t, b1, b2), arpa])).toArray⟩, bs_mk _⟩
  have GA := Lib.hid (show GG 23 #[.agg #[.bool true, .int .u64 (a1 : Int), .int .u64 (a2 : Int)]] (.tuple #[.string R, .int .i64 0]) from gRv (a := (true, a1, a2)) (e := 0) hf (by rw [revA_ok hc, hR]))
  have GB := Lib.hid (show GG 23 #[.agg #[.bool t, .int .u64 (b1 : Int), .int .u64 (b2 : Int)]] (.tuple #[.string Q, .int .i64 0]) from gRv (a := (t, b1, b2)) (e := 0) hfb (by rw [revA_ok hcb, hQ]))
  obtain ⟨E, hE⟩ : ∃ E, E = decide (((true, a1, a2) : Ad) = (t, b1, b2)) := ⟨_, rfl⟩
  have EQA : ∀ wx, (Op.equalIn 10000 24 (.agg #[.bool true, .int .u64 (a1 : Int), .int .u64 (a2 : Int)]) (.agg #[.bool t, .int .u64 (b1 : Int), .int .u64 (b2 : Int)])).run Tryz.prog wx = .ok E wx := fun wx => by
    have := adr_equal true a1 a2 t b1 b2 wx
    rw [← hE] at this
    exact this
  have kE : (R.toList == Q.toList) = E := by
    rw [hE, Bool.eq_iff_iff, beq_iff_eq, decide_eq_true_iff, bs_toList, bs_toList, hR, hQ]
    have := rev_inj hf hfb hc hcb
    rw [revA_ok hc, revA_ok hcb] at this
    exact this
  have kEE : (E != E) = false := by simp
  have hlab : nlabs (bs R) = (digA (true, a1, a2)).reverse ++ [endA (true, a1, a2), arpa] := by rw [hR, (rev_labs (true, a1, a2) arpa rfl).2.1]
  have hlen : (nlabs (bs R)).length = 34 := by rw [hlab, List.length_append, List.length_reverse, digA_len]; rfl
  have hRs : R.size ≤ maxLen := by rw [← bs_length, hR]; have := (rev_name (true, a1, a2) arpa rfl).2; unfold maxLen; omega
  have HLb := Lib.hid (fun wx => labs_row R wx hRs hlen (by decide))
  rw [hlab] at HLb
  have HS : Hid (Bx w ((w.alloc (.cells #[.bool true, .int .u64 (a1 : Int), .int .u64 (a2 : Int)] 24)).alloc (.cells #[.bool t, .int .u64 (b1 : Int), .int .u64 (b2 : Int)] 24)) [(w.heap.size + 1, 24, #[.bool t, .int .u64 (b1 : Int), .int .u64 (b2 : Int)]), (w.heap.size, 24, #[.bool true, .int .u64 (a1 : Int), .int .u64 (a2 : Int)])]) := Lib.hid (by
    have h1 := ((Bx.start w).more 24 #[.bool true, .int .u64 (a1 : Int), .int .u64 (a2 : Int)]).more 24 #[.bool t, .int .u64 (b1 : Int), .int .u64 (b2 : Int)]
    simpa using h1)
  obtain ⟨D, hD⟩ : ∃ D, D = digA (true, a1, a2) := ⟨_, rfl⟩
  have hDl : D.length = 32 := by rw [hD]; exact digA_len (true, a1, a2)
  have hD1 : ∀ x ∈ D, x.length ≤ 1 := by
    rw [hD]
    exact fun x hx => (digA_ok (true, a1, a2) x hx).2.1
  have hacc : rdA (accD D 32) = ((true, a1, a2), 0) := by rw [hD]; exact acc_read hf rfl
  rw [← hD] at HLb
  have HMk : Hid (∀ (j k : Nat), j < 32 → k = 31 - j → (strB (D.reverse ++ [endA (true, a1, a2), arpa]))[k]? = some ⟨(D.getD j []).toArray⟩) := Lib.hid (fun j k hj hk => by
    unfold strB
    rw [List.getElem?_map, List.getElem?_append_left (by rw [List.length_reverse, hDl]; omega), List.getElem?_reverse (by rw [hDl]; omega), hDl, show 32 - 1 - k = j by omega, List.getD_eq_getElem?_getD, List.getElem?_eq_getElem (by rw [hDl]; exact hj)]
    rfl)
  have HM2 : Hid ((strB (D.reverse ++ [endA (true, a1, a2), arpa]))[32]? = some ⟨#[105, 112, 54]⟩) := Lib.hid (by
    unfold strB
    rw [List.getElem?_map, List.getElem?_append_right (by rw [List.length_reverse, hDl]; omega), List.length_reverse, hDl]
    rfl)
  have HM3 : Hid ((strB (D.reverse ++ [endA (true, a1, a2), arpa]))[33]? = some ⟨#[97, 114, 112, 97]⟩) := Lib.hid (by
    unfold strB
    rw [List.getElem?_map, List.getElem?_append_right (by rw [List.length_reverse, hDl]; omega), List.length_reverse, hDl]
    rfl)
  have GRd : Hid (∀ s : ByteArray, bs s = accD D 32 → GG 13 #[.string s] (.tuple #[.agg #[.bool true, .int .u64 (a1 : Int), .int .u64 (a2 : Int)], .int .i64 0])) := Lib.hid (fun s hs => by
    have hl := acc_len D hD1 32
    exact gRd (a := (true, a1, a2)) (e := 0) (by rw [← bs_length, hs]; omega) (by rw [hs]; exact hacc))
  have HDX : Hid (∀ j, (D.getD j []).length ≤ 1 ∧ (accD D j).length ≤ 2 * j) := Lib.hid (fun j => ⟨by
    rw [List.getD_eq_getElem?_getD]
    cases e : D[j]? with
    | none => simp
    | some x => exact hD1 x (List.mem_of_getElem? e), acc_len D hD1 j⟩)
  have EQS : ∀ wx, (Op.equalIn 10000 24 (.agg #[.bool true, .int .u64 (a1 : Int), .int .u64 (a2 : Int)]) (.agg #[.bool true, .int .u64 (a1 : Int), .int .u64 (a2 : Int)])).run Tryz.prog wx = .ok true wx := fun wx => (adr_equal true a1 a2 true a1 a2 wx).trans (by rw [decide_eq_true rfl])
  clear hf hfb hc hcb hR hQ hE hlab hlen hRs hD hDl hD1 hacc hG
  go_enter Tryz.func5, Tryz.ntmps5
  go_wp2_with fail
  (with_reducible refine (GL.out.go _ (HG.out _ HS.out.bel)).mono ?_)
  rintro e w1 ⟨rfl, hb⟩
  replace HS := Lib.hid (HS.out.next hb)
  clear hb
  have a0 : w1.cell? ⟨w.heap.size, 0, none⟩ = some (.bool true) := Lies.cell (HS.out.at (List.mem_cons_of_mem _ List.mem_cons_self)) 0
  have a1' : w1.cell? ⟨w.heap.size, 1, none⟩ = some (.int .u64 (a1 : Int)) := Lies.cell (HS.out.at (List.mem_cons_of_mem _ List.mem_cons_self)) 1
  have a2' : w1.cell? ⟨w.heap.size, 2, none⟩ = some (.int .u64 (a2 : Int)) := Lies.cell (HS.out.at (List.mem_cons_of_mem _ List.mem_cons_self)) 2
  have b0 : w1.cell? ⟨w.heap.size + 1, 0, none⟩ = some (.bool t) := Lies.cell (HS.out.at List.mem_cons_self) 0
  have b1' : w1.cell? ⟨w.heap.size + 1, 1, none⟩ = some (.int .u64 (b1 : Int)) := Lies.cell (HS.out.at List.mem_cons_self) 1
  have b2' : w1.cell? ⟨w.heap.size + 1, 2, none⟩ = some (.int .u64 (b2 : Int)) := Lies.cell (HS.out.at List.mem_cons_self) 2
  go_wp2_with fail
  (with_reducible refine (GA.out.go _ (HG.out _ HS.out.bel)).mono ?_)
  rintro e w2 ⟨rfl, hb⟩
  replace HS := Lib.hid (HS.out.next hb)
  clear hb a0 a1' a2' b0 b1' b2'
  have a0 : w2.cell? ⟨w.heap.size, 0, none⟩ = some (.bool true) := Lies.cell (HS.out.at (List.mem_cons_of_mem _ List.mem_cons_self)) 0
  have a1' : w2.cell? ⟨w.heap.size, 1, none⟩ = some (.int .u64 (a1 : Int)) := Lies.cell (HS.out.at (List.mem_cons_of_mem _ List.mem_cons_self)) 1
  have a2' : w2.cell? ⟨w.heap.size, 2, none⟩ = some (.int .u64 (a2 : Int)) := Lies.cell (HS.out.at (List.mem_cons_of_mem _ List.mem_cons_self)) 2
  have b0 : w2.cell? ⟨w.heap.size + 1, 0, none⟩ = some (.bool t) := Lies.cell (HS.out.at List.mem_cons_self) 0
  have b1' : w2.cell? ⟨w.heap.size + 1, 1, none⟩ = some (.int .u64 (b1 : Int)) := Lies.cell (HS.out.at List.mem_cons_self) 1
  have b2' : w2.cell? ⟨w.heap.size + 1, 2, none⟩ = some (.int .u64 (b2 : Int)) := Lies.cell (HS.out.at List.mem_cons_self) 2
  go_wp2_with fail
  (with_reducible refine (GB.out.go _ (HG.out _ HS.out.bel)).mono ?_)
  rintro e w3 ⟨rfl, hb⟩
  replace HS := Lib.hid (HS.out.next hb)
  clear hb a0 a1' a2' b0 b1' b2'
  have a0 : w3.cell? ⟨w.heap.size, 0, none⟩ = some (.bool true) := Lies.cell (HS.out.at (List.mem_cons_of_mem _ List.mem_cons_self)) 0
  have a1' : w3.cell? ⟨w.heap.size, 1, none⟩ = some (.int .u64 (a1 : Int)) := Lies.cell (HS.out.at (List.mem_cons_of_mem _ List.mem_cons_self)) 1
  have a2' : w3.cell? ⟨w.heap.size, 2, none⟩ = some (.int .u64 (a2 : Int)) := Lies.cell (HS.out.at (List.mem_cons_of_mem _ List.mem_cons_self)) 2
  have b0 : w3.cell? ⟨w.heap.size + 1, 0, none⟩ = some (.bool t) := Lies.cell (HS.out.at List.mem_cons_self) 0
  have b1' : w3.cell? ⟨w.heap.size + 1, 1, none⟩ = some (.int .u64 (b1 : Int)) := Lies.cell (HS.out.at List.mem_cons_self) 1
  have b2' : w3.cell? ⟨w.heap.size + 1, 2, none⟩ = some (.int .u64 (b2 : Int)) := Lies.cell (HS.out.at List.mem_cons_self) 2
  go_wp2_with fail
  (with_reducible refine (HLb.out _).mono ?_)
  rintro e w4 ⟨g, cap, cs, rfl, hcap, hL, hcs, hb⟩
  replace HS := Lib.hid ((HS.out.next hb).add hL)
  have HCS := Lib.hid hcs
  clear hb hL hcs a0 a1' a2' b0 b1' b2'
  have hcapI : (34 : Int) ≤ (cap : Int) := by omega
  have a0 : w4.cell? ⟨w.heap.size, 0, none⟩ = some (.bool true) := Lies.cell (HS.out.at (List.mem_cons_of_mem _ (List.mem_cons_of_mem _ List.mem_cons_self))) 0
  have a1' : w4.cell? ⟨w.heap.size, 1, none⟩ = some (.int .u64 (a1 : Int)) := Lies.cell (HS.out.at (List.mem_cons_of_mem _ (List.mem_cons_of_mem _ List.mem_cons_self))) 1
  have a2' : w4.cell? ⟨w.heap.size, 2, none⟩ = some (.int .u64 (a2 : Int)) := Lies.cell (HS.out.at (List.mem_cons_of_mem _ (List.mem_cons_of_mem _ List.mem_cons_self))) 2
  have b0 : w4.cell? ⟨w.heap.size + 1, 0, none⟩ = some (.bool t) := Lies.cell (HS.out.at (List.mem_cons_of_mem _ List.mem_cons_self)) 0
  have b1' : w4.cell? ⟨w.heap.size + 1, 1, none⟩ = some (.int .u64 (b1 : Int)) := Lies.cell (HS.out.at (List.mem_cons_of_mem _ List.mem_cons_self)) 1
  have b2' : w4.cell? ⟨w.heap.size + 1, 2, none⟩ = some (.int .u64 (b2 : Int)) := Lies.cell (HS.out.at (List.mem_cons_of_mem _ List.mem_cons_self)) 2
  have u33 : w4.cell? ⟨g, 33, none⟩ = some (.string ⟨#[97, 114, 112, 97]⟩) := (Lies.cell (HS.out.at List.mem_cons_self) 33).trans (HCS.out 33 _ HM3.out)
  have u32 : w4.cell? ⟨g, 32, none⟩ = some (.string ⟨#[105, 112, 54]⟩) := (Lies.cell (HS.out.at List.mem_cons_self) 32).trans (HCS.out 32 _ HM2.out)
  go_wp2
  go_loop [12, 13] (fun v12 v13 => RvRel D v12 v13) (fun _ v13 => (intOf v13 + 1).toNat)
  case atStart => exact ⟨0, ⟨#[]⟩, by decide, rfl, rfl, rfl⟩
  case round =>
    obtain ⟨j, s, hj, hs, rfl, rfl⟩ := hrel
    rcases Nat.lt_or_ge j 32 with hlt | hge
    · obtain ⟨k, hk⟩ : ∃ k : Nat, k = 31 - j := ⟨_, rfl⟩
      have ek : (31 : Int) - (j : Int) = (k : Int) := by omega
      have hk32 : (k : Int) < 32 := by omega
      have hk0 : (0 : Int) ≤ (k : Int) := by omega
      obtain ⟨X, hX⟩ : ∃ X : ByteArray, X = ⟨(D.getD j []).toArray⟩ := ⟨_, rfl⟩
      have uk : w4.cell? ⟨g, k, none⟩ = some (.string X) := by rw [hX]; exact (Lies.cell (HS.out.at List.mem_cons_self) k).trans (HCS.out k _ (HMk.out j k hlt hk))
      have hXb : bs X = D.getD j [] := by rw [hX, bs_mk]
      obtain ⟨l1, l2⟩ := HDX.out j
      have hXs : X.size ≤ 1 := by rw [← bs_length, hXb]; exact l1
      have hss : s.size ≤ 64 := by rw [← bs_length, hs]; omega
      obtain ⟨T, hT⟩ : ∃ T : ByteArray, T = s ++ X := ⟨_, rfl⟩
      have hTs : T.size = s.size + X.size := by rw [hT, ByteArray.size_append]
      have q1 : ¬ 9223372036854775807 < s.size + X.size := by omega
      have q2 : ¬ 9223372036854775807 < T.size + (⟨#[58]⟩ : ByteArray).size := by show ¬ _ < T.size + 1; omega
      have q2' : ¬ 9223372036854775807 < T.size + 1 := by omega
      have hTe := hT.symm
      have hb1 : bs T = accD D j ++ D.getD j [] := by rw [hT, bs_append, hs, hXb]
      by_cases h3 : j % 4 = 3
      · have m1 : ((k : Int) % 4 == 0) = true := by rw [beq_iff_eq]; omega
        have m2 : ((k : Int).tmod 4 == 0) = true := by rw [beq_iff_eq, Int.tmod_eq_emod_of_nonneg hk0]; omega
        by_cases h31 : j < 31
        · have m3 : decide ((0 : Int) < (k : Int)) = true := by simp; omega
          have m4 : decide (0 < k) = true := by simp; omega
          have HN := Lib.hid (show bs (T ++ ⟨#[58]⟩) = accD D (j + 1) by rw [bs_append, hb1]; show _ = accD D j ++ D.getD j [] ++ _; rw [if_pos ⟨h3, h31⟩]; rfl)
          have HJ := Lib.hid (show j + 1 ≤ 32 by omega)
          have HE := Lib.hid (show (k : Int) - 1 = 31 - ((j + 1 : Nat) : Int) by omega)
          clear hX hXb hs hT hb1 hTs h3 h31 hk hXs hss l1 l2 hlt hj
          go_wp2
          go_round
          case rel => exact ⟨j + 1, _, HJ.out, HN.out, rfl, congrArg (Value.int IntKind.i64) HE.out⟩
          case measure => simp [intOf]; omega
        · have m3 : decide ((0 : Int) < (k : Int)) = false := by simp; omega
          have m4 : decide (0 < k) = false := by simp; omega
          have HN := Lib.hid (show bs T = accD D (j + 1) by rw [hb1]; show _ = accD D j ++ D.getD j [] ++ _; rw [if_neg (fun x => h31 x.2), List.append_nil])
          have HJ := Lib.hid (show j + 1 ≤ 32 by omega)
          have HE := Lib.hid (show (k : Int) - 1 = 31 - ((j + 1 : Nat) : Int) by omega)
          clear hX hXb hs hT hb1 hTs h3 h31 hk hXs hss l1 l2 hlt hj
          go_wp2
          go_round
          case rel => exact ⟨j + 1, _, HJ.out, HN.out, rfl, congrArg (Value.int IntKind.i64) HE.out⟩
          case measure => simp [intOf]; omega
      · have m1 : ((k : Int) % 4 == 0) = false := by rw [beq_eq_false_iff_ne]; omega
        have m2 : ((k : Int).tmod 4 == 0) = false := by rw [beq_eq_false_iff_ne, Int.tmod_eq_emod_of_nonneg hk0]; omega
        have HN := Lib.hid (show bs T = accD D (j + 1) by rw [hb1]; show _ = accD D j ++ D.getD j [] ++ _; rw [if_neg (fun x => h3 x.1), List.append_nil])
        have HJ := Lib.hid (show j + 1 ≤ 32 by omega)
        have HE := Lib.hid (show (k : Int) - 1 = 31 - ((j + 1 : Nat) : Int) by omega)
        clear hX hXb hs hT hb1 hTs h3 hk hXs hss l1 l2 hlt hj
        go_wp2
        go_round
        case rel => exact ⟨j + 1, _, HJ.out, HN.out, rfl, congrArg (Value.int IntKind.i64) HE.out⟩
        case measure => simp [intOf]; omega
    · obtain rfl : j = 32 := by omega
      have ek : (31 : Int) - ((32 : Nat) : Int) = -1 := by decide
      have G5 := Lib.hid (GRd.out s hs)
      clear hs hge hj
      go_wp2_with fail
      (with_reducible refine (G5.out.go _ (HG.out _ HS.out.bel)).mono ?_)
      rintro e w5 ⟨rfl, hb⟩
      replace HS := Lib.hid (HS.out.next hb)
      clear hb a0 a1' a2' b0 b1' b2' u33 u32
      replace HS := Lib.hid (HS.out.more 24 #[.bool true, .int .u64 (a1 : Int), .int .u64 (a2 : Int)])
      have a0 : (w5.alloc (.cells #[.bool true, .int .u64 (a1 : Int), .int .u64 (a2 : Int)] 24)).cell? ⟨w.heap.size, 0, none⟩ = some (.bool true) := Lies.cell (HS.out.at (List.mem_cons_of_mem _ (List.mem_cons_of_mem _ (List.mem_cons_of_mem _ List.mem_cons_self)))) 0
      have a1' : (w5.alloc (.cells #[.bool true, .int .u64 (a1 : Int), .int .u64 (a2 : Int)] 24)).cell? ⟨w.heap.size, 1, none⟩ = some (.int .u64 (a1 : Int)) := Lies.cell (HS.out.at (List.mem_cons_of_mem _ (List.mem_cons_of_mem _ (List.mem_cons_of_mem _ List.mem_cons_self)))) 1
      have a2' : (w5.alloc (.cells #[.bool true, .int .u64 (a1 : Int), .int .u64 (a2 : Int)] 24)).cell? ⟨w.heap.size, 2, none⟩ = some (.int .u64 (a2 : Int)) := Lies.cell (HS.out.at (List.mem_cons_of_mem _ (List.mem_cons_of_mem _ (List.mem_cons_of_mem _ List.mem_cons_self)))) 2
      have b0 : (w5.alloc (.cells #[.bool true, .int .u64 (a1 : Int), .int .u64 (a2 : Int)] 24)).cell? ⟨w.heap.size + 1, 0, none⟩ = some (.bool t) := Lies.cell (HS.out.at (List.mem_cons_of_mem _ (List.mem_cons_of_mem _ List.mem_cons_self))) 0
      have b1' : (w5.alloc (.cells #[.bool true, .int .u64 (a1 : Int), .int .u64 (a2 : Int)] 24)).cell? ⟨w.heap.size + 1, 1, none⟩ = some (.int .u64 (b1 : Int)) := Lies.cell (HS.out.at (List.mem_cons_of_mem _ (List.mem_cons_of_mem _ List.mem_cons_self))) 1
      have b2' : (w5.alloc (.cells #[.bool true, .int .u64 (a1 : Int), .int .u64 (a2 : Int)] 24)).cell? ⟨w.heap.size + 1, 2, none⟩ = some (.int .u64 (b2 : Int)) := Lies.cell (HS.out.at (List.mem_cons_of_mem _ (List.mem_cons_of_mem _ List.mem_cons_self))) 2
      have u32 : (w5.alloc (.cells #[.bool true, .int .u64 (a1 : Int), .int .u64 (a2 : Int)] 24)).cell? ⟨g, 32, none⟩ = some (.string ⟨#[105, 112, 54]⟩) := (Lies.cell (HS.out.at (List.mem_cons_of_mem _ List.mem_cons_self)) 32).trans (HCS.out 32 _ HM2.out)
      go_wp2
      go_ret
      exact ⟨rfl, HS.out.bel⟩
theorem rev_any (a : Ad) : ∃ (X : ByteArray) (e : Nat), revA a = (bs X, e) ∧ (chkA a = 0 ↔ e = 0) := by
  by_cases h : chkA a = 0
  · exact ⟨⟨(enc ((digA a).reverse ++ [endA a, arpa])).toArray⟩, 0, by rw [revA_ok h, bs_mk], by simp [h]⟩
  · exact ⟨⟨#[]⟩, chkA a, by rw [revA_bad h]; rfl, Iff.rfl⟩
set_option maxHeartbeats 2000000 in
theorem adrev_bad (s : Bool) (a1 a2 : Nat) (t : Bool) (b1 b2 : Nat) (hf : fitA (s, a1, a2)) (hfb : fitA (t, b1, b2)) (hx : chkA (s, a1, a2) ≠ 0 ∨ chkA (t, b1, b2) ≠ 0) (w : World) (hG : Ground w) :
    Calls Tryz.prog 5 #[.agg #[.bool s, .int .u64 (a1 : Int), .int .u64 (a2 : Int)], .agg #[.bool t, .int .u64 (b1 : Int), .int .u64 (b2 : Int)]] w fun e w' => e = .returned (.bool true) ∧ Below w.heap.size w w' := by
  have HG := Lib.hid (fun wx (hb : Below w.heap.size w wx) => hG.next hb)
  have GL := Lib.hid lives4
  obtain ⟨X, x, h1, hxx⟩ := rev_any (s, a1, a2)
  obtain ⟨Y, y, h2, hyy⟩ := rev_any (t, b1, b2)
  have GA := Lib.hid (show GG 23 #[.agg #[.bool s, .int .u64 (a1 : Int), .int .u64 (a2 : Int)]] (.tuple #[.string X, .int .i64 (x : Int)]) from gRv (a := (s, a1, a2)) (e := x) hf h1)
  have GB := Lib.hid (show GG 23 #[.agg #[.bool t, .int .u64 (b1 : Int), .int .u64 (b2 : Int)]] (.tuple #[.string Y, .int .i64 (y : Int)]) from gRv (a := (t, b1, b2)) (e := y) hfb h2)
  have HS : Hid (Bx w ((w.alloc (.cells #[.bool s, .int .u64 (a1 : Int), .int .u64 (a2 : Int)] 24)).alloc (.cells #[.bool t, .int .u64 (b1 : Int), .int .u64 (b2 : Int)] 24)) [(w.heap.size + 1, 24, #[.bool t, .int .u64 (b1 : Int), .int .u64 (b2 : Int)]), (w.heap.size, 24, #[.bool s, .int .u64 (a1 : Int), .int .u64 (a2 : Int)])]) := Lib.hid (by
    have h1 := ((Bx.start w).more 24 #[.bool s, .int .u64 (a1 : Int), .int .u64 (a2 : Int)]).more 24 #[.bool t, .int .u64 (b1 : Int), .int .u64 (b2 : Int)]
    simpa using h1)
  rw [ne_eq, hxx, ne_eq, hyy] at hx
  clear hf hfb h1 h2 hxx hyy hG
  by_cases h0 : x = 0
  · have hy0 : y ≠ 0 := hx.resolve_left (fun e => e h0)
    have k1 : ((x : Int) != 0) = false := by rw [bne_eq_false_iff_eq]; omega
    have k2 : ((y : Int) != 0) = true := by rw [bne_iff_ne]; omega
    clear hx h0 hy0
    go_enter Tryz.func5, Tryz.ntmps5
    go_wp2_with fail
    (with_reducible refine (GL.out.go _ (HG.out _ HS.out.bel)).mono ?_)
    rintro e w1 ⟨rfl, hb⟩
    replace HS := Lib.hid (HS.out.next hb)
    clear hb
    have a0 : w1.cell? ⟨w.heap.size, 0, none⟩ = some (.bool s) := Lies.cell (HS.out.at (List.mem_cons_of_mem _ List.mem_cons_self)) 0
    have a1' : w1.cell? ⟨w.heap.size, 1, none⟩ = some (.int .u64 (a1 : Int)) := Lies.cell (HS.out.at (List.mem_cons_of_mem _ List.mem_cons_self)) 1
    have a2' : w1.cell? ⟨w.heap.size, 2, none⟩ = some (.int .u64 (a2 : Int)) := Lies.cell (HS.out.at (List.mem_cons_of_mem _ List.mem_cons_self)) 2
    have b0 : w1.cell? ⟨w.heap.size + 1, 0, none⟩ = some (.bool t) := Lies.cell (HS.out.at List.mem_cons_self) 0
    have b1' : w1.cell? ⟨w.heap.size + 1, 1, none⟩ = some (.int .u64 (b1 : Int)) := Lies.cell (HS.out.at List.mem_cons_self) 1
    have b2' : w1.cell? ⟨w.heap.size + 1, 2, none⟩ = some (.int .u64 (b2 : Int)) := Lies.cell (HS.out.at List.mem_cons_self) 2
    go_wp2_with fail
    (with_reducible refine (GA.out.go _ (HG.out _ HS.out.bel)).mono ?_)
    rintro e w2 ⟨rfl, hb⟩
    replace HS := Lib.hid (HS.out.next hb)
    clear hb a0 a1' a2' b0 b1' b2'
    have a0 : w2.cell? ⟨w.heap.size, 0, none⟩ = some (.bool s) := Lies.cell (HS.out.at (List.mem_cons_of_mem _ List.mem_cons_self)) 0
    have a1' : w2.cell? ⟨w.heap.size, 1, none⟩ = some (.int .u64 (a1 : Int)) := Lies.cell (HS.out.at (List.mem_cons_of_mem _ List.mem_cons_self)) 1
    have a2' : w2.cell? ⟨w.heap.size, 2, none⟩ = some (.int .u64 (a2 : Int)) := Lies.cell (HS.out.at (List.mem_cons_of_mem _ List.mem_cons_self)) 2
    have b0 : w2.cell? ⟨w.heap.size + 1, 0, none⟩ = some (.bool t) := Lies.cell (HS.out.at List.mem_cons_self) 0
    have b1' : w2.cell? ⟨w.heap.size + 1, 1, none⟩ = some (.int .u64 (b1 : Int)) := Lies.cell (HS.out.at List.mem_cons_self) 1
    have b2' : w2.cell? ⟨w.heap.size + 1, 2, none⟩ = some (.int .u64 (b2 : Int)) := Lies.cell (HS.out.at List.mem_cons_self) 2
    go_wp2_with fail
    (with_reducible refine (GB.out.go _ (HG.out _ HS.out.bel)).mono ?_)
    rintro e w3 ⟨rfl, hb⟩
    replace HS := Lib.hid (HS.out.next hb)
    clear hb a0 a1' a2' b0 b1' b2'
    go_wp2
    go_ret
    exact ⟨rfl, HS.out.bel⟩
  · have k1 : ((x : Int) != 0) = true := by rw [bne_iff_ne]; omega
    clear hx h0
    go_enter Tryz.func5, Tryz.ntmps5
    go_wp2_with fail
    (with_reducible refine (GL.out.go _ (HG.out _ HS.out.bel)).mono ?_)
    rintro e w1 ⟨rfl, hb⟩
    replace HS := Lib.hid (HS.out.next hb)
    clear hb
    have a0 : w1.cell? ⟨w.heap.size, 0, none⟩ = some (.bool s) := Lies.cell (HS.out.at (List.mem_cons_of_mem _ List.mem_cons_self)) 0
    have a1' : w1.cell? ⟨w.heap.size, 1, none⟩ = some (.int .u64 (a1 : Int)) := Lies.cell (HS.out.at (List.mem_cons_of_mem _ List.mem_cons_self)) 1
    have a2' : w1.cell? ⟨w.heap.size, 2, none⟩ = some (.int .u64 (a2 : Int)) := Lies.cell (HS.out.at (List.mem_cons_of_mem _ List.mem_cons_self)) 2
    have b0 : w1.cell? ⟨w.heap.size + 1, 0, none⟩ = some (.bool t) := Lies.cell (HS.out.at List.mem_cons_self) 0
    have b1' : w1.cell? ⟨w.heap.size + 1, 1, none⟩ = some (.int .u64 (b1 : Int)) := Lies.cell (HS.out.at List.mem_cons_self) 1
    have b2' : w1.cell? ⟨w.heap.size + 1, 2, none⟩ = some (.int .u64 (b2 : Int)) := Lies.cell (HS.out.at List.mem_cons_self) 2
    go_wp2_with fail
    (with_reducible refine (GA.out.go _ (HG.out _ HS.out.bel)).mono ?_)
    rintro e w2 ⟨rfl, hb⟩
    replace HS := Lib.hid (HS.out.next hb)
    clear hb a0 a1' a2' b0 b1' b2'
    have a0 : w2.cell? ⟨w.heap.size, 0, none⟩ = some (.bool s) := Lies.cell (HS.out.at (List.mem_cons_of_mem _ List.mem_cons_self)) 0
    have a1' : w2.cell? ⟨w.heap.size, 1, none⟩ = some (.int .u64 (a1 : Int)) := Lies.cell (HS.out.at (List.mem_cons_of_mem _ List.mem_cons_self)) 1
    have a2' : w2.cell? ⟨w.heap.size, 2, none⟩ = some (.int .u64 (a2 : Int)) := Lies.cell (HS.out.at (List.mem_cons_of_mem _ List.mem_cons_self)) 2
    have b0 : w2.cell? ⟨w.heap.size + 1, 0, none⟩ = some (.bool t) := Lies.cell (HS.out.at List.mem_cons_self) 0
    have b1' : w2.cell? ⟨w.heap.size + 1, 1, none⟩ = some (.int .u64 (b1 : Int)) := Lies.cell (HS.out.at List.mem_cons_self) 1
    have b2' : w2.cell? ⟨w.heap.size + 1, 2, none⟩ = some (.int .u64 (b2 : Int)) := Lies.cell (HS.out.at List.mem_cons_self) 2
    go_wp2_with fail
    (with_reducible refine (GB.out.go _ (HG.out _ HS.out.bel)).mono ?_)
    rintro e w3 ⟨rfl, hb⟩
    replace HS := Lib.hid (HS.out.next hb)
    clear hb a0 a1' a2' b0 b1' b2'
    go_wp2
    go_ret
    exact ⟨rfl, HS.out.bel⟩
theorem AddrReverses_walk (s0 : Bool) (h0 l0 : Nat) (s1 : Bool) (h1' l1 : Nat) (f0 : h0 < 18446744073709551616) (g0 : l0 < 18446744073709551616) (f1 : h1' < 18446744073709551616) (g1 : l1 < 18446744073709551616) (w : World) (hG : Ground w) :
    Calls Tryz.prog 5 #[.agg #[.bool s0, .int .u64 (h0 : Int), .int .u64 (l0 : Int)], .agg #[.bool s1, .int .u64 (h1' : Int), .int .u64 (l1 : Int)]] w fun e w' => e = .returned (.bool true) ∧ Below w.heap.size w w' := by
  by_cases ca : chkA (s0, h0, l0) = 0
  · by_cases cb : chkA (s1, h1', l1) = 0
    · cases s0
      · exact adrev_old h0 l0 s1 h1' l1 ⟨f0, g0⟩ ⟨f1, g1⟩ ca cb w hG
      · exact adrev_new h0 l0 s1 h1' l1 ⟨f0, g0⟩ ⟨f1, g1⟩ ca cb w hG
    · exact adrev_bad s0 h0 l0 s1 h1' l1 ⟨f0, g0⟩ ⟨f1, g1⟩ (.inr cb) w hG
  · exact adrev_bad s0 h0 l0 s1 h1' l1 ⟨f0, g0⟩ ⟨f1, g1⟩ (.inl ca) w hG
end Go.Proofs.YtjadghmanpkgoaaGreatDoor
