/-
  The walk of the law AddrBack. Conditions: as each theorem names them.
-/
import Derived.Test.YtpaocfjpnajonaaGreatDoorAdBkM
namespace Go.Proofs.YtpaocfjpnajonaaGreatDoor
open Go.RowKit
set_option linter.unusedVariables false

set_option maxRecDepth 100000 in
set_option maxHeartbeats 4000000 in
theorem adback_bad (six : Bool) (hi lo : Nat) (w : World) (h1 : hi < 18446744073709551616) (h2 : lo < 18446744073709551616) (hG : Ground w) (hc : chkA (six, hi, lo) = 2) :
    Calls Tryz.prog 5 #[.agg #[.bool six, .int .u64 (hi : Int), .int .u64 (lo : Int)]] w fun e w' => e = .returned (.bool true) ∧ Below w.heap.size w w' := by
  have hf : fitA (six, hi, lo) := ⟨h1, h2⟩
  obtain ⟨w0, hw0⟩ : ∃ w0, w0 = w.alloc (.cells #[.bool six, .int .u64 (hi : Int), .int .u64 (lo : Int)] 26) := ⟨_, rfl⟩
  have HB0 : Hid (Below w.heap.size w w0) := Lib.hid (by rw [hw0]; exact (Below.refl _ _).alloc (Nat.le_refl _) _)
  have HG := Lib.hid (hG.next HB0.out)
  have HK : Hid (∀ w', Below w0.heap.size w0 w' → AdB w' w.heap.size six hi lo) := Lib.hid (fun w' hb => Lies.next (by rw [hw0]; exact Lies.new w _ _) hb)
  have hn : chkA (six, hi, lo) ≠ 0 := by rw [hc]; decide
  have HT : Hid (GG 16 #[.agg #[.bool six, .int .u64 (hi : Int), .int .u64 (lo : Int)]] (.tuple #[.string ⟨#[]⟩, .int .i64 2])) := Lib.hid (gTx (a := (six, hi, lo)) (x := ⟨#[]⟩) (e := 2) hf (by rw [txA_bad hn, hc]; rfl))
  have HO : Hid (GG 25 #[.agg #[.bool six, .int .u64 (hi : Int), .int .u64 (lo : Int)]] (.tuple #[.string ⟨#[]⟩, .int .i64 2])) := Lib.hid (gOc (a := (six, hi, lo)) (x := ⟨#[]⟩) (e := 2) hf (by rw [ocA_bad hn, hc]; rfl))
  have HV : Hid (GG 19 #[.agg #[.bool six, .int .u64 (hi : Int), .int .u64 (lo : Int)]] (.tuple #[.string ⟨#[]⟩, .int .i64 2])) := Lib.hid (gRv (a := (six, hi, lo)) (x := ⟨#[]⟩) (e := 2) hf (by rw [revA_bad hn, hc]; rfl))
  have HC : Hid (GG 21 #[.agg #[.bool six, .int .u64 (hi : Int), .int .u64 (lo : Int)]] (.int .i64 2)) := Lib.hid (gCk (a := (six, hi, lo)) (e := 2) hf hc)
  clear h1 h2 hG hc hf hn
  have hbb : Below w0.heap.size w0 w0 := Below.refl _ _
  go_enter Tryz.func5, Tryz.ntmps5
  go_wp2_with (first | (go_at_call 14; rw [← hw0]; (with_reducible refine (lives4.go _ (HG.out.next hbb)).mono ?_); rintro e w1 ⟨rfl, hb'⟩; replace hbb := next hbb hb'; clear hb' hw0; obtain ⟨⟨ha0, ha1, ha2⟩, _⟩ := (HK.out _ hbb).facts) | (go_at_call 16; (with_reducible refine (HT.out.go _ (HG.out.next hbb)).mono ?_); rintro e w2 ⟨rfl, hb'⟩; replace hbb := next hbb hb'; clear hb'; obtain ⟨⟨ha0, ha1, ha2⟩, _⟩ := (HK.out _ hbb).facts) | (go_at_call 25; (with_reducible refine (HO.out.go _ (HG.out.next hbb)).mono ?_); rintro e w2 ⟨rfl, hb'⟩; replace hbb := next hbb hb'; clear hb'; obtain ⟨⟨ha0, ha1, ha2⟩, _⟩ := (HK.out _ hbb).facts) | (go_at_call 19; (with_reducible refine (HV.out.go _ (HG.out.next hbb)).mono ?_); rintro e w2 ⟨rfl, hb'⟩; replace hbb := next hbb hb'; clear hb'; obtain ⟨⟨ha0, ha1, ha2⟩, _⟩ := (HK.out _ hbb).facts) | (go_at_call 21; (with_reducible refine (HC.out.go _ (HG.out.next hbb)).mono ?_); rintro e w2 ⟨rfl, hb'⟩; replace hbb := next hbb hb'; clear hb'; obtain ⟨⟨ha0, ha1, ha2⟩, _⟩ := (HK.out _ hbb).facts) | fail)
  go_ret
  exact ⟨rfl, next HB0.out hbb⟩
set_option maxRecDepth 100000 in
set_option maxHeartbeats 8000000 in
theorem adback_false (hi lo : Nat) (w : World) (h1 : hi < 18446744073709551616) (h2 : lo < 18446744073709551616) (hG : Ground w) (hc : chkA (false, hi, lo) = 0) :
    Calls Tryz.prog 5 #[.agg #[.bool false, .int .u64 (hi : Int), .int .u64 (lo : Int)]] w fun e w' => e = .returned (.bool true) ∧ Below w.heap.size w w' := by
  have hf : fitA (false, hi, lo) := ⟨h1, h2⟩
  obtain ⟨w0, hw0⟩ : ∃ w0, w0 = w.alloc (.cells #[.bool false, .int .u64 (hi : Int), .int .u64 (lo : Int)] 26) := ⟨_, rfl⟩
  have HB0 : Hid (Below w.heap.size w w0) := Lib.hid (by rw [hw0]; exact (Below.refl _ _).alloc (Nat.le_refl _) _)
  have HG := Lib.hid (hG.next HB0.out)
  have HK : Hid (∀ w', Below w0.heap.size w0 w' → AdB w' w.heap.size false hi lo) := Lib.hid (fun w' hb => Lies.next (by rw [hw0]; exact Lies.new w _ _) hb)
  obtain ⟨S, hS⟩ : ∃ S : ByteArray, bs S = (txA (false, hi, lo)).1 := ⟨⟨(txA (false, hi, lo)).1.toArray⟩, bs_mk _⟩
  have hSt : txA (false, hi, lo) = (bs S, 0) := by rw [hS]; unfold txA; rw [if_neg (by rw [hc]; decide)]; rfl
  have hSl : S.size ≤ 900000 := by rw [← bs_length, hS]; have := text_len (false, hi, lo); omega
  have HT : Hid (GG 16 #[.agg #[.bool false, .int .u64 (hi : Int), .int .u64 (lo : Int)]] (.tuple #[.string S, .int .i64 0])) := Lib.hid (gTx (a := (false, hi, lo)) (e := 0) hf hSt)
  have HRd : Hid (GG 15 #[.string S] (.tuple #[.agg #[.bool false, .int .u64 (hi : Int), .int .u64 (lo : Int)], .int .i64 0])) := Lib.hid (gRd (a := (false, hi, lo)) (e := 0) hSl (by rw [hS]; exact read_text hf hc))
  obtain ⟨O, hO⟩ : ∃ O : ByteArray, bs O = octA (false, hi, lo) := ⟨⟨(octA (false, hi, lo)).toArray⟩, bs_mk _⟩
  have hOl : O.size = 4 := by rw [← bs_length, hO, octA_len']; rfl
  have HO : Hid (GG 25 #[.agg #[.bool false, .int .u64 (hi : Int), .int .u64 (lo : Int)]] (.tuple #[.string O, .int .i64 0])) := Lib.hid (gOc (a := (false, hi, lo)) (e := 0) hf (by rw [ocA_ok hc, hO]))
  have HOf : Hid (GG 27 #[.string O] (.tuple #[.agg #[.bool false, .int .u64 (hi : Int), .int .u64 (lo : Int)], .int .i64 0])) := Lib.hid (gOf (a := (false, hi, lo)) (e := 0) (by unfold maxLen; omega) (by rw [hO]; exact of_oct hf hc))
  obtain ⟨R, hR⟩ : ∃ R : ByteArray, bs R = enc ((digA (false, hi, lo)).reverse ++ [endA (false, hi, lo), arpa]) := ⟨⟨(enc ((digA (false, hi, lo)).reverse ++ [endA (false, hi, lo), arpa])).toArray⟩, bs_mk _⟩
  obtain ⟨hR0, k, hk, hkl, htl, hRs⟩ := name_tail (false, hi, lo) R hR
  have hRm : R.size ≤ maxLen := by unfold maxLen; omega
  have HV : Hid (GG 19 #[.agg #[.bool false, .int .u64 (hi : Int), .int .u64 (lo : Int)]] (.tuple #[.string R, .int .i64 0])) := Lib.hid (gRv (a := (false, hi, lo)) (e := 0) hf (by rw [revA_ok hc, hR]))
  have HB1 : Hid (GG 20 #[.string R] (.tuple #[.agg #[.bool false, .int .u64 (hi : Int), .int .u64 (lo : Int)], .bool true])) := Lib.hid (gBk (a := (false, hi, lo)) hRm (by rw [hR]; exact back_rev hf hc arpa rfl (by decide)))
  have hlab : nlabs (bs R) = frontA (false, hi, lo) ++ [arpa] := by rw [hR, (rev_labs (false, hi, lo) arpa rfl).2.1, front_rev]
  have hlb2 : strB (nlabs (bs R)) = strB (frontA (false, hi, lo)) ++ [(⟨#[97, 114, 112, 97]⟩ : ByteArray)] := by rw [hlab, strB_app]; rfl
  have hfl : (frontA (false, hi, lo)).length = 5 := by rw [frontA_len]; rfl
  have HLb := Lib.hid (fun wx => Labels_long R wx hRm 6 (by rw [hlab, List.length_append, hfl]; rfl) (by decide))
  rw [hlb2] at HLb
  have hMl : Hid ((strB (frontA (false, hi, lo))).length = 5) := Lib.hid (by rw [strB_length, hfl])
  have hRl : Hid ((strB (frontA (false, hi, lo)) ++ [(⟨#[97, 114, 112, 97]⟩ : ByteArray)]).length = 6) := Lib.hid (by rw [List.length_append, hMl.out]; rfl)
  obtain ⟨Gr, hGr⟩ : ∃ Gr : ByteArray, bs Gr = enc ((digA (false, hi, lo)).reverse ++ [endA (false, hi, lo), [65, 82, 80, 65]]) := ⟨⟨(enc ((digA (false, hi, lo)).reverse ++ [endA (false, hi, lo), [65, 82, 80, 65]])).toArray⟩, bs_mk _⟩
  have HMk : Hid (∀ (v : Value) (wx : World), SRow wx v (strB (frontA (false, hi, lo)) ++ [(⟨#[65, 82, 80, 65]⟩ : ByteArray)]) → Calls Tryz.prog 35 #[v] wx fun e w' => e = .returned (.tuple #[.string Gr, .int .i64 0]) ∧ Below wx.heap.size wx w') := Lib.hid (fun v wx hx => by
    have hm := Make_any v _ wx hx (by rw [List.length_append, hMl.out]; decide) (front_size (false, hi, lo) ⟨#[65, 82, 80, 65]⟩ (by decide))
    have e : (strB (frontA (false, hi, lo)) ++ [(⟨#[65, 82, 80, 65]⟩ : ByteArray)]).map bs = (digA (false, hi, lo)).reverse ++ [endA (false, hi, lo), [65, 82, 80, 65]] := by rw [List.map_append, strB_map, ← front_rev]; rfl
    rw [e, rev_mk (false, hi, lo) [65, 82, 80, 65] rfl, ← hGr] at hm
    exact hm)
  have hGm : Gr.size ≤ maxLen := by rw [← bs_length, hGr]; have := (rev_name (false, hi, lo) [65, 82, 80, 65] rfl).2; unfold maxLen; omega
  have HB2 : Hid (GG 20 #[.string Gr] (.tuple #[.agg #[.bool false, .int .u64 (hi : Int), .int .u64 (lo : Int)], .bool true])) := Lib.hid (gBk (a := (false, hi, lo)) hGm (by rw [hGr]; exact back_rev hf hc [65, 82, 80, 65] rfl (by decide)))
  have HB3 : Hid (GG 20 #[.string (R.extract (1 + k) R.size)] (.tuple #[.agg #[.bool false, .int .u64 0, .int .u64 0], .bool false])) := Lib.hid (aBack_no (false, hi, lo) _ htl (by have := extract_size_le R (1 + k) R.size; omega))
  have hkI : ((R[0].toNat : Nat) : Int) = (k : Int) := by rw [hk]
  have hkl' : (1 : Int) + (k : Int) ≤ R.size := by omega
  have hk254 : (k : Int) ≤ 254 := by omega
  have hRI : (R.size : Int) ≤ 254 := by omega
  have hR0' : (0 : Int) < R.size := by omega
  have hOI : (O.size : Int) = 4 := by omega
  clear h1 h2 hG hc hf hS hSt hSl hO hR hk hkl htl hRs hRm hlab hlb2 hfl hGr hGm hOl
  have hbb : Below w0.heap.size w0 w0 := Below.refl _ _
  go_enter Tryz.func5, Tryz.ntmps5
  go_wp2_with (first | (go_at_call 14; rw [← hw0]; (with_reducible refine (lives4.go _ (HG.out.next hbb)).mono ?_); rintro e w1 ⟨rfl, hb'⟩; replace hbb := next hbb hb'; clear hb' hw0; obtain ⟨⟨ha0, ha1, ha2⟩, _⟩ := (HK.out _ hbb).facts) | (go_at_call 16; (with_reducible refine (HT.out.go _ (HG.out.next hbb)).mono ?_); rintro e w2 ⟨rfl, hb'⟩; replace hbb := next hbb hb'; clear hb'; obtain ⟨⟨ha0, ha1, ha2⟩, _⟩ := (HK.out _ hbb).facts) | (go_at_call 25; (with_reducible refine (HO.out.go _ (HG.out.next hbb)).mono ?_); rintro e w3 ⟨rfl, hb'⟩; replace hbb := next hbb hb'; clear hb'; obtain ⟨⟨ha0, ha1, ha2⟩, _⟩ := (HK.out _ hbb).facts) | (go_at_call 19; (with_reducible refine (HV.out.go _ (HG.out.next hbb)).mono ?_); rintro e w4 ⟨rfl, hb'⟩; replace hbb := next hbb hb'; clear hb'; obtain ⟨⟨ha0, ha1, ha2⟩, _⟩ := (HK.out _ hbb).facts) | (go_at_call 15; (with_reducible refine (HRd.out.go _ (HG.out.next hbb)).mono ?_); rintro e w5 ⟨rfl, hb'⟩; have LX := Lib.hid (Lies.new w5 26 #[.bool false, .int .u64 (hi : Int), .int .u64 (lo : Int)]); replace hbb := (next hbb hb').alloc (Nat.le_trans hbb.size hb'.size) (.cells #[.bool false, .int .u64 (hi : Int), .int .u64 (lo : Int)] 26); clear hb') | (go_at_call 27; (with_reducible refine (HOf.out.go _ (HG.out.next hbb)).mono ?_); rintro e w6 ⟨rfl, hb'⟩; replace LX := Lib.hid ((LX.out.next hb').alloc (.cells #[.bool false, .int .u64 (hi : Int), .int .u64 (lo : Int)] 26)); have LY := Lib.hid (Lies.new w6 26 #[.bool false, .int .u64 (hi : Int), .int .u64 (lo : Int)]); replace hbb := (next hbb hb').alloc (Nat.le_trans hbb.size hb'.size) (.cells #[.bool false, .int .u64 (hi : Int), .int .u64 (lo : Int)] 26); clear hb') | (go_at_call 20; (with_reducible refine (HB1.out.go _ (HG.out.next hbb)).mono ?_); rintro e w7 ⟨rfl, hb'⟩; replace LX := Lib.hid ((LX.out.next hb').alloc (.cells #[.bool false, .int .u64 (hi : Int), .int .u64 (lo : Int)] 26)); replace LY := Lib.hid ((LY.out.next hb').alloc (.cells #[.bool false, .int .u64 (hi : Int), .int .u64 (lo : Int)] 26)); have LZ := Lib.hid (Lies.new w7 26 #[.bool false, .int .u64 (hi : Int), .int .u64 (lo : Int)]); replace hbb := (next hbb hb').alloc (Nat.le_trans hbb.size hb'.size) (.cells #[.bool false, .int .u64 (hi : Int), .int .u64 (lo : Int)] 26); clear hb') | (go_at_call 34; (with_reducible refine (HLb.out _).mono ?_); rintro e w8 ⟨g8, c8, base, rfl, hbase, ho8, hb'⟩; obtain ⟨cs8, hL8, hbg, hnc, hcm, hcs8⟩ := own_lies ho8 hRl.out; have HLc := Lib.hid (last_cell hL8 hcs8 hMl.out); obtain ⟨hlc, hlf⟩ := HLc.out; have HRow := Lib.hid (row_last (N := 6) hL8 hcs8 hMl.out rfl hnc hcm ⟨#[65, 82, 80, 65]⟩); have HS : Hid (∀ k, k ≤ base → Below k w8 (w8.setCell ⟨g8, 5, none⟩ (.string ⟨#[65, 82, 80, 65]⟩))) := Lib.hid (fun k hk => (Below.refl k w8).setCell (p := ⟨g8, 5, none⟩) (Nat.le_trans hk hbg) _); replace LX := Lib.hid ((LX.out.next hb').below (HS.out _ (Nat.le_refl _)) (Nat.lt_of_lt_of_le LX.out.lt hbase)); replace LY := Lib.hid ((LY.out.next hb').below (HS.out _ (Nat.le_refl _)) (Nat.lt_of_lt_of_le LY.out.lt hbase)); replace LZ := Lib.hid ((LZ.out.next hb').below (HS.out _ (Nat.le_refl _)) (Nat.lt_of_lt_of_le LZ.out.lt hbase)); have hncI : (6 : Int) ≤ c8 := (by omega); replace hbb := (next hbb hb').trans (HS.out _ (Nat.le_trans hbb.size hbase)); clear hb' ho8 hL8 hcs8 hnc hcm hbg hbase) | (go_at_call 35; (with_reducible refine (HMk.out _ _ HRow.out).mono ?_); rintro e w9 ⟨rfl, hb'⟩; replace LX := Lib.hid (LX.out.next hb'); replace LY := Lib.hid (LY.out.next hb'); replace LZ := Lib.hid (LZ.out.next hb'); replace hbb := next hbb hb'; clear hb') | (go_at_call 20; (with_reducible refine (HB2.out.go _ (HG.out.next hbb)).mono ?_); rintro e w10 ⟨rfl, hb'⟩; replace LX := Lib.hid ((LX.out.next hb').alloc (.cells #[.bool false, .int .u64 (hi : Int), .int .u64 (lo : Int)] 26)); replace LY := Lib.hid ((LY.out.next hb').alloc (.cells #[.bool false, .int .u64 (hi : Int), .int .u64 (lo : Int)] 26)); replace LZ := Lib.hid ((LZ.out.next hb').alloc (.cells #[.bool false, .int .u64 (hi : Int), .int .u64 (lo : Int)] 26)); have LW := Lib.hid (Lies.new w10 26 #[.bool false, .int .u64 (hi : Int), .int .u64 (lo : Int)]); replace hbb := (next hbb hb').alloc (Nat.le_trans hbb.size hb'.size) (.cells #[.bool false, .int .u64 (hi : Int), .int .u64 (lo : Int)] 26); clear hb') | (go_at_call 20; (with_reducible refine (HB3.out.go _ (HG.out.next hbb)).mono ?_); rintro e w11 ⟨rfl, hb'⟩; replace LX := Lib.hid ((LX.out.next hb').alloc (.cells #[.bool false, .int .u64 0, .int .u64 0] 26)); replace LY := Lib.hid ((LY.out.next hb').alloc (.cells #[.bool false, .int .u64 0, .int .u64 0] 26)); replace LZ := Lib.hid ((LZ.out.next hb').alloc (.cells #[.bool false, .int .u64 0, .int .u64 0] 26)); replace LW := Lib.hid ((LW.out.next hb').alloc (.cells #[.bool false, .int .u64 0, .int .u64 0] 26)); replace hbb := (next hbb hb').alloc (Nat.le_trans hbb.size hb'.size) (.cells #[.bool false, .int .u64 0, .int .u64 0] 26); clear hb'; obtain ⟨⟨ha0, ha1, ha2⟩, _⟩ := (HK.out _ hbb).facts; obtain ⟨⟨hx00, hx01, hx02⟩, _⟩ := AdB.facts LX.out; obtain ⟨⟨hx10, hx11, hx12⟩, _⟩ := AdB.facts LY.out; obtain ⟨⟨hx20, hx21, hx22⟩, _⟩ := AdB.facts LZ.out; obtain ⟨⟨hx30, hx31, hx32⟩, _⟩ := AdB.facts LW.out) | fail)
  go_ret
  exact ⟨rfl, next HB0.out hbb⟩
set_option maxRecDepth 100000 in
set_option maxHeartbeats 8000000 in
theorem adback_true (hi lo : Nat) (w : World) (h1 : hi < 18446744073709551616) (h2 : lo < 18446744073709551616) (hG : Ground w) (hc : chkA (true, hi, lo) = 0) :
    Calls Tryz.prog 5 #[.agg #[.bool true, .int .u64 (hi : Int), .int .u64 (lo : Int)]] w fun e w' => e = .returned (.bool true) ∧ Below w.heap.size w w' := by
  have hf : fitA (true, hi, lo) := ⟨h1, h2⟩
  obtain ⟨w0, hw0⟩ : ∃ w0, w0 = w.alloc (.cells #[.bool true, .int .u64 (hi : Int), .int .u64 (lo : Int)] 26) := ⟨_, rfl⟩
  have HB0 : Hid (Below w.heap.size w w0) := Lib.hid (by rw [hw0]; exact (Below.refl _ _).alloc (Nat.le_refl _) _)
  have HG := Lib.hid (hG.next HB0.out)
  have HK : Hid (∀ w', Below w0.heap.size w0 w' → AdB w' w.heap.size true hi lo) := Lib.hid (fun w' hb => Lies.next (by rw [hw0]; exact Lies.new w _ _) hb)
  obtain ⟨S, hS⟩ : ∃ S : ByteArray, bs S = (txA (true, hi, lo)).1 := ⟨⟨(txA (true, hi, lo)).1.toArray⟩, bs_mk _⟩
  have hSt : txA (true, hi, lo) = (bs S, 0) := by rw [hS]; unfold txA; rw [if_neg (by rw [hc]; decide)]; rfl
  have hSl : S.size ≤ 900000 := by rw [← bs_length, hS]; have := text_len (true, hi, lo); omega
  have HT : Hid (GG 16 #[.agg #[.bool true, .int .u64 (hi : Int), .int .u64 (lo : Int)]] (.tuple #[.string S, .int .i64 0])) := Lib.hid (gTx (a := (true, hi, lo)) (e := 0) hf hSt)
  have HRd : Hid (GG 15 #[.string S] (.tuple #[.agg #[.bool true, .int .u64 (hi : Int), .int .u64 (lo : Int)], .int .i64 0])) := Lib.hid (gRd (a := (true, hi, lo)) (e := 0) hSl (by rw [hS]; exact read_text hf hc))
  obtain ⟨O, hO⟩ : ∃ O : ByteArray, bs O = octA (true, hi, lo) := ⟨⟨(octA (true, hi, lo)).toArray⟩, bs_mk _⟩
  have hOl : O.size = 16 := by rw [← bs_length, hO, octA_len']; rfl
  have HO : Hid (GG 25 #[.agg #[.bool true, .int .u64 (hi : Int), .int .u64 (lo : Int)]] (.tuple #[.string O, .int .i64 0])) := Lib.hid (gOc (a := (true, hi, lo)) (e := 0) hf (by rw [ocA_ok hc, hO]))
  have HOf : Hid (GG 27 #[.string O] (.tuple #[.agg #[.bool true, .int .u64 (hi : Int), .int .u64 (lo : Int)], .int .i64 0])) := Lib.hid (gOf (a := (true, hi, lo)) (e := 0) (by unfold maxLen; omega) (by rw [hO]; exact of_oct hf hc))
  obtain ⟨R, hR⟩ : ∃ R : ByteArray, bs R = enc ((digA (true, hi, lo)).reverse ++ [endA (true, hi, lo), arpa]) := ⟨⟨(enc ((digA (true, hi, lo)).reverse ++ [endA (true, hi, lo), arpa])).toArray⟩, bs_mk _⟩
  obtain ⟨hR0, k, hk, hkl, htl, hRs⟩ := name_tail (true, hi, lo) R hR
  have hRm : R.size ≤ maxLen := by unfold maxLen; omega
  have HV : Hid (GG 19 #[.agg #[.bool true, .int .u64 (hi : Int), .int .u64 (lo : Int)]] (.tuple #[.string R, .int .i64 0])) := Lib.hid (gRv (a := (true, hi, lo)) (e := 0) hf (by rw [revA_ok hc, hR]))
  have HB1 : Hid (GG 20 #[.string R] (.tuple #[.agg #[.bool true, .int .u64 (hi : Int), .int .u64 (lo : Int)], .bool true])) := Lib.hid (gBk (a := (true, hi, lo)) hRm (by rw [hR]; exact back_rev hf hc arpa rfl (by decide)))
  have hlab : nlabs (bs R) = frontA (true, hi, lo) ++ [arpa] := by rw [hR, (rev_labs (true, hi, lo) arpa rfl).2.1, front_rev]
  have hlb2 : strB (nlabs (bs R)) = strB (frontA (true, hi, lo)) ++ [(⟨#[97, 114, 112, 97]⟩ : ByteArray)] := by rw [hlab, strB_app]; rfl
  have hfl : (frontA (true, hi, lo)).length = 33 := by rw [frontA_len]; rfl
  have HLb := Lib.hid (fun wx => Labels_long R wx hRm 34 (by rw [hlab, List.length_append, hfl]; rfl) (by decide))
  rw [hlb2] at HLb
  have hMl : Hid ((strB (frontA (true, hi, lo))).length = 33) := Lib.hid (by rw [strB_length, hfl])
  have hRl : Hid ((strB (frontA (true, hi, lo)) ++ [(⟨#[97, 114, 112, 97]⟩ : ByteArray)]).length = 34) := Lib.hid (by rw [List.length_append, hMl.out]; rfl)
  obtain ⟨Gr, hGr⟩ : ∃ Gr : ByteArray, bs Gr = enc ((digA (true, hi, lo)).reverse ++ [endA (true, hi, lo), [65, 82, 80, 65]]) := ⟨⟨(enc ((digA (true, hi, lo)).reverse ++ [endA (true, hi, lo), [65, 82, 80, 65]])).toArray⟩, bs_mk _⟩
  have HMk : Hid (∀ (v : Value) (wx : World), SRow wx v (strB (frontA (true, hi, lo)) ++ [(⟨#[65, 82, 80, 65]⟩ : ByteArray)]) → Calls Tryz.prog 35 #[v] wx fun e w' => e = .returned (.tuple #[.string Gr, .int .i64 0]) ∧ Below wx.heap.size wx w') := Lib.hid (fun v wx hx => by
    have hm := Make_any v _ wx hx (by rw [List.length_append, hMl.out]; decide) (front_size (true, hi, lo) ⟨#[65, 82, 80, 65]⟩ (by decide))
    have e : (strB (frontA (true, hi, lo)) ++ [(⟨#[65, 82, 80, 65]⟩ : ByteArray)]).map bs = (digA (true, hi, lo)).reverse ++ [endA (true, hi, lo), [65, 82, 80, 65]] := by rw [List.map_append, strB_map, ← front_rev]; rfl
    rw [e, rev_mk (true, hi, lo) [65, 82, 80, 65] rfl, ← hGr] at hm
    exact hm)
  have hGm : Gr.size ≤ maxLen := by rw [← bs_length, hGr]; have := (rev_name (true, hi, lo) [65, 82, 80, 65] rfl).2; unfold maxLen; omega
  have HB2 : Hid (GG 20 #[.string Gr] (.tuple #[.agg #[.bool true, .int .u64 (hi : Int), .int .u64 (lo : Int)], .bool true])) := Lib.hid (gBk (a := (true, hi, lo)) hGm (by rw [hGr]; exact back_rev hf hc [65, 82, 80, 65] rfl (by decide)))
  have HB3 : Hid (GG 20 #[.string (R.extract (1 + k) R.size)] (.tuple #[.agg #[.bool false, .int .u64 0, .int .u64 0], .bool false])) := Lib.hid (aBack_no (true, hi, lo) _ htl (by have := extract_size_le R (1 + k) R.size; omega))
  have hkI : ((R[0].toNat : Nat) : Int) = (k : Int) := by rw [hk]
  have hkl' : (1 : Int) + (k : Int) ≤ R.size := by omega
  have hk254 : (k : Int) ≤ 254 := by omega
  have hRI : (R.size : Int) ≤ 254 := by omega
  have hR0' : (0 : Int) < R.size := by omega
  have hOI : (O.size : Int) = 16 := by omega
  clear h1 h2 hG hc hf hS hSt hSl hO hR hk hkl htl hRs hRm hlab hlb2 hfl hGr hGm hOl
  have hbb : Below w0.heap.size w0 w0 := Below.refl _ _
  go_enter Tryz.func5, Tryz.ntmps5
  go_wp2_with (first | (go_at_call 14; rw [← hw0]; (with_reducible refine (lives4.go _ (HG.out.next hbb)).mono ?_); rintro e w1 ⟨rfl, hb'⟩; replace hbb := next hbb hb'; clear hb' hw0; obtain ⟨⟨ha0, ha1, ha2⟩, _⟩ := (HK.out _ hbb).facts) | (go_at_call 16; (with_reducible refine (HT.out.go _ (HG.out.next hbb)).mono ?_); rintro e w2 ⟨rfl, hb'⟩; replace hbb := next hbb hb'; clear hb'; obtain ⟨⟨ha0, ha1, ha2⟩, _⟩ := (HK.out _ hbb).facts) | (go_at_call 25; (with_reducible refine (HO.out.go _ (HG.out.next hbb)).mono ?_); rintro e w3 ⟨rfl, hb'⟩; replace hbb := next hbb hb'; clear hb'; obtain ⟨⟨ha0, ha1, ha2⟩, _⟩ := (HK.out _ hbb).facts) | (go_at_call 19; (with_reducible refine (HV.out.go _ (HG.out.next hbb)).mono ?_); rintro e w4 ⟨rfl, hb'⟩; replace hbb := next hbb hb'; clear hb'; obtain ⟨⟨ha0, ha1, ha2⟩, _⟩ := (HK.out _ hbb).facts) | (go_at_call 15; (with_reducible refine (HRd.out.go _ (HG.out.next hbb)).mono ?_); rintro e w5 ⟨rfl, hb'⟩; have LX := Lib.hid (Lies.new w5 26 #[.bool true, .int .u64 (hi : Int), .int .u64 (lo : Int)]); replace hbb := (next hbb hb').alloc (Nat.le_trans hbb.size hb'.size) (.cells #[.bool true, .int .u64 (hi : Int), .int .u64 (lo : Int)] 26); clear hb') | (go_at_call 27; (with_reducible refine (HOf.out.go _ (HG.out.next hbb)).mono ?_); rintro e w6 ⟨rfl, hb'⟩; replace LX := Lib.hid ((LX.out.next hb').alloc (.cells #[.bool true, .int .u64 (hi : Int), .int .u64 (lo : Int)] 26)); have LY := Lib.hid (Lies.new w6 26 #[.bool true, .int .u64 (hi : Int), .int .u64 (lo : Int)]); replace hbb := (next hbb hb').alloc (Nat.le_trans hbb.size hb'.size) (.cells #[.bool true, .int .u64 (hi : Int), .int .u64 (lo : Int)] 26); clear hb') | (go_at_call 20; (with_reducible refine (HB1.out.go _ (HG.out.next hbb)).mono ?_); rintro e w7 ⟨rfl, hb'⟩; replace LX := Lib.hid ((LX.out.next hb').alloc (.cells #[.bool true, .int .u64 (hi : Int), .int .u64 (lo : Int)] 26)); replace LY := Lib.hid ((LY.out.next hb').alloc (.cells #[.bool true, .int .u64 (hi : Int), .int .u64 (lo : Int)] 26)); have LZ := Lib.hid (Lies.new w7 26 #[.bool true, .int .u64 (hi : Int), .int .u64 (lo : Int)]); replace hbb := (next hbb hb').alloc (Nat.le_trans hbb.size hb'.size) (.cells #[.bool true, .int .u64 (hi : Int), .int .u64 (lo : Int)] 26); clear hb') | (go_at_call 34; (with_reducible refine (HLb.out _).mono ?_); rintro e w8 ⟨g8, c8, base, rfl, hbase, ho8, hb'⟩; obtain ⟨cs8, hL8, hbg, hnc, hcm, hcs8⟩ := own_lies ho8 hRl.out; have HLc := Lib.hid (last_cell hL8 hcs8 hMl.out); obtain ⟨hlc, hlf⟩ := HLc.out; have HRow := Lib.hid (row_last (N := 34) hL8 hcs8 hMl.out rfl hnc hcm ⟨#[65, 82, 80, 65]⟩); have HS : Hid (∀ k, k ≤ base → Below k w8 (w8.setCell ⟨g8, 33, none⟩ (.string ⟨#[65, 82, 80, 65]⟩))) := Lib.hid (fun k hk => (Below.refl k w8).setCell (p := ⟨g8, 33, none⟩) (Nat.le_trans hk hbg) _); replace LX := Lib.hid ((LX.out.next hb').below (HS.out _ (Nat.le_refl _)) (Nat.lt_of_lt_of_le LX.out.lt hbase)); replace LY := Lib.hid ((LY.out.next hb').below (HS.out _ (Nat.le_refl _)) (Nat.lt_of_lt_of_le LY.out.lt hbase)); replace LZ := Lib.hid ((LZ.out.next hb').below (HS.out _ (Nat.le_refl _)) (Nat.lt_of_lt_of_le LZ.out.lt hbase)); have hncI : (34 : Int) ≤ c8 := (by omega); replace hbb := (next hbb hb').trans (HS.out _ (Nat.le_trans hbb.size hbase)); clear hb' ho8 hL8 hcs8 hnc hcm hbg hbase) | (go_at_call 35; (with_reducible refine (HMk.out _ _ HRow.out).mono ?_); rintro e w9 ⟨rfl, hb'⟩; replace LX := Lib.hid (LX.out.next hb'); replace LY := Lib.hid (LY.out.next hb'); replace LZ := Lib.hid (LZ.out.next hb'); replace hbb := next hbb hb'; clear hb') | (go_at_call 20; (with_reducible refine (HB2.out.go _ (HG.out.next hbb)).mono ?_); rintro e w10 ⟨rfl, hb'⟩; replace LX := Lib.hid ((LX.out.next hb').alloc (.cells #[.bool true, .int .u64 (hi : Int), .int .u64 (lo : Int)] 26)); replace LY := Lib.hid ((LY.out.next hb').alloc (.cells #[.bool true, .int .u64 (hi : Int), .int .u64 (lo : Int)] 26)); replace LZ := Lib.hid ((LZ.out.next hb').alloc (.cells #[.bool true, .int .u64 (hi : Int), .int .u64 (lo : Int)] 26)); have LW := Lib.hid (Lies.new w10 26 #[.bool true, .int .u64 (hi : Int), .int .u64 (lo : Int)]); replace hbb := (next hbb hb').alloc (Nat.le_trans hbb.size hb'.size) (.cells #[.bool true, .int .u64 (hi : Int), .int .u64 (lo : Int)] 26); clear hb') | (go_at_call 20; (with_reducible refine (HB3.out.go _ (HG.out.next hbb)).mono ?_); rintro e w11 ⟨rfl, hb'⟩; replace LX := Lib.hid ((LX.out.next hb').alloc (.cells #[.bool false, .int .u64 0, .int .u64 0] 26)); replace LY := Lib.hid ((LY.out.next hb').alloc (.cells #[.bool false, .int .u64 0, .int .u64 0] 26)); replace LZ := Lib.hid ((LZ.out.next hb').alloc (.cells #[.bool false, .int .u64 0, .int .u64 0] 26)); replace LW := Lib.hid ((LW.out.next hb').alloc (.cells #[.bool false, .int .u64 0, .int .u64 0] 26)); replace hbb := (next hbb hb').alloc (Nat.le_trans hbb.size hb'.size) (.cells #[.bool false, .int .u64 0, .int .u64 0] 26); clear hb'; obtain ⟨⟨ha0, ha1, ha2⟩, _⟩ := (HK.out _ hbb).facts; obtain ⟨⟨hx00, hx01, hx02⟩, _⟩ := AdB.facts LX.out; obtain ⟨⟨hx10, hx11, hx12⟩, _⟩ := AdB.facts LY.out; obtain ⟨⟨hx20, hx21, hx22⟩, _⟩ := AdB.facts LZ.out; obtain ⟨⟨hx30, hx31, hx32⟩, _⟩ := AdB.facts LW.out) | fail)
  go_ret
  exact ⟨rfl, next HB0.out hbb⟩
theorem AddrBack_walk (s0 : Bool) (h0 l0 : Nat) (f0 : h0 < 18446744073709551616) (g0 : l0 < 18446744073709551616) (w : World) (hG : Ground w) :
    Calls Tryz.prog 5 #[.agg #[.bool s0, .int .u64 (h0 : Int), .int .u64 (l0 : Int)]] w fun e w' => e = .returned (.bool true) ∧ Below w.heap.size w w' := by
  rcases chkA_cases (s0, h0, l0) with hc | hc
  · cases s0
    · exact adback_false h0 l0 w f0 g0 hG hc
    · exact adback_true h0 l0 w f0 g0 hG hc
  · exact adback_bad s0 h0 l0 w f0 g0 hG hc
end Go.Proofs.YtpaocfjpnajonaaGreatDoor
