/-
  The walk of the law RdataBack. Conditions: the data can be read.
-/
import Derived.Test.YtjollpgkmcinjaaGreatRdMA
import Derived.Test.YtjollpgkmcinjaaGreatPkLives
namespace Go.Proofs.YtjollpgkmcinjaaGreat
open Go.RowKit Go.Maps
set_option linter.unusedVariables false

theorem blk_ltB {w : World} {v : Value} {L : List ByteArray} (h : SRow w v L) : ∀ j, blk v = some j → j < w.heap.size := by
  rcases h with ⟨rfl, _⟩ | ⟨g, off, cap, rfl, h2, _⟩
  · exact fun j hj => nomatch hj
  · intro j hj
    injection hj with hj
    exact hj ▸ h2
/-- What a reading hands back: data, an error. -/
def RdB (w : World) (x : Nat × MD) (e : Ending) (w' : World) : Prop :=
  ∃ A n cap, e = .returned (.tuple #[dataV x.2 (.slice A n cap), .int .i64 (x.1 : Int)]) ∧ SRow w' (.slice A n cap) x.2.L ∧ Below w.heap.size w w'
theorem read_b (S : ByteArray) (a e t : Int) (w : World) (hS : S.size ≤ 1099511627776) (q : Nat × MD) (hq : readD (bs S) a e t = q) :
    Calls Tryz.prog 15 #[.string S, .int .i64 a, .int .i64 e, .int .i64 t] w (RdB w q) := by
  have h := Read_anyD S a e t w hS
  rw [hq] at h
  refine h.mono ?_
  rintro e w' ⟨tv, rfl, h2, ⟨n, cap, A, rfl⟩, _, hb⟩
  exact ⟨A, n, cap, rfl, h2, hb⟩
theorem name_any1 {x : List UInt8} (hx : x.length ≤ 400) : GoodR (nameS 65535 ps0 x).2 ∧ (nameS 65535 ps0 x).2.l.length ≤ 500 := by
  by_cases hc : chkN x = 0
  · have h1 := nam_back goodR0 hc (by show 0 + 255 ≤ _; decide)
    have h2 := uqNam good0 (inv0 (by decide)) hc (by show 0 + 255 ≤ _; decide)
    obtain ⟨y, e, hy⟩ := h2.l
    refine ⟨h1.1, ?_⟩
    rw [e]
    show ([] ++ y).length ≤ 500
    simp
    omega
  · rw [(nameS_bad (s := ps0) rfl hc).1]
    exact ⟨goodR0, Nat.zero_le _⟩
set_option maxHeartbeats 4000000 in
set_option maxRecDepth 100000 in
theorem RdataBack_no (t : Int) (d : MD) (tv : Value) (x : ByteArray) (hx : x.size ≤ maxLen) (w : World) (fd : Fit w d tv) (hc : checkD t d ≠ 0 ∨ 2000 < octD d + sizeT d.L ∨ 400 < x.size) :
    Calls Tryz.prog 3 #[.int .i64 t, dataV d tv, .string x] w fun e w' => e = .returned (.bool true) ∧ Below w.heap.size w w' := by
  obtain ⟨W, hW⟩ : ∃ W, W = w.alloc (.cells (cellsD d tv) 30) := ⟨_, rfl⟩
  have hB : Below w.heap.size w W := by rw [hW]; exact (Below.refl _ w).alloc (Nat.le_refl _) _
  have hL1 : Lies W w.heap.size 30 (cellsD d tv) := by rw [hW]; exact Lies.new w _ _
  have HA := Lib.hid fun w' (hb : Below W.heap.size W w') => lies12 (hL1.next hb)
  have HBw := Lib.hid fun w' (hb : Below W.heap.size W w') => hB.trans (hb.mono hB.size)
  have HLv := Lib.hid lives9
  have HLi : Hid (∀ w', Below W.heap.size W w' → Calls Tryz.prog 7 #[dataV d tv] w' fun e w'' => ∃ b, e = .returned (.bool b) ∧ Below w'.heap.size w' w'' ∧ (checkD t d = 0 → 2000 < octD d + sizeT d.L → b = false)) := Lib.hid fun w' hb => by
    by_cases h0 : checkD t d = 0
    · have hal : allK (kindK t) d = 0 := by
        unfold checkD at h0
        split at h0
        · exact h0
        · cases h0
      refine (Light_small d tv w' ((fd.next hB).next hb) (small_all hal).1).mono ?_
      rintro e w'' ⟨rfl, h2⟩
      exact ⟨_, rfl, h2, fun _ h => by simp; omega⟩
    · refine (Light_any d tv w' ((fd.next hB).next hb)).mono ?_
      rintro e w'' ⟨b, rfl, h2⟩
      exact ⟨b, rfl, h2, fun h => absurd h h0⟩
  have HCk := Lib.hid fun w' (hb : Below W.heap.size W w') => Check_anyD t d tv w' ((fd.next hB).next hb)
  obtain ⟨A, ca, hta, _, _⟩ := fd.row.shape
  obtain ⟨na, hta⟩ : ∃ n, tv = Value.slice A n ca := ⟨_, hta⟩
  obtain ⟨ck, hck⟩ : ∃ q, checkD t d = q := ⟨_, rfl⟩
  rw [hck] at HCk HLi hc
  obtain ⟨big, hbig⟩ : ∃ q : Prop, (2000 < octD d + sizeT d.L) = q := ⟨_, rfl⟩
  rw [hbig] at HLi hc
  clear fd hL1 hB hck hbig
  subst hta
  unfold dataV cellsD at *
  go_enter Tryz.func3, Tryz.ntmps3
  go_wp2_with fail
  rw [← hW]
  refine (HLv.out _).mono ?_
  rintro e w1 ⟨rfl, hb1⟩
  obtain ⟨x0, x1, x2, x3, x4, x5, x6, x7, x8, x9, x10, x11⟩ := HA.out w1 hb1
  have HB1 := Lib.hid hb1
  clear hb1
  go_wp2_with fail
  refine (HLi.out _ HB1.out).mono ?_
  rintro e w2 ⟨la, rfl, hb, hfa⟩
  have HB2 := Lib.hid (HB1.out.trans (hb.mono HB1.out.size))
  clear hb x0 x1 x2 x3 x4 x5 x6 x7 x8 x9 x10 x11
  cases la
  · go_wp2
    go_ret
    exact ⟨rfl, HBw.out _ HB2.out⟩
  · obtain ⟨x0, x1, x2, x3, x4, x5, x6, x7, x8, x9, x10, x11⟩ := HA.out w2 HB2.out
    by_cases h400 : 400 < x.size
    · have h4 : decide ((400 : Int) < (x.size : Int)) = true := by simpa using (by omega : (400 : Int) < x.size)
      go_wp2
      go_ret
      exact ⟨rfl, HBw.out _ HB2.out⟩
    · have h4 : decide ((400 : Int) < (x.size : Int)) = false := by simpa using (by omega : (x.size : Int) ≤ 400)
      have hne : ck ≠ 0 := by
        rcases hc with h | h | h
        · exact h
        · intro h0
          have := hfa h0 h
          cases this
        · exact absurd h h400
      have n1 : (((ck : Nat) : Int) != 0) = true := by rw [bne_iff_ne]; omega
      have n1' : (((ck : Nat) : Int) == 0) = false := by rw [beq_eq_false_iff_ne]; omega
      clear hc hfa
      go_wp2_with (go_at_call 8; (with_reducible refine (HCk.out _ HB2.out).mono ?_); rintro e w3 ⟨rfl, hb⟩; have HB3 := Lib.hid (HB2.out.trans (hb.mono HB2.out.size)); clear hb)
      go_ret
      exact ⟨rfl, HBw.out _ HB3.out⟩
set_option maxHeartbeats 8000000 in
set_option maxRecDepth 100000 in
theorem RdataBack_told (t : Int) (d : MD) (tv : Value) (x : ByteArray) (ht : -9223372036854775808 ≤ t ∧ t ≤ 9223372036854775807) (hx : x.size ≤ maxLen) (w : World) (fd : Fit w d tv) (hck : checkD t d = 0) (hT : octD d + sizeT d.L ≤ 2000) (h400 : x.size ≤ 400)
    (kn : (table t).isSome = true) (h16 : t ≠ 16) :
    Calls Tryz.prog 3 #[.int .i64 t, dataV d tv, .string x] w fun e w' => e = .returned (.bool true) ∧ Below w.heap.size w w' := by
  obtain ⟨W, hW⟩ : ∃ W, W = w.alloc (.cells (cellsD d tv) 30) := ⟨_, rfl⟩
  have hB : Below w.heap.size w W := by rw [hW]; exact (Below.refl _ w).alloc (Nat.le_refl _) _
  have hL1 : Lies W w.heap.size 30 (cellsD d tv) := by rw [hW]; exact Lies.new w _ _
  have hit : isT t = true ∧ allK (kindK t) d = 0 := by
    unfold checkD at hck
    split at hck
    · rename_i h; exact ⟨h, hck⟩
    · cases hck
  obtain ⟨hsm1, hsm2⟩ := small_all hit.2
  obtain ⟨hg, h500⟩ := name_any1 (x := bs x) (by rw [bs_length]; exact h400)
  obtain ⟨p1, hp1⟩ : ∃ q, nameS 65535 ps0 (bs x) = q := ⟨_, rfl⟩
  rw [hp1] at hg h500
  obtain ⟨s1, hs1⟩ : ∃ q, p1.2 = q := ⟨_, rfl⟩
  rw [hs1] at hg h500
  have hbk := back_any hit.1 hit.2 ⟨fd.hi, fd.lo⟩ hg h500 (by omega)
  have HA := Lib.hid fun w' (hb : Below W.heap.size W w') => lies12 (hL1.next hb)
  have HBw := Lib.hid fun w' (hb : Below W.heap.size W w') => hB.trans (hb.mono hB.size)
  have HLv := Lib.hid lives9
  have HLi : Hid (∀ w', Below W.heap.size W w' → Calls Tryz.prog 7 #[dataV d tv] w' (Told w' (.bool true))) := Lib.hid fun w' hb => by
    have h := Light_small d tv w' ((fd.next hB).next hb) hsm1
    rw [decide_eq_true (by omega)] at h
    exact h
  have HCk : Hid (∀ w', Below W.heap.size W w' → Calls Tryz.prog 8 #[.int .i64 t, dataV d tv] w' (Told w' (.int .i64 0))) := Lib.hid fun w' hb => by
    have h := Check_anyD t d tv w' ((fd.next hB).next hb)
    rw [hck] at h
    exact h
  have HNew : Hid (∀ wx, Calls Tryz.prog 9 #[.int .i64 65535] wx (NewP wx 65535)) := Lib.hid fun wx => pNew_any 65535 wx (by decide)
  have HNm : Hid (∀ wx b F g, PK wx b F g 65535 ps0 → Calls Tryz.prog 10 #[pp g, .string x] wx (Pkr wx b F g 65535 s1 (.int .i64 p1.1))) := Lib.hid fun wx b F g hp => by
    have h := pName_any hp x hx
    rw [hp1, hs1] at h
    exact h
  obtain ⟨q, hq⟩ : ∃ q, putD 65535 t d s1 = q := ⟨_, rfl⟩
  have HPt := Lib.hid fun wx b F g (hp : PK wx b F g 65535 s1) (hle : W.heap.size ≤ b) (hb : Below W.heap.size W wx) => Put_anyD t d tv wx hp (by rw [hg.good.f]; decide) ((fd.next hB).next hb) (fun j hj => Nat.lt_of_lt_of_le (blk_ltB (fd.next hB).row j hj) hle)
  rw [hq] at HPt hbk
  obtain ⟨qe, s2⟩ := q
  obtain ⟨ok, ne, ⟨y, hy, hyl, hy3⟩, back, more, raw, less⟩ := hbk
  simp only at ok ne hy back more raw less HPt
  subst ok
  have HPut : Hid (∀ wx b F g, PK wx b F g 65535 s1 → W.heap.size ≤ b → Below W.heap.size W wx → Calls Tryz.prog 12 #[pp g, .int .i64 t, dataV d tv] wx (Pkr wx b F g 65535 s2 (.int .i64 0))) := Lib.hid fun wx b F g h1 h2 h3 => HPt.out wx b F g h1 h2 h3
  clear HPt
  obtain ⟨sz, hsz⟩ : ∃ q, sizeD t d = q := ⟨_, rfl⟩
  have HSz := Lib.hid fun w' (hb : Below W.heap.size W w') => Size_anyD t d tv w' ((fd.next hB).next hb)
  rw [hsz] at HSz hyl
  have hlen := congrArg List.length hy
  rw [List.length_append] at hlen
  have HLen1 : Hid (∀ wx b F g, PK wx b F g 65535 s1 → Calls Tryz.prog 11 #[pp g] wx fun e w' => e = .returned (.int .i64 (s1.l.length : Int)) ∧ wx = w') := Lib.hid fun wx b F g hp => pLen_any hp
  have HLen2 : Hid (∀ wx b F g, PK wx b F g 65535 s2 → Calls Tryz.prog 11 #[pp g] wx fun e w' => e = .returned (.int .i64 (s2.l.length : Int)) ∧ wx = w') := Lib.hid fun wx b F g hp => pLen_any hp
  obtain ⟨TX, hTX⟩ : ∃ T : ByteArray, T = ⟨s2.l.toArray⟩ := ⟨_, rfl⟩
  have hTb : bs TX = s2.l := by rw [hTX]; exact bs_mk _
  have HTx : Hid (∀ wx b F g, PK wx b F g 65535 s2 → Calls Tryz.prog 14 #[pp g] wx fun e w' => e = .returned (.string TX) ∧ wx = w') := Lib.hid fun wx b F g hp => by
    rw [hTX]
    exact pText_any hp
  have hSb : bs (TX ++ ⟨#[0]⟩) = s2.l ++ [0] := by rw [bs_append, hTb]; rfl
  have hTs : TX.size = s2.l.length := by rw [← bs_length, hTb]
  have hSs : (TX ++ (⟨#[0]⟩ : ByteArray)).size ≤ 1099511627776 := by rw [← bs_length, hSb, List.length_append]; simp; omega
  obtain ⟨n1, hn1⟩ : ∃ n, s1.l.length = n := ⟨_, rfl⟩
  obtain ⟨n2, hn2⟩ : ∃ n, s2.l.length = n := ⟨_, rfl⟩
  rw [hn1] at HLen1 hlen back more raw less ne h500
  rw [hn2] at HLen2 hlen back more raw less hTs ne
  rw [← hSb] at back more raw less
  obtain ⟨⟨f1, d1⟩, hf1⟩ : ∃ q, readD (bs (TX ++ ⟨#[0]⟩)) n1 (n2 + 1 : Nat) t = q := ⟨_, rfl⟩
  obtain ⟨⟨g1, d2⟩, hg1⟩ : ∃ q, readD (bs (TX ++ ⟨#[0]⟩)) n1 (n2 - 1 : Nat) t = q := ⟨_, rfl⟩
  have HR1 := Lib.hid fun wx => read_b (TX ++ ⟨#[0]⟩) (n1 : Int) (n2 : Int) t wx hSs (0, d) back
  have HR2 : Hid (∀ wx, Calls Tryz.prog 15 #[.string (TX ++ ⟨#[0]⟩), .int .i64 (n1 : Int), .int .i64 ((n2 : Int) + 1), .int .i64 t] wx (RdB wx (f1, d1))) := Lib.hid fun wx => read_b (TX ++ ⟨#[0]⟩) (n1 : Int) ((n2 : Int) + 1) t wx hSs (f1, d1) (by rw [← hf1]; rfl)
  rw [hf1] at more raw
  have HKn := Lib.hid fun wx => Known_any t wx ht
  have HSm : Hid (∀ wx tv', Fit wx d tv' → Below W.heap.size W wx → Calls Tryz.prog 16 #[dataV d tv', dataV d tv] wx (Told wx (.bool true))) := Lib.hid fun wx tv' hfx hb => by
    have h := Same_any d d tv' tv wx hfx ((fd.next hB).next hb)
    rw [(sameD_iff d d).2 rfl] at h
    exact h
  have HFx : Hid (∀ wx tv', Below W.heap.size W wx → SRow wx tv' d.L → Fit wx d tv') := Lib.hid fun wx tv' hb hr => { (fd.next hB).next hb with row := hr }
  have hq0 : ¬ 9223372036854775807 < TX.size + 1 := by omega
  have hq1 : decide ((sz : Int) < (n2 : Int) - (n1 : Int)) = false := by simp; omega
  have hx4 : decide ((400 : Int) < (x.size : Int)) = false := by simpa using (by omega : (x.size : Int) ≤ 400)
  have hlt := ne kn
  have HR3 : Hid (∀ wx, Calls Tryz.prog 15 #[.string (TX ++ ⟨#[0]⟩), .int .i64 (n1 : Int), .int .i64 ((n2 : Int) - 1), .int .i64 t] wx (RdB wx (g1, d2))) := Lib.hid fun wx => read_b (TX ++ ⟨#[0]⟩) (n1 : Int) ((n2 : Int) - 1) t wx hSs (g1, d2) (by rw [← hg1, show ((n2 : Int) - 1) = ((n2 - 1 : Nat) : Int) from by omega])
  rw [kn] at HKn
  have hm1 : ((n2 : Int) == (n1 : Int)) = false := by rw [beq_eq_false_iff_ne]; omega
  have hm2 : ¬ n2 = n1 := by omega
  rw [hg1] at less
  have hf4 : f1 = 4 := more kn h16
  subst hf4
  have hgn : g1 ≠ 0 := less kn h16 hlt
  have hgn1 : (((g1 : Nat) : Int) != 0) = true := by rw [bne_iff_ne]; omega
  have hgn2 : (((g1 : Nat) : Int) == 0) = false := by rw [beq_eq_false_iff_ne]; omega
  have ht41 : (t == 41) = false := by rw [beq_eq_false_iff_ne]; intro h; rw [h] at kn; cases kn
  have ht16 : (t == 16) = false := by rw [beq_eq_false_iff_ne]; exact h16
  have ht16' : (t != 16) = true := by rw [bne_iff_ne]; exact h16
  obtain ⟨A, ca, hta, _, _⟩ := fd.row.shape
  obtain ⟨na, hta⟩ : ∃ n, tv = Value.slice A n ca := ⟨_, hta⟩
  clear hlen hyl hy3 ne
  clear fd hL1 hB hck hit hsm1 hsm2 hg hp1 hs1 hq back more raw less hsz hTX hTb hSb hf1 hn1 hn2 hT hy hSs
  subst hta
  unfold dataV cellsD at *
  go_enter Tryz.func3, Tryz.ntmps3
  go_wp2_with fail
  rw [← hW]
  refine (HLv.out _).mono ?_
  rintro e w1 ⟨rfl, hb1⟩
  obtain ⟨x0, x1, x2, x3, x4, x5, x6, x7, x8, x9, x10, x11⟩ := HA.out w1 hb1
  have HB1 := Lib.hid hb1
  clear hb1
  go_wp2_with fail
  refine (HLi.out _ HB1.out).mono ?_
  rintro e w2 ⟨rfl, hb⟩
  have HB2 := Lib.hid (HB1.out.trans (hb.mono HB1.out.size))
  clear hb x0 x1 x2 x3 x4 x5 x6 x7 x8 x9 x10 x11
  obtain ⟨x0, x1, x2, x3, x4, x5, x6, x7, x8, x9, x10, x11⟩ := HA.out w2 HB2.out
  go_wp2_with fail
  refine (HCk.out _ HB2.out).mono ?_
  rintro e w3 ⟨rfl, hb⟩
  have HB3 := Lib.hid (HB2.out.trans (hb.mono HB2.out.size))
  clear hb x0 x1 x2 x3 x4 x5 x6 x7 x8 x9 x10 x11
  go_wp2_with fail
  refine (HNew.out _).mono ?_
  rintro e w4 ⟨g, F, rfl, hp4, hb⟩
  have HB4 := Lib.hid (HB3.out.trans (hb.mono HB3.out.size))
  have hz := HB3.out.size
  have HP4 := Lib.hid hp4
  clear hb hp4
  go_wp2_with fail
  refine (HNm.out _ _ _ _ HP4.out).mono ?_
  rintro e w5 ⟨rfl, F5, hp5, hk5⟩
  have HP5 := Lib.hid hp5
  have HB5 := Lib.hid (HB4.out.trans (hk5.below.mono hz))
  clear hp5 hk5
  go_wp2_with fail
  refine (HLen1.out _ _ _ _ HP5.out).mono ?_
  rintro e w5' ⟨rfl, rfl⟩
  obtain ⟨x0, x1, x2, x3, x4, x5, x6, x7, x8, x9, x10, x11⟩ := HA.out w5 HB5.out
  go_wp2_with fail
  refine (HPut.out _ _ _ _ HP5.out hz HB5.out).mono ?_
  rintro e w6 ⟨rfl, F6, hp6, hk6⟩
  have HP6 := Lib.hid hp6
  have HB6 := Lib.hid (HB5.out.trans (hk6.below.mono hz))
  clear hp6 hk6 x0 x1 x2 x3 x4 x5 x6 x7 x8 x9 x10 x11
  go_wp2_with fail
  refine (HLen2.out _ _ _ _ HP6.out).mono ?_
  rintro e w6' ⟨rfl, rfl⟩
  obtain ⟨x0, x1, x2, x3, x4, x5, x6, x7, x8, x9, x10, x11⟩ := HA.out w6 HB6.out
  go_wp2_with fail
  refine (HSz.out _ HB6.out).mono ?_
  rintro e w7 ⟨rfl, hb⟩
  have HB7 := Lib.hid (HB6.out.trans (hb.mono HB6.out.size))
  have HP7 := Lib.hid (HP6.out.next hb)
  clear hb x0 x1 x2 x3 x4 x5 x6 x7 x8 x9 x10 x11
  go_wp2_with fail
  refine (HTx.out _ _ _ _ HP7.out).mono ?_
  rintro e w7' ⟨rfl, rfl⟩
  go_wp2_with fail
  refine (HR1.out _).mono ?_
  rintro e w8 ⟨A8, n8, c8, rfl, hr8, hb⟩
  obtain ⟨W8, hW8⟩ : ∃ W8, W8 = w8.alloc (.cells #[.bool d.six, .int .u64 (d.hi : Int), .int .u64 (d.lo : Int), .string d.n, .string d.m, .int .u32 (d.v0 : Int), .int .u32 (d.v1 : Int), .int .u32 (d.v2 : Int), .int .u32 (d.v3 : Int), .int .u32 (d.v4 : Int), .slice A8 n8 c8, .string d.r] 30) := ⟨_, rfl⟩
  have HB8 := Lib.hid (show Below W.heap.size W W8 from by rw [hW8]; exact (HB7.out.trans (hb.mono HB7.out.size)).alloc (Nat.le_trans HB7.out.size hb.size) _)
  have HF8 := Lib.hid (show Fit W8 d (.slice A8 n8 c8) from HFx.out _ _ HB8.out (by rw [hW8]; exact hr8.next ((Below.refl _ w8).alloc (Nat.le_refl _) _)))
  obtain ⟨y0, y1, y2, y3, y4, y5, y6, y7, y8, y9, y10, y11⟩ := lies12 (show Lies W8 w8.heap.size 30 (cellsD d (.slice A8 n8 c8)) from by rw [hW8]; exact Lies.new w8 _ _)
  obtain ⟨x0, x1, x2, x3, x4, x5, x6, x7, x8, x9, x10, x11⟩ := HA.out _ HB8.out
  clear hb hr8
  go_upto_region 15 with (fail)
  rw [← hW8]
  clear hW8
  go_wp2_with fail
  refine (HSm.out _ _ HF8.out HB8.out).mono ?_
  rintro e w9 ⟨rfl, hb⟩
  have HB9 := Lib.hid (HB8.out.trans (hb.mono HB8.out.size))
  clear hb x0 x1 x2 x3 x4 x5 x6 x7 x8 x9 x10 x11 y0 y1 y2 y3 y4 y5 y6 y7 y8 y9 y10 y11
  go_wp2_with fail
  refine (HR2.out _).mono ?_
  rintro e w10 ⟨A10, n10, c10, rfl, _, hb⟩
  have HB10 := Lib.hid ((HB9.out.trans (hb.mono HB9.out.size)).alloc (Nat.le_trans HB9.out.size hb.size) (.cells #[.bool d1.six, .int .u64 (d1.hi : Int), .int .u64 (d1.lo : Int), .string d1.n, .string d1.m, .int .u32 (d1.v0 : Int), .int .u32 (d1.v1 : Int), .int .u32 (d1.v2 : Int), .int .u32 (d1.v3 : Int), .int .u32 (d1.v4 : Int), .slice A10 n10 c10, .string d1.r] 30))
  clear hb
  go_wp2_with fail
  refine (HKn.out _).mono ?_
  rintro e w11 ⟨rfl, hb⟩
  have HB11 := Lib.hid (HB10.out.trans (hb.mono HB10.out.size))
  clear hb
  go_wp2_with fail
  refine (HR3.out _).mono ?_
  rintro e w12 ⟨A12, n12, c12, rfl, _, hb⟩
  have HB12 := Lib.hid ((HB11.out.trans (hb.mono HB11.out.size)).alloc (Nat.le_trans HB11.out.size hb.size) (.cells #[.bool d2.six, .int .u64 (d2.hi : Int), .int .u64 (d2.lo : Int), .string d2.n, .string d2.m, .int .u32 (d2.v0 : Int), .int .u32 (d2.v1 : Int), .int .u32 (d2.v2 : Int), .int .u32 (d2.v3 : Int), .int .u32 (d2.v4 : Int), .slice A12 n12 c12, .string d2.r] 30))
  clear hb
  go_wp2
  go_ret
  exact ⟨rfl, HBw.out _ HB12.out⟩
set_option maxHeartbeats 8000000 in
set_option maxRecDepth 100000 in
theorem RdataBack_texts (t : Int) (d : MD) (tv : Value) (x : ByteArray) (ht : -9223372036854775808 ≤ t ∧ t ≤ 9223372036854775807) (hx : x.size ≤ maxLen) (w : World) (fd : Fit w d tv) (hck : checkD t d = 0) (hT : octD d + sizeT d.L ≤ 2000) (h400 : x.size ≤ 400)
    (kn : (table t).isSome = true) (h16 : t = 16) :
    Calls Tryz.prog 3 #[.int .i64 t, dataV d tv, .string x] w fun e w' => e = .returned (.bool true) ∧ Below w.heap.size w w' := by
  obtain ⟨W, hW⟩ : ∃ W, W = w.alloc (.cells (cellsD d tv) 30) := ⟨_, rfl⟩
  have hB : Below w.heap.size w W := by rw [hW]; exact (Below.refl _ w).alloc (Nat.le_refl _) _
  have hL1 : Lies W w.heap.size 30 (cellsD d tv) := by rw [hW]; exact Lies.new w _ _
  have hit : isT t = true ∧ allK (kindK t) d = 0 := by
    unfold checkD at hck
    split at hck
    · rename_i h; exact ⟨h, hck⟩
    · cases hck
  obtain ⟨hsm1, hsm2⟩ := small_all hit.2
  obtain ⟨hg, h500⟩ := name_any1 (x := bs x) (by rw [bs_length]; exact h400)
  obtain ⟨p1, hp1⟩ : ∃ q, nameS 65535 ps0 (bs x) = q := ⟨_, rfl⟩
  rw [hp1] at hg h500
  obtain ⟨s1, hs1⟩ : ∃ q, p1.2 = q := ⟨_, rfl⟩
  rw [hs1] at hg h500
  have hbk := back_any hit.1 hit.2 ⟨fd.hi, fd.lo⟩ hg h500 (by omega)
  have HA := Lib.hid fun w' (hb : Below W.heap.size W w') => lies12 (hL1.next hb)
  have HBw := Lib.hid fun w' (hb : Below W.heap.size W w') => hB.trans (hb.mono hB.size)
  have HLv := Lib.hid lives9
  have HLi : Hid (∀ w', Below W.heap.size W w' → Calls Tryz.prog 7 #[dataV d tv] w' (Told w' (.bool true))) := Lib.hid fun w' hb => by
    have h := Light_small d tv w' ((fd.next hB).next hb) hsm1
    rw [decide_eq_true (by omega)] at h
    exact h
  have HCk : Hid (∀ w', Below W.heap.size W w' → Calls Tryz.prog 8 #[.int .i64 t, dataV d tv] w' (Told w' (.int .i64 0))) := Lib.hid fun w' hb => by
    have h := Check_anyD t d tv w' ((fd.next hB).next hb)
    rw [hck] at h
    exact h
  have HNew : Hid (∀ wx, Calls Tryz.prog 9 #[.int .i64 65535] wx (NewP wx 65535)) := Lib.hid fun wx => pNew_any 65535 wx (by decide)
  have HNm : Hid (∀ wx b F g, PK wx b F g 65535 ps0 → Calls Tryz.prog 10 #[pp g, .string x] wx (Pkr wx b F g 65535 s1 (.int .i64 p1.1))) := Lib.hid fun wx b F g hp => by
    have h := pName_any hp x hx
    rw [hp1, hs1] at h
    exact h
  obtain ⟨q, hq⟩ : ∃ q, putD 65535 t d s1 = q := ⟨_, rfl⟩
  have HPt := Lib.hid fun wx b F g (hp : PK wx b F g 65535 s1) (hle : W.heap.size ≤ b) (hb : Below W.heap.size W wx) => Put_anyD t d tv wx hp (by rw [hg.good.f]; decide) ((fd.next hB).next hb) (fun j hj => Nat.lt_of_lt_of_le (blk_ltB (fd.next hB).row j hj) hle)
  rw [hq] at HPt hbk
  obtain ⟨qe, s2⟩ := q
  obtain ⟨ok, ne, ⟨y, hy, hyl, hy3⟩, back, more, raw, less⟩ := hbk
  simp only at ok ne hy back more raw less HPt
  subst ok
  have HPut : Hid (∀ wx b F g, PK wx b F g 65535 s1 → W.heap.size ≤ b → Below W.heap.size W wx → Calls Tryz.prog 12 #[pp g, .int .i64 t, dataV d tv] wx (Pkr wx b F g 65535 s2 (.int .i64 0))) := Lib.hid fun wx b F g h1 h2 h3 => HPt.out wx b F g h1 h2 h3
  clear HPt
  obtain ⟨sz, hsz⟩ : ∃ q, sizeD t d = q := ⟨_, rfl⟩
  have HSz := Lib.hid fun w' (hb : Below W.heap.size W w') => Size_anyD t d tv w' ((fd.next hB).next hb)
  rw [hsz] at HSz hyl
  have hlen := congrArg List.length hy
  rw [List.length_append] at hlen
  have HLen1 : Hid (∀ wx b F g, PK wx b F g 65535 s1 → Calls Tryz.prog 11 #[pp g] wx fun e w' => e = .returned (.int .i64 (s1.l.length : Int)) ∧ wx = w') := Lib.hid fun wx b F g hp => pLen_any hp
  have HLen2 : Hid (∀ wx b F g, PK wx b F g 65535 s2 → Calls Tryz.prog 11 #[pp g] wx fun e w' => e = .returned (.int .i64 (s2.l.length : Int)) ∧ wx = w') := Lib.hid fun wx b F g hp => pLen_any hp
  obtain ⟨TX, hTX⟩ : ∃ T : ByteArray, T = ⟨s2.l.toArray⟩ := ⟨_, rfl⟩
  have hTb : bs TX = s2.l := by rw [hTX]; exact bs_mk _
  have HTx : Hid (∀ wx b F g, PK wx b F g 65535 s2 → Calls Tryz.prog 14 #[pp g] wx fun e w' => e = .returned (.string TX) ∧ wx = w') := Lib.hid fun wx b F g hp => by
    rw [hTX]
    exact pText_any hp
  have hSb : bs (TX ++ ⟨#[0]⟩) = s2.l ++ [0] := by rw [bs_append, hTb]; rfl
  have hTs : TX.size = s2.l.length := by rw [← bs_length, hTb]
  have hSs : (TX ++ (⟨#[0]⟩ : ByteArray)).size ≤ 1099511627776 := by rw [← bs_length, hSb, List.length_append]; simp; omega
  obtain ⟨n1, hn1⟩ : ∃ n, s1.l.length = n := ⟨_, rfl⟩
  obtain ⟨n2, hn2⟩ : ∃ n, s2.l.length = n := ⟨_, rfl⟩
  rw [hn1] at HLen1 hlen back more raw less ne h500
  rw [hn2] at HLen2 hlen back more raw less hTs ne
  rw [← hSb] at back more raw less
  obtain ⟨⟨f1, d1⟩, hf1⟩ : ∃ q, readD (bs (TX ++ ⟨#[0]⟩)) n1 (n2 + 1 : Nat) t = q := ⟨_, rfl⟩
  obtain ⟨⟨g1, d2⟩, hg1⟩ : ∃ q, readD (bs (TX ++ ⟨#[0]⟩)) n1 (n2 - 1 : Nat) t = q := ⟨_, rfl⟩
  have HR1 := Lib.hid fun wx => read_b (TX ++ ⟨#[0]⟩) (n1 : Int) (n2 : Int) t wx hSs (0, d) back
  have HR2 : Hid (∀ wx, Calls Tryz.prog 15 #[.string (TX ++ ⟨#[0]⟩), .int .i64 (n1 : Int), .int .i64 ((n2 : Int) + 1), .int .i64 t] wx (RdB wx (f1, d1))) := Lib.hid fun wx => read_b (TX ++ ⟨#[0]⟩) (n1 : Int) ((n2 : Int) + 1) t wx hSs (f1, d1) (by rw [← hf1]; rfl)
  rw [hf1] at more raw
  have HKn := Lib.hid fun wx => Known_any t wx ht
  have HSm : Hid (∀ wx tv', Fit wx d tv' → Below W.heap.size W wx → Calls Tryz.prog 16 #[dataV d tv', dataV d tv] wx (Told wx (.bool true))) := Lib.hid fun wx tv' hfx hb => by
    have h := Same_any d d tv' tv wx hfx ((fd.next hB).next hb)
    rw [(sameD_iff d d).2 rfl] at h
    exact h
  have HFx : Hid (∀ wx tv', Below W.heap.size W wx → SRow wx tv' d.L → Fit wx d tv') := Lib.hid fun wx tv' hb hr => { (fd.next hB).next hb with row := hr }
  have hq0 : ¬ 9223372036854775807 < TX.size + 1 := by omega
  have hq1 : decide ((sz : Int) < (n2 : Int) - (n1 : Int)) = false := by simp; omega
  have hx4 : decide ((400 : Int) < (x.size : Int)) = false := by simpa using (by omega : (x.size : Int) ≤ 400)
  have hlt := ne kn
  have HR3 : Hid (∀ wx, Calls Tryz.prog 15 #[.string (TX ++ ⟨#[0]⟩), .int .i64 (n1 : Int), .int .i64 ((n2 : Int) - 1), .int .i64 t] wx (RdB wx (g1, d2))) := Lib.hid fun wx => read_b (TX ++ ⟨#[0]⟩) (n1 : Int) ((n2 : Int) - 1) t wx hSs (g1, d2) (by rw [← hg1, show ((n2 : Int) - 1) = ((n2 - 1 : Nat) : Int) from by omega])
  rw [kn] at HKn
  have hm1 : ((n2 : Int) == (n1 : Int)) = false := by rw [beq_eq_false_iff_ne]; omega
  have hm2 : ¬ n2 = n1 := by omega
  clear hg1
  subst h16
  obtain ⟨A, ca, hta, _, _⟩ := fd.row.shape
  obtain ⟨na, hta⟩ : ∃ n, tv = Value.slice A n ca := ⟨_, hta⟩
  clear hlen hyl hy3 ne
  clear fd hL1 hB hck hit hsm1 hsm2 hg hp1 hs1 hq back more raw less hsz hTX hTb hSb hf1 hn1 hn2 hT hy hSs
  subst hta
  unfold dataV cellsD at *
  go_enter Tryz.func3, Tryz.ntmps3
  go_wp2_with fail
  rw [← hW]
  refine (HLv.out _).mono ?_
  rintro e w1 ⟨rfl, hb1⟩
  obtain ⟨x0, x1, x2, x3, x4, x5, x6, x7, x8, x9, x10, x11⟩ := HA.out w1 hb1
  have HB1 := Lib.hid hb1
  clear hb1
  go_wp2_with fail
  refine (HLi.out _ HB1.out).mono ?_
  rintro e w2 ⟨rfl, hb⟩
  have HB2 := Lib.hid (HB1.out.trans (hb.mono HB1.out.size))
  clear hb x0 x1 x2 x3 x4 x5 x6 x7 x8 x9 x10 x11
  obtain ⟨x0, x1, x2, x3, x4, x5, x6, x7, x8, x9, x10, x11⟩ := HA.out w2 HB2.out
  go_wp2_with fail
  refine (HCk.out _ HB2.out).mono ?_
  rintro e w3 ⟨rfl, hb⟩
  have HB3 := Lib.hid (HB2.out.trans (hb.mono HB2.out.size))
  clear hb x0 x1 x2 x3 x4 x5 x6 x7 x8 x9 x10 x11
  go_wp2_with fail
  refine (HNew.out _).mono ?_
  rintro e w4 ⟨g, F, rfl, hp4, hb⟩
  have HB4 := Lib.hid (HB3.out.trans (hb.mono HB3.out.size))
  have hz := HB3.out.size
  have HP4 := Lib.hid hp4
  clear hb hp4
  go_wp2_with fail
  refine (HNm.out _ _ _ _ HP4.out).mono ?_
  rintro e w5 ⟨rfl, F5, hp5, hk5⟩
  have HP5 := Lib.hid hp5
  have HB5 := Lib.hid (HB4.out.trans (hk5.below.mono hz))
  clear hp5 hk5
  go_wp2_with fail
  refine (HLen1.out _ _ _ _ HP5.out).mono ?_
  rintro e w5' ⟨rfl, rfl⟩
  obtain ⟨x0, x1, x2, x3, x4, x5, x6, x7, x8, x9, x10, x11⟩ := HA.out w5 HB5.out
  go_wp2_with fail
  refine (HPut.out _ _ _ _ HP5.out hz HB5.out).mono ?_
  rintro e w6 ⟨rfl, F6, hp6, hk6⟩
  have HP6 := Lib.hid hp6
  have HB6 := Lib.hid (HB5.out.trans (hk6.below.mono hz))
  clear hp6 hk6 x0 x1 x2 x3 x4 x5 x6 x7 x8 x9 x10 x11
  go_wp2_with fail
  refine (HLen2.out _ _ _ _ HP6.out).mono ?_
  rintro e w6' ⟨rfl, rfl⟩
  obtain ⟨x0, x1, x2, x3, x4, x5, x6, x7, x8, x9, x10, x11⟩ := HA.out w6 HB6.out
  go_wp2_with fail
  refine (HSz.out _ HB6.out).mono ?_
  rintro e w7 ⟨rfl, hb⟩
  have HB7 := Lib.hid (HB6.out.trans (hb.mono HB6.out.size))
  have HP7 := Lib.hid (HP6.out.next hb)
  clear hb x0 x1 x2 x3 x4 x5 x6 x7 x8 x9 x10 x11
  go_wp2_with fail
  refine (HTx.out _ _ _ _ HP7.out).mono ?_
  rintro e w7' ⟨rfl, rfl⟩
  go_wp2_with fail
  refine (HR1.out _).mono ?_
  rintro e w8 ⟨A8, n8, c8, rfl, hr8, hb⟩
  obtain ⟨W8, hW8⟩ : ∃ W8, W8 = w8.alloc (.cells #[.bool d.six, .int .u64 (d.hi : Int), .int .u64 (d.lo : Int), .string d.n, .string d.m, .int .u32 (d.v0 : Int), .int .u32 (d.v1 : Int), .int .u32 (d.v2 : Int), .int .u32 (d.v3 : Int), .int .u32 (d.v4 : Int), .slice A8 n8 c8, .string d.r] 30) := ⟨_, rfl⟩
  have HB8 := Lib.hid (show Below W.heap.size W W8 from by rw [hW8]; exact (HB7.out.trans (hb.mono HB7.out.size)).alloc (Nat.le_trans HB7.out.size hb.size) _)
  have HF8 := Lib.hid (show Fit W8 d (.slice A8 n8 c8) from HFx.out _ _ HB8.out (by rw [hW8]; exact hr8.next ((Below.refl _ w8).alloc (Nat.le_refl _) _)))
  obtain ⟨y0, y1, y2, y3, y4, y5, y6, y7, y8, y9, y10, y11⟩ := lies12 (show Lies W8 w8.heap.size 30 (cellsD d (.slice A8 n8 c8)) from by rw [hW8]; exact Lies.new w8 _ _)
  obtain ⟨x0, x1, x2, x3, x4, x5, x6, x7, x8, x9, x10, x11⟩ := HA.out _ HB8.out
  clear hb hr8
  go_upto_region 15 with (fail)
  rw [← hW8]
  clear hW8
  go_wp2_with fail
  refine (HSm.out _ _ HF8.out HB8.out).mono ?_
  rintro e w9 ⟨rfl, hb⟩
  have HB9 := Lib.hid (HB8.out.trans (hb.mono HB8.out.size))
  clear hb x0 x1 x2 x3 x4 x5 x6 x7 x8 x9 x10 x11 y0 y1 y2 y3 y4 y5 y6 y7 y8 y9 y10 y11
  go_wp2_with fail
  refine (HR2.out _).mono ?_
  rintro e w10 ⟨A10, n10, c10, rfl, _, hb⟩
  have HB10 := Lib.hid ((HB9.out.trans (hb.mono HB9.out.size)).alloc (Nat.le_trans HB9.out.size hb.size) (.cells #[.bool d1.six, .int .u64 (d1.hi : Int), .int .u64 (d1.lo : Int), .string d1.n, .string d1.m, .int .u32 (d1.v0 : Int), .int .u32 (d1.v1 : Int), .int .u32 (d1.v2 : Int), .int .u32 (d1.v3 : Int), .int .u32 (d1.v4 : Int), .slice A10 n10 c10, .string d1.r] 30))
  clear hb
  go_wp2_with fail
  refine (HKn.out _).mono ?_
  rintro e w11 ⟨rfl, hb⟩
  have HB11 := Lib.hid (HB10.out.trans (hb.mono HB10.out.size))
  clear hb
  go_wp2_with fail
  refine (HR3.out _).mono ?_
  rintro e w12 ⟨A12, n12, c12, rfl, _, hb⟩
  have HB12 := Lib.hid ((HB11.out.trans (hb.mono HB11.out.size)).alloc (Nat.le_trans HB11.out.size hb.size) (.cells #[.bool d2.six, .int .u64 (d2.hi : Int), .int .u64 (d2.lo : Int), .string d2.n, .string d2.m, .int .u32 (d2.v0 : Int), .int .u32 (d2.v1 : Int), .int .u32 (d2.v2 : Int), .int .u32 (d2.v3 : Int), .int .u32 (d2.v4 : Int), .slice A12 n12 c12, .string d2.r] 30))
  clear hb
  go_wp2
  go_ret
  exact ⟨rfl, HBw.out _ HB12.out⟩
set_option maxHeartbeats 8000000 in
set_option maxRecDepth 100000 in
theorem RdataBack_raw (t : Int) (d : MD) (tv : Value) (x : ByteArray) (ht : -9223372036854775808 ≤ t ∧ t ≤ 9223372036854775807) (hx : x.size ≤ maxLen) (w : World) (fd : Fit w d tv) (hck : checkD t d = 0) (hT : octD d + sizeT d.L ≤ 2000) (h400 : x.size ≤ 400)
    (kn : (table t).isSome = false) :
    Calls Tryz.prog 3 #[.int .i64 t, dataV d tv, .string x] w fun e w' => e = .returned (.bool true) ∧ Below w.heap.size w w' := by
  obtain ⟨W, hW⟩ : ∃ W, W = w.alloc (.cells (cellsD d tv) 30) := ⟨_, rfl⟩
  have hB : Below w.heap.size w W := by rw [hW]; exact (Below.refl _ w).alloc (Nat.le_refl _) _
  have hL1 : Lies W w.heap.size 30 (cellsD d tv) := by rw [hW]; exact Lies.new w _ _
  have hit : isT t = true ∧ allK (kindK t) d = 0 := by
    unfold checkD at hck
    split at hck
    · rename_i h; exact ⟨h, hck⟩
    · cases hck
  obtain ⟨hsm1, hsm2⟩ := small_all hit.2
  obtain ⟨hg, h500⟩ := name_any1 (x := bs x) (by rw [bs_length]; exact h400)
  obtain ⟨p1, hp1⟩ : ∃ q, nameS 65535 ps0 (bs x) = q := ⟨_, rfl⟩
  rw [hp1] at hg h500
  obtain ⟨s1, hs1⟩ : ∃ q, p1.2 = q := ⟨_, rfl⟩
  rw [hs1] at hg h500
  have hbk := back_any hit.1 hit.2 ⟨fd.hi, fd.lo⟩ hg h500 (by omega)
  have HA := Lib.hid fun w' (hb : Below W.heap.size W w') => lies12 (hL1.next hb)
  have HBw := Lib.hid fun w' (hb : Below W.heap.size W w') => hB.trans (hb.mono hB.size)
  have HLv := Lib.hid lives9
  have HLi : Hid (∀ w', Below W.heap.size W w' → Calls Tryz.prog 7 #[dataV d tv] w' (Told w' (.bool true))) := Lib.hid fun w' hb => by
    have h := Light_small d tv w' ((fd.next hB).next hb) hsm1
    rw [decide_eq_true (by omega)] at h
    exact h
  have HCk : Hid (∀ w', Below W.heap.size W w' → Calls Tryz.prog 8 #[.int .i64 t, dataV d tv] w' (Told w' (.int .i64 0))) := Lib.hid fun w' hb => by
    have h := Check_anyD t d tv w' ((fd.next hB).next hb)
    rw [hck] at h
    exact h
  have HNew : Hid (∀ wx, Calls Tryz.prog 9 #[.int .i64 65535] wx (NewP wx 65535)) := Lib.hid fun wx => pNew_any 65535 wx (by decide)
  have HNm : Hid (∀ wx b F g, PK wx b F g 65535 ps0 → Calls Tryz.prog 10 #[pp g, .string x] wx (Pkr wx b F g 65535 s1 (.int .i64 p1.1))) := Lib.hid fun wx b F g hp => by
    have h := pName_any hp x hx
    rw [hp1, hs1] at h
    exact h
  obtain ⟨q, hq⟩ : ∃ q, putD 65535 t d s1 = q := ⟨_, rfl⟩
  have HPt := Lib.hid fun wx b F g (hp : PK wx b F g 65535 s1) (hle : W.heap.size ≤ b) (hb : Below W.heap.size W wx) => Put_anyD t d tv wx hp (by rw [hg.good.f]; decide) ((fd.next hB).next hb) (fun j hj => Nat.lt_of_lt_of_le (blk_ltB (fd.next hB).row j hj) hle)
  rw [hq] at HPt hbk
  obtain ⟨qe, s2⟩ := q
  obtain ⟨ok, ne, ⟨y, hy, hyl, hy3⟩, back, more, raw, less⟩ := hbk
  simp only at ok ne hy back more raw less HPt
  subst ok
  have HPut : Hid (∀ wx b F g, PK wx b F g 65535 s1 → W.heap.size ≤ b → Below W.heap.size W wx → Calls Tryz.prog 12 #[pp g, .int .i64 t, dataV d tv] wx (Pkr wx b F g 65535 s2 (.int .i64 0))) := Lib.hid fun wx b F g h1 h2 h3 => HPt.out wx b F g h1 h2 h3
  clear HPt
  obtain ⟨sz, hsz⟩ : ∃ q, sizeD t d = q := ⟨_, rfl⟩
  have HSz := Lib.hid fun w' (hb : Below W.heap.size W w') => Size_anyD t d tv w' ((fd.next hB).next hb)
  rw [hsz] at HSz hyl
  have hlen := congrArg List.length hy
  rw [List.length_append] at hlen
  have HLen1 : Hid (∀ wx b F g, PK wx b F g 65535 s1 → Calls Tryz.prog 11 #[pp g] wx fun e w' => e = .returned (.int .i64 (s1.l.length : Int)) ∧ wx = w') := Lib.hid fun wx b F g hp => pLen_any hp
  have HLen2 : Hid (∀ wx b F g, PK wx b F g 65535 s2 → Calls Tryz.prog 11 #[pp g] wx fun e w' => e = .returned (.int .i64 (s2.l.length : Int)) ∧ wx = w') := Lib.hid fun wx b F g hp => pLen_any hp
  obtain ⟨TX, hTX⟩ : ∃ T : ByteArray, T = ⟨s2.l.toArray⟩ := ⟨_, rfl⟩
  have hTb : bs TX = s2.l := by rw [hTX]; exact bs_mk _
  have HTx : Hid (∀ wx b F g, PK wx b F g 65535 s2 → Calls Tryz.prog 14 #[pp g] wx fun e w' => e = .returned (.string TX) ∧ wx = w') := Lib.hid fun wx b F g hp => by
    rw [hTX]
    exact pText_any hp
  have hSb : bs (TX ++ ⟨#[0]⟩) = s2.l ++ [0] := by rw [bs_append, hTb]; rfl
  have hTs : TX.size = s2.l.length := by rw [← bs_length, hTb]
  have hSs : (TX ++ (⟨#[0]⟩ : ByteArray)).size ≤ 1099511627776 := by rw [← bs_length, hSb, List.length_append]; simp; omega
  obtain ⟨n1, hn1⟩ : ∃ n, s1.l.length = n := ⟨_, rfl⟩
  obtain ⟨n2, hn2⟩ : ∃ n, s2.l.length = n := ⟨_, rfl⟩
  rw [hn1] at HLen1 hlen back more raw less ne h500
  rw [hn2] at HLen2 hlen back more raw less hTs ne
  rw [← hSb] at back more raw less
  obtain ⟨⟨f1, d1⟩, hf1⟩ : ∃ q, readD (bs (TX ++ ⟨#[0]⟩)) n1 (n2 + 1 : Nat) t = q := ⟨_, rfl⟩
  obtain ⟨⟨g1, d2⟩, hg1⟩ : ∃ q, readD (bs (TX ++ ⟨#[0]⟩)) n1 (n2 - 1 : Nat) t = q := ⟨_, rfl⟩
  have HR1 := Lib.hid fun wx => read_b (TX ++ ⟨#[0]⟩) (n1 : Int) (n2 : Int) t wx hSs (0, d) back
  have HR2 : Hid (∀ wx, Calls Tryz.prog 15 #[.string (TX ++ ⟨#[0]⟩), .int .i64 (n1 : Int), .int .i64 ((n2 : Int) + 1), .int .i64 t] wx (RdB wx (f1, d1))) := Lib.hid fun wx => read_b (TX ++ ⟨#[0]⟩) (n1 : Int) ((n2 : Int) + 1) t wx hSs (f1, d1) (by rw [← hf1]; rfl)
  rw [hf1] at more raw
  have HKn := Lib.hid fun wx => Known_any t wx ht
  have HSm : Hid (∀ wx tv', Fit wx d tv' → Below W.heap.size W wx → Calls Tryz.prog 16 #[dataV d tv', dataV d tv] wx (Told wx (.bool true))) := Lib.hid fun wx tv' hfx hb => by
    have h := Same_any d d tv' tv wx hfx ((fd.next hB).next hb)
    rw [(sameD_iff d d).2 rfl] at h
    exact h
  have HFx : Hid (∀ wx tv', Below W.heap.size W wx → SRow wx tv' d.L → Fit wx d tv') := Lib.hid fun wx tv' hb hr => { (fd.next hB).next hb with row := hr }
  have hq0 : ¬ 9223372036854775807 < TX.size + 1 := by omega
  have hq1 : decide ((sz : Int) < (n2 : Int) - (n1 : Int)) = false := by simp; omega
  have hx4 : decide ((400 : Int) < (x.size : Int)) = false := by simpa using (by omega : (x.size : Int) ≤ 400)
  have hf0 : f1 = 0 := raw kn
  subst hf0
  rw [kn] at HKn
  clear hg1
  obtain ⟨A, ca, hta, _, _⟩ := fd.row.shape
  obtain ⟨na, hta⟩ : ∃ n, tv = Value.slice A n ca := ⟨_, hta⟩
  clear hlen hyl hy3 ne
  clear fd hL1 hB hck hit hsm1 hsm2 hg hp1 hs1 hq back more raw less hsz hTX hTb hSb hf1 hn1 hn2 hT hy hSs
  subst hta
  unfold dataV cellsD at *
  go_enter Tryz.func3, Tryz.ntmps3
  go_wp2_with fail
  rw [← hW]
  refine (HLv.out _).mono ?_
  rintro e w1 ⟨rfl, hb1⟩
  obtain ⟨x0, x1, x2, x3, x4, x5, x6, x7, x8, x9, x10, x11⟩ := HA.out w1 hb1
  have HB1 := Lib.hid hb1
  clear hb1
  go_wp2_with fail
  refine (HLi.out _ HB1.out).mono ?_
  rintro e w2 ⟨rfl, hb⟩
  have HB2 := Lib.hid (HB1.out.trans (hb.mono HB1.out.size))
  clear hb x0 x1 x2 x3 x4 x5 x6 x7 x8 x9 x10 x11
  obtain ⟨x0, x1, x2, x3, x4, x5, x6, x7, x8, x9, x10, x11⟩ := HA.out w2 HB2.out
  go_wp2_with fail
  refine (HCk.out _ HB2.out).mono ?_
  rintro e w3 ⟨rfl, hb⟩
  have HB3 := Lib.hid (HB2.out.trans (hb.mono HB2.out.size))
  clear hb x0 x1 x2 x3 x4 x5 x6 x7 x8 x9 x10 x11
  go_wp2_with fail
  refine (HNew.out _).mono ?_
  rintro e w4 ⟨g, F, rfl, hp4, hb⟩
  have HB4 := Lib.hid (HB3.out.trans (hb.mono HB3.out.size))
  have hz := HB3.out.size
  have HP4 := Lib.hid hp4
  clear hb hp4
  go_wp2_with fail
  refine (HNm.out _ _ _ _ HP4.out).mono ?_
  rintro e w5 ⟨rfl, F5, hp5, hk5⟩
  have HP5 := Lib.hid hp5
  have HB5 := Lib.hid (HB4.out.trans (hk5.below.mono hz))
  clear hp5 hk5
  go_wp2_with fail
  refine (HLen1.out _ _ _ _ HP5.out).mono ?_
  rintro e w5' ⟨rfl, rfl⟩
  obtain ⟨x0, x1, x2, x3, x4, x5, x6, x7, x8, x9, x10, x11⟩ := HA.out w5 HB5.out
  go_wp2_with fail
  refine (HPut.out _ _ _ _ HP5.out hz HB5.out).mono ?_
  rintro e w6 ⟨rfl, F6, hp6, hk6⟩
  have HP6 := Lib.hid hp6
  have HB6 := Lib.hid (HB5.out.trans (hk6.below.mono hz))
  clear hp6 hk6 x0 x1 x2 x3 x4 x5 x6 x7 x8 x9 x10 x11
  go_wp2_with fail
  refine (HLen2.out _ _ _ _ HP6.out).mono ?_
  rintro e w6' ⟨rfl, rfl⟩
  obtain ⟨x0, x1, x2, x3, x4, x5, x6, x7, x8, x9, x10, x11⟩ := HA.out w6 HB6.out
  go_wp2_with fail
  refine (HSz.out _ HB6.out).mono ?_
  rintro e w7 ⟨rfl, hb⟩
  have HB7 := Lib.hid (HB6.out.trans (hb.mono HB6.out.size))
  have HP7 := Lib.hid (HP6.out.next hb)
  clear hb x0 x1 x2 x3 x4 x5 x6 x7 x8 x9 x10 x11
  go_wp2_with fail
  refine (HTx.out _ _ _ _ HP7.out).mono ?_
  rintro e w7' ⟨rfl, rfl⟩
  go_wp2_with fail
  refine (HR1.out _).mono ?_
  rintro e w8 ⟨A8, n8, c8, rfl, hr8, hb⟩
  obtain ⟨W8, hW8⟩ : ∃ W8, W8 = w8.alloc (.cells #[.bool d.six, .int .u64 (d.hi : Int), .int .u64 (d.lo : Int), .string d.n, .string d.m, .int .u32 (d.v0 : Int), .int .u32 (d.v1 : Int), .int .u32 (d.v2 : Int), .int .u32 (d.v3 : Int), .int .u32 (d.v4 : Int), .slice A8 n8 c8, .string d.r] 30) := ⟨_, rfl⟩
  have HB8 := Lib.hid (show Below W.heap.size W W8 from by rw [hW8]; exact (HB7.out.trans (hb.mono HB7.out.size)).alloc (Nat.le_trans HB7.out.size hb.size) _)
  have HF8 := Lib.hid (show Fit W8 d (.slice A8 n8 c8) from HFx.out _ _ HB8.out (by rw [hW8]; exact hr8.next ((Below.refl _ w8).alloc (Nat.le_refl _) _)))
  obtain ⟨y0, y1, y2, y3, y4, y5, y6, y7, y8, y9, y10, y11⟩ := lies12 (show Lies W8 w8.heap.size 30 (cellsD d (.slice A8 n8 c8)) from by rw [hW8]; exact Lies.new w8 _ _)
  obtain ⟨x0, x1, x2, x3, x4, x5, x6, x7, x8, x9, x10, x11⟩ := HA.out _ HB8.out
  clear hb hr8
  go_upto_region 15 with (fail)
  rw [← hW8]
  clear hW8
  go_wp2_with fail
  refine (HSm.out _ _ HF8.out HB8.out).mono ?_
  rintro e w9 ⟨rfl, hb⟩
  have HB9 := Lib.hid (HB8.out.trans (hb.mono HB8.out.size))
  clear hb x0 x1 x2 x3 x4 x5 x6 x7 x8 x9 x10 x11 y0 y1 y2 y3 y4 y5 y6 y7 y8 y9 y10 y11
  go_wp2_with fail
  refine (HR2.out _).mono ?_
  rintro e w10 ⟨A10, n10, c10, rfl, _, hb⟩
  have HB10 := Lib.hid ((HB9.out.trans (hb.mono HB9.out.size)).alloc (Nat.le_trans HB9.out.size hb.size) (.cells #[.bool d1.six, .int .u64 (d1.hi : Int), .int .u64 (d1.lo : Int), .string d1.n, .string d1.m, .int .u32 (d1.v0 : Int), .int .u32 (d1.v1 : Int), .int .u32 (d1.v2 : Int), .int .u32 (d1.v3 : Int), .int .u32 (d1.v4 : Int), .slice A10 n10 c10, .string d1.r] 30))
  clear hb
  go_wp2_with fail
  refine (HKn.out _).mono ?_
  rintro e w11 ⟨rfl, hb⟩
  have HB11 := Lib.hid (HB10.out.trans (hb.mono HB10.out.size))
  clear hb
  go_wp2
  all_goals
    go_ret
    exact ⟨rfl, HBw.out _ HB11.out⟩
theorem RdataBack_walk (t : Int) (d : MD) (tv : Value) (x : ByteArray) (ht : (Lit.int .i64 t).wf = true) (hx : x.size ≤ maxLen) (w : World) (fd : Fit w d tv) :
    Calls Tryz.prog 3 #[.int .i64 t, dataV d tv, .string x] w fun e w' => e = .returned (.bool true) ∧ Below w.heap.size w w' := by
  have hb := bounds_i64 ht
  by_cases h1 : checkD t d = 0
  · by_cases h2 : octD d + sizeT d.L ≤ 2000
    · by_cases h3 : x.size ≤ 400
      · cases kn : (table t).isSome
        · exact RdataBack_raw t d tv x hb hx w fd h1 h2 h3 kn
        · by_cases h16 : t = 16
          · exact RdataBack_texts t d tv x hb hx w fd h1 h2 h3 kn h16
          · exact RdataBack_told t d tv x hb hx w fd h1 h2 h3 kn h16
      · exact RdataBack_no t d tv x hx w fd (.inr (.inr (by omega)))
    · exact RdataBack_no t d tv x hx w fd (.inr (.inl (by omega)))
  · exact RdataBack_no t d tv x hx w fd (.inl h1)
end Go.Proofs.YtjollpgkmcinjaaGreat
