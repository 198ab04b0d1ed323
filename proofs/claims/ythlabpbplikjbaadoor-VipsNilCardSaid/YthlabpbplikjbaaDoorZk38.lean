/-
  The layer's own examples ('lives') come out true; what a law holds beside a pool. Conditions: the laid tables' cells (Ground). A pool that nobody made; VipsNil: the walk. Conditions: the laid tables' cells (Ground).
-/
import Derived.Test.YthlabpbplikjbaaDoorZk37
namespace Go.Proofs.YthlabpbplikjbaaDoor
open Go.RowKit Go.Maps Go.Shelf
set_option linter.unusedVariables false

/-- What a law holds: one pool, boxes of its own, the tables. -/
structure Lv (w wr : World) (B : PB) (p : PoolD) (H : List Hd) (L : List (Nat × TypeId × Array Value)) : Prop where
  bx : Bx w wr L
  at_ : PoolAt wr B p H
  ah : B.a ≠ B.h
  ge : w.heap.size ≤ B.a ∧ w.heap.size ≤ B.h
  ne : ∀ x ∈ L, x.1 ≠ B.a ∧ x.1 ≠ B.h
  gr : Ground wr
section
variable {w wr w' : World} {B : PB} {p : PoolD} {H H' : List Hd} {L : List (Nat × TypeId × Array Value)}
theorem Lv.next (h : Lv w wr B p H L) (hb : Below wr.heap.size wr w') : Lv w w' B p H L := ⟨h.bx.next hb, h.at_.next hb, h.ah, h.ge, h.ne, h.gr.next hb⟩
theorem Lv.box (h : Lv w wr B p H L) (t : TypeId) (cs : Array Value) : Lv w (wr.alloc (.cells cs t)) B p H ((wr.heap.size, t, cs) :: L) :=
  ⟨h.bx.more t cs, h.at_.alloc _, h.ah, h.ge, fun x hx => by
    rcases List.mem_cons.1 hx with rfl | hx
    · have := h.at_.lt
      simp only
      omega
    · exact h.ne x hx, h.gr.next ((Below.refl _ _).alloc (Nat.le_refl _) _)⟩
theorem Kq.grd (hq : Kq B wr w') (hg : Ground wr) (hb : Below w.heap.size w wr) (h1 : w.heap.size ≤ B.a) (h2 : w.heap.size ≤ B.h) (hw : Ground w) : Ground w' :=
  hw.next (hb.trans (hq.below hb.size h1 h2))
theorem Lv.act (h : Lv w wr B p H L) (hq : Kq B wr w') (hp : PoolAt w' B p H') (hw : Ground w) : Lv w w' B p H' L :=
  ⟨⟨h.bx.bel.trans (hq.below h.bx.bel.size h.ge.1 h.ge.2), fun x hx => hq.lies (h.bx.all x hx) (h.ne x hx).1 (h.ne x hx).2⟩, hp, h.ah, h.ge, h.ne, hq.grd h.gr h.bx.bel h.ge.1 h.ge.2 hw⟩
theorem Lv.cell (h : Lv w wr B p H L) {g : Nat} {t : TypeId} {cs : Array Value} (hm : (g, t, cs) ∈ L) (j : Nat) : wr.cell? ⟨g, j, none⟩ = cs[j]? := Lies.cell (h.bx.at hm) j
end
def p2 : PoolD := ⟨(false, 0, 167772160), 31, []⟩
theorem infoPl : (Tryd.prog.info? 34).map (·.size) = some 5 := by kernel_rfl
theorem two_any : ∀ w : World, Calls Tryd.prog 9 #[] w fun e w' => e = .returned (pv p2 (.slice none 0 0)) ∧ Below w.heap.size w w' := fun w => by
  go_enter Tryd.func9, Tryd.ntmps9
  go_wp2
  exact bodyPost_ret (results_cell_row rfl _ _ w.heap.size _ _ _ _ rfl (Lies.new _ _ _) Tryd.underlying34 rfl infoPl) rfl ⟨rfl, (Below.refl _ _).alloc (Nat.le_refl _) _⟩
theorem row_nil (w : World) : RgRow w (.slice none 0 0) [] := ⟨⟨none, 0, rfl, Nat.le_refl _, by decide, fun j h => by cases h⟩, fun x h => by cases h⟩
def nA : ByteArray := ⟨#[1, 97]⟩
def nB : ByteArray := ⟨#[1, 98]⟩
def nC : ByteArray := ⟨#[1, 99]⟩
def nAA : ByteArray := ⟨#[1, 65]⟩
def L1 := p2.give [] nA
def L2 := p2.give L1.1 nB
def L3 := p2.give L2.1 nC
def L4 := dropE L3.1 nAA
def L5 := p2.give L4.1 nC
theorem lv_nums : L1.2.2 = 0 ∧ L2.2.2 = 0 ∧ L3.2.2 = 10 ∧ L5.2.2 = 0 ∧ L1.2.1 ≠ L2.2.1 ∧ L5.2.1 = L1.2.1 ∧ chkP p2 = 0 := by decide +kernel
def PGive (B : PB) (H : List Hd) (n : ByteArray) (H' : List Hd) (s : Bool) (hi lo er : Nat) : Prop := ∀ wx, Ground wx → PoolAt wx B p2 H → B.a ≠ B.h → Calls Tryd.prog 12 #[.pointer (some ⟨B.g, 0, none⟩), .string n] wx fun e w' => e = .returned (.tuple #[.agg #[.bool s, .int .u64 (hi : Int), .int .u64 (lo : Int)], .int .i64 (er : Int)]) ∧ PoolAt w' B p2 H' ∧ Kq B wx w'
theorem pgive_of {B : PB} {H H' : List Hd} {n : ByteArray} {s : Bool} {hi lo er : Nat} (hn : n.size ≤ 281474976710656) (h : p2.give H n = (H', (s, hi, lo), er)) : PGive B H n H' s hi lo er := fun wx hG hp hah => by
  have := pGive_any hG hp hah hn
  rw [h] at this
  exact this
set_option maxRecDepth 100000 in
set_option maxHeartbeats 8000000 in
theorem lives14 : GG 7 #[] (.bool true) := fun w hG => by
  obtain ⟨n1, n2, n3, n5, n12, n51, n0⟩ := lv_nums
  obtain ⟨⟨H1, ⟨s1, h1, l1⟩, e1⟩, hL1⟩ : ∃ R, L1 = R := ⟨_, rfl⟩
  obtain ⟨⟨H2, ⟨s2, h2, l2⟩, e2⟩, hL2⟩ : ∃ R, L2 = R := ⟨_, rfl⟩
  obtain ⟨⟨H3, ⟨s3, h3, l3⟩, e3⟩, hL3⟩ : ∃ R, L3 = R := ⟨_, rfl⟩
  obtain ⟨⟨H5, ⟨s5, h5, l5⟩, e5⟩, hL5⟩ : ∃ R, L5 = R := ⟨_, rfl⟩
  obtain ⟨⟨H4, e4⟩, hL4⟩ : ∃ R, L4 = R := ⟨_, rfl⟩
  rw [hL1] at n1 n12 n51
  rw [hL2] at n2 n12
  rw [hL3] at n3
  rw [hL5] at n5 n51
  simp only at n1 n2 n3 n5 n12 n51
  subst n1 n2 n3 n5
  have g1 : ∀ B, PGive B [] ⟨#[1, 97]⟩ H1 s1 h1 l1 0 := fun B => pgive_of (by decide) hL1
  have g2 : ∀ B, PGive B H1 ⟨#[1, 98]⟩ H2 s2 h2 l2 0 := fun B => pgive_of (by decide) (by have := hL2; unfold L2 at this; rw [hL1] at this; exact this)
  have g3 : ∀ B, PGive B H2 ⟨#[1, 99]⟩ H3 s3 h3 l3 10 := fun B => pgive_of (by decide) (by have := hL3; unfold L3 at this; rw [hL2] at this; exact this)
  have g5 : ∀ B, PGive B H4 ⟨#[1, 99]⟩ H5 s5 h5 l5 0 := fun B => pgive_of (by decide) (by have := hL5; unfold L5 at this; rw [hL4] at this; exact this)
  have g4 : ∀ B wx, PoolAt wx B p2 H3 → Calls Tryd.prog 14 #[.pointer (some ⟨B.g, 0, none⟩), .string ⟨#[1, 65]⟩] wx fun e w' => e = .returned (.int .i64 (e4 : Int)) ∧ PoolAt w' B p2 H4 ∧ Kq B wx w' := fun B wx hp => by
    have := pDrop_any (n := ⟨#[1, 65]⟩) hp (by decide)
    have e := hL4
    unfold L4 at e
    rw [hL3] at e
    rw [show dropE H3 ⟨#[1, 65]⟩ = (H4, e4) from e] at this
    exact this
  have hEq1 : ∀ wx : World, (Op.equalIn 10000 29 (.agg #[.bool s1, .int .u64 (h1 : Int), .int .u64 (l1 : Int)]) (.agg #[.bool s2, .int .u64 (h2 : Int), .int .u64 (l2 : Int)])).run Tryd.prog wx = .ok false wx := fun wx => (ad_equal s1 h1 l1 s2 h2 l2 wx).trans (by rw [decide_eq_false n12])
  have hEq2 : ∀ wx : World, (Op.equalIn 10000 29 (.agg #[.bool s5, .int .u64 (h5 : Int), .int .u64 (l5 : Int)]) (.agg #[.bool s1, .int .u64 (h1 : Int), .int .u64 (l1 : Int)])).run Tryd.prog wx = .ok true wx := fun wx => (ad_equal s5 h5 l5 s1 h1 l1 wx).trans (by rw [decide_eq_true n51])
  have HN : Hid (∀ wx, Ground wx → Calls Tryd.prog 8 #[pv p2 (.slice none 0 0)] wx (NewOut p2 wx)) := Lib.hid fun wx hg => vNew_ok (p := p2) (v := .slice none 0 0) hg (by unfold fitA p2; decide) (row_nil wx) n0
  have HT := Lib.hid two_any
  have G1 := Lib.hid g1
  have G2 := Lib.hid g2
  have G3 := Lib.hid g3
  have G4 := Lib.hid g4
  have G5 := Lib.hid g5
  have HGw := Lib.hid hG
  clear n12 n51 n0 hL1 hL2 hL3 hL4 hL5 g1 g2 g3 g4 g5 hG
  unfold pv p2 at HN HT
  simp only at HN HT
  go_enter Tryd.func7, Tryd.ntmps7
  go_wp2_with fail
  refine (HT.out _).mono ?_
  rintro e w1 ⟨rfl, hb1⟩
  have HB1 := Lib.hid hb1
  clear hb1
  go_wp2_with fail
  refine (HN.out _ (HGw.out.next HB1.out)).mono ?_
  rintro e w2 ⟨B, rfl, hp, hges, hah, hb⟩
  have HLv : Hid (Lv w w2 B p2 [] []) := Lib.hid (by
    have hz := HB1.out.size
    exact ⟨⟨HB1.out.trans (hb.mono hz), fun x hx => by cases hx⟩, hp, hah, ⟨by omega, by omega⟩, fun x hx => (by cases hx), (HGw.out.next HB1.out).next hb⟩)
  clear hp hges hah hb
  go_wp2_with fail
  refine (G1.out B _ HLv.out.gr HLv.out.at_ HLv.out.ah).mono ?_
  rintro e w3 ⟨rfl, hp, hk⟩
  replace HLv := Lib.hid ((HLv.out.act hk hp HGw.out).box 29 #[.bool s1, .int .u64 (h1 : Int), .int .u64 (l1 : Int)])
  clear hp hk
  go_wp2_with fail
  refine (G2.out B _ HLv.out.gr HLv.out.at_ HLv.out.ah).mono ?_
  rintro e w4 ⟨rfl, hp, hk⟩
  replace HLv := Lib.hid ((HLv.out.act hk hp HGw.out).box 29 #[.bool s2, .int .u64 (h2 : Int), .int .u64 (l2 : Int)])
  clear hp hk
  go_wp2_with fail
  refine (G3.out B _ HLv.out.gr HLv.out.at_ HLv.out.ah).mono ?_
  rintro e w5 ⟨rfl, hp, hk⟩
  replace HLv := Lib.hid ((HLv.out.act hk hp HGw.out).box 29 #[.bool s3, .int .u64 (h3 : Int), .int .u64 (l3 : Int)])
  clear hp hk
  go_wp2_with fail
  refine (G4.out B _ HLv.out.at_).mono ?_
  rintro e w6 ⟨rfl, hp, hk⟩
  replace HLv := Lib.hid (HLv.out.act hk hp HGw.out)
  clear hp hk
  go_wp2_with fail
  refine (G5.out B _ HLv.out.gr HLv.out.at_ HLv.out.ah).mono ?_
  rintro e w7 ⟨rfl, hp, hk⟩
  replace HLv := Lib.hid ((HLv.out.act hk hp HGw.out).box 29 #[.bool s5, .int .u64 (h5 : Int), .int .u64 (l5 : Int)])
  clear hp hk
  obtain ⟨W, hW⟩ : ∃ W, w7.alloc (.cells #[.bool s5, .int .u64 (h5 : Int), .int .u64 (l5 : Int)] 29) = W := ⟨_, rfl⟩
  rw [hW] at HLv
  have m1 : Lies W w3.heap.size 29 #[.bool s1, .int .u64 (h1 : Int), .int .u64 (l1 : Int)] := HLv.out.bx.at (by simp)
  have m2 : Lies W w4.heap.size 29 #[.bool s2, .int .u64 (h2 : Int), .int .u64 (l2 : Int)] := HLv.out.bx.at (by simp)
  have m3 : Lies W w7.heap.size 29 #[.bool s5, .int .u64 (h5 : Int), .int .u64 (l5 : Int)] := HLv.out.bx.at (by simp)
  obtain ⟨⟨x0, x1, x2⟩, _⟩ := ad_cells m1
  obtain ⟨⟨y0, y1, y2⟩, _⟩ := ad_cells m2
  obtain ⟨⟨z0, z1, z2⟩, _⟩ := ad_cells m3
  clear m1 m2 m3
  go_upto_region 9 with (fail)
  clear hW
  go_wp2
  go_ret
  exact ⟨rfl, HLv.out.bx.bel⟩
end Go.Proofs.YthlabpbplikjbaaDoor
namespace Go.Proofs.YthlabpbplikjbaaDoor
open Go.RowKit Go.Maps Go.Shelf
set_option linter.unusedVariables false

theorem nGive (n : ByteArray) : Gives 12 #[.pointer none, .string n] (.tuple #[.agg #[.bool false, .int .u64 0, .int .u64 0], .int .i64 1]) := fun w => by
  go_enter Tryd.func12, Tryd.ntmps12
  go_wp2_with (go_at_call 25; refine (pmade_no _).mono ?_; rintro e w1 ⟨rfl, rfl⟩)
  exact bodyPost_ret (ret_ad2 rfl _ _ w.heap.size noA rfl (Lies.new _ _ _)) rfl ⟨rfl, (Below.refl _ _).alloc (Nat.le_refl _) _⟩
theorem nOf (n : ByteArray) : Gives 11 #[.pointer none, .string n] (.tuple #[.agg #[.bool false, .int .u64 0, .int .u64 0], .bool false]) := fun w => by
  go_enter Tryd.func11, Tryd.ntmps11
  go_wp2_with (go_at_call 25; refine (pmade_no _).mono ?_; rintro e w1 ⟨rfl, rfl⟩)
  exact bodyPost_ret (ret_ad2 rfl _ _ w.heap.size noA rfl (Lies.new _ _ _)) rfl ⟨rfl, (Below.refl _ _).alloc (Nat.le_refl _) _⟩
theorem nDrop (n : ByteArray) : Gives 14 #[.pointer none, .string n] (.int .i64 1) := fun w => by
  go_enter Tryd.func14, Tryd.ntmps14
  go_wp2_with (go_at_call 25; refine (pmade_no _).mono ?_; rintro e w1 ⟨rfl, rfl⟩)
  go_ret
  exact ⟨rfl, Below.refl _ _⟩
theorem nKeep (v : Value) : Gives 10 #[.pointer none, v] (.tuple #[.slice none 0 0, .int .i64 1]) := fun w => by
  go_enter Tryd.func10, Tryd.ntmps10
  go_wp2_with (go_at_call 25; refine (pmade_no _).mono ?_; rintro e w1 ⟨rfl, rfl⟩)
  go_ret2
  exact ⟨rfl, Below.refl _ _⟩
theorem nHost (s : Bool) (hi lo : Nat) : Gives 15 #[.pointer none, .agg #[.bool s, .int .u64 (hi : Int), .int .u64 (lo : Int)]] (.tuple #[.string ⟨#[]⟩, .bool false]) := fun w => by
  go_enter Tryd.func15, Tryd.ntmps15
  go_wp2_with (go_at_call 25; refine (pmade_no _).mono ?_; rintro e w1 ⟨rfl, rfl⟩)
  go_ret2
  exact ⟨rfl, (Below.refl _ _).alloc (Nat.le_refl _) _⟩
theorem nAll : Gives 18 #[.pointer none] (.slice none 0 0) := fun w => by
  go_enter Tryd.func18, Tryd.ntmps18
  go_wp2_with (go_at_call 25; refine (pmade_no _).mono ?_; rintro e w1 ⟨rfl, rfl⟩)
  go_ret
  exact ⟨rfl, Below.refl _ _⟩
theorem nFree : Gives 17 #[.pointer none] (.int .i64 0) := fun w => by
  go_enter Tryd.func17, Tryd.ntmps17
  go_wp2_with (go_at_call 25; refine (pmade_no _).mono ?_; rintro e w1 ⟨rfl, rfl⟩)
  go_ret
  exact ⟨rfl, Below.refl _ _⟩
theorem nClone : Gives 13 #[.pointer none] (.pointer none) := fun w => by
  go_enter Tryd.func13, Tryd.ntmps13
  go_wp2_with (go_at_call 25; refine (pmade_no _).mono ?_; rintro e w1 ⟨rfl, rfl⟩)
  go_ret
  exact ⟨rfl, Below.refl _ _⟩
set_option maxRecDepth 100000 in
set_option maxHeartbeats 8000000 in
theorem VipsNil_walk (n : ByteArray) (s : Bool) (hi lo : Nat) (w0 : n.size ≤ maxLen) (f1 : hi < 18446744073709551616) (g1 : lo < 18446744073709551616) (w : World) (hG : Ground w) :
    Calls Tryd.prog 4 #[.string n, .agg #[.bool s, .int .u64 (hi : Int), .int .u64 (lo : Int)]] w fun e w' => e = .returned (.bool true) ∧ Below w.heap.size w w' := by
  have HS := Lib.hid ((Bx.start w).more 29 #[.bool s, .int .u64 (hi : Int), .int .u64 (lo : Int)])
  have HL : Hid (∀ wx, Below w.heap.size w wx → Calls Tryd.prog 7 #[] wx fun e w' => e = .returned (.bool true) ∧ Below wx.heap.size wx w') := Lib.hid fun wx hb => lives14.go wx (hG.next hb)
  have H1 := Lib.hid (nGive n)
  have H2 := Lib.hid nKeep
  have H3 := Lib.hid (nOf n)
  have H4 := Lib.hid (nHost s hi lo)
  have H5 := Lib.hid (nDrop n)
  have H6 := Lib.hid nAll
  have H7 := Lib.hid nFree
  have H8 := Lib.hid nClone
  clear hG
  go_enter Tryd.func4, Tryd.ntmps4
  go_wp2_with fail
  refine (HL.out _ HS.out.bel).mono ?_
  rintro e w1 ⟨rfl, hb⟩
  replace HS := Lib.hid (HS.out.next hb)
  clear hb
  go_wp2_with fail
  refine (H1.out.go _).mono ?_
  rintro e w2 ⟨rfl, hb⟩
  replace HS := Lib.hid ((HS.out.next hb).alloc (.cells #[.bool false, .int .u64 0, .int .u64 0] 29))
  clear hb
  go_wp2_with fail
  replace HS := Lib.hid (HS.out.alloc (.cells #[.string n] 39))
  refine ((H2.out _).go _).mono ?_
  rintro e w3 ⟨rfl, hb⟩
  replace HS := Lib.hid (HS.out.next hb)
  clear hb
  go_wp2_with fail
  refine (H3.out.go _).mono ?_
  rintro e w4 ⟨rfl, hb⟩
  replace HS := Lib.hid ((HS.out.next hb).alloc (.cells #[.bool false, .int .u64 0, .int .u64 0] 29))
  clear hb
  obtain ⟨⟨x0, x1, x2⟩, _⟩ := ad_cells (HS.out.at List.mem_cons_self)
  go_wp2_with fail
  refine (H4.out.go _).mono ?_
  rintro e w5 ⟨rfl, hb⟩
  replace HS := Lib.hid (HS.out.next hb)
  clear hb x0 x1 x2
  go_wp2_with (first | (go_at_call 14; refine (H5.out.go _).mono ?_; rintro e w6 ⟨rfl, hb⟩; replace HS := Lib.hid (HS.out.next hb); clear hb) | (go_at_call 18; refine (H6.out.go _).mono ?_; rintro e w7 ⟨rfl, hb⟩; replace HS := Lib.hid (HS.out.next hb); clear hb) | (go_at_call 17; refine (H7.out.go _).mono ?_; rintro e w8 ⟨rfl, hb⟩; replace HS := Lib.hid (HS.out.next hb); clear hb) | (go_at_call 13; refine (H8.out.go _).mono ?_; rintro e w9 ⟨rfl, hb⟩; replace HS := Lib.hid (HS.out.next hb); clear hb))
  go_ret
  exact ⟨rfl, HS.out.bel⟩
end Go.Proofs.YthlabpbplikjbaaDoor
