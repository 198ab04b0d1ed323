/-
  VipsNames: the walk. Conditions: the laid tables' cells (Ground).
-/
import Derived.Test.YthlabpbplikjbaaDoorZk38
namespace Go.Proofs.YthlabpbplikjbaaDoor
open Go.RowKit Go.Maps Go.Shelf
set_option linter.unusedVariables false

set_option maxRecDepth 100000 in
set_option maxHeartbeats 16000000 in
theorem VipsNames_walk (w : World) (hG : Ground w) :
    Calls Tryd.prog 3 #[] w fun e w' => e = .returned (.bool true) ∧ Below w.heap.size w w' := by
  obtain ⟨m1, m2, m3, m4, m5, m6, m7, m8, m9, m10, m11, m12⟩ := vn_nums
  obtain ⟨q1, q2, q3, q4, q5, q6, q7, q8⟩ := vn_more
  have HGw := Lib.hid hG
  have HL : Hid (∀ wx, Below w.heap.size w wx → Calls Tryd.prog 7 #[] wx fun e w' => e = .returned (.bool true) ∧ Below wx.heap.size wx w') := Lib.hid fun wx hb => lives14.go wx (hG.next hb)
  have HT := Lib.hid two_any
  have HN : Hid (∀ wx, Ground wx → Calls Tryd.prog 8 #[pv p2 (.slice none 0 0)] wx (NewOut p2 wx)) := Lib.hid fun wx hg => vNew_ok (p := p2) (v := .slice none 0 0) hg (by unfold fitA p2; decide) (row_nil wx) q6
  have HN2 : Hid (∀ wx, Ground wx → Calls Tryd.prog 8 #[pv ⟨(false, 0, 0), 33, []⟩ (.slice none 0 0)] wx fun e w' => e = .returned (.tuple #[.pointer none, .int .i64 2]) ∧ Below wx.heap.size wx w') := Lib.hid fun wx hg => vNew_no (p := ⟨(false, 0, 0), 33, []⟩) (v := .slice none 0 0) hg (by unfold fitA; decide) (row_nil wx) q7
  have hKG : ∀ {B : PB} {wr : World}, Ground wr → Below w.heap.size w wr → w.heap.size ≤ B.a ∧ w.heap.size ≤ B.h → ∀ wx, Kq B wr wx → Ground wx := fun hg hb hge wx hq => hq.grd hg hb hge.1 hge.2 hG
  have hgood : ∀ n ∈ NS1, n.size ≤ 1099511627776 := by unfold NS1; decide
  have hgood2 : ∀ n ∈ NS2, n.size ≤ 1099511627776 := by unfold NS2; decide
  have K1 : Hid (∀ (B : PB) (wr : World) (v : Value), Ground wr → Below w.heap.size w wr → w.heap.size ≤ B.a ∧ w.heap.size ≤ B.h → PoolAt wr B p2 [] → B.a ≠ B.h → SRow wr v NS1 → Calls Tryd.prog 10 #[.pointer (some ⟨B.g, 0, none⟩), v] wr fun e w' => ∃ v', e = .returned (.tuple #[v', .int .i64 0]) ∧ SRow w' v' [nC] ∧ PoolAt w' B p2 KH ∧ Kq B wr w') := Lib.hid fun B wr v hg hb hge hp hah hr => (pKeep_any (hKG hg hb hge) hp hah hr hgood (by unfold NS1; decide)).mono fun e w' ⟨h1, _, h3⟩ => by
    obtain ⟨v', e1, e2, e3⟩ := h1 m2
    rw [m1] at e2
    exact ⟨v', e1, e2, e3, h3⟩
  have K2 : Hid (∀ (B : PB) (wr : World) (v : Value), Ground wr → Below w.heap.size w wr → w.heap.size ≤ B.a ∧ w.heap.size ≤ B.h → PoolAt wr B p2 KH → B.a ≠ B.h → SRow wr v NS2 → Calls Tryd.prog 10 #[.pointer (some ⟨B.g, 0, none⟩), v] wr fun e w' => e = .returned (.tuple #[.slice none 0 0, .int .i64 2]) ∧ PoolAt w' B p2 KH ∧ Kq B wr w') := Lib.hid fun B wr v hg hb hge hp hah hr => (pKeep_any (hKG hg hb hge) hp hah hr hgood2 (by unfold NS2; decide)).mono fun e w' ⟨_, h2, h3⟩ => by
    obtain ⟨e1, e2⟩ := h2 m3
    exact ⟨e1, e2, h3⟩
  obtain ⟨⟨ks, kh, kl⟩, hKA⟩ : ∃ a, KA = a := ⟨_, rfl⟩
  have O1 : Hid (∀ (B : PB) (wr : World), PoolAt wr B p2 KH → Calls Tryd.prog 11 #[.pointer (some ⟨B.g, 0, none⟩), .string ⟨#[1, 66]⟩] wr fun e w' => (∃ (s : Bool) (hi lo : Nat), e = .returned (.tuple #[.agg #[.bool s, .int .u64 (hi : Int), .int .u64 (lo : Int)], .bool true])) ∧ Below wr.heap.size wr w') := Lib.hid fun B wr hp => (pOf_any hp (n := ⟨#[1, 66]⟩) (by decide) q1).mono fun e w' ⟨h1, h2⟩ => by
    rw [m5] at h1
    exact ⟨⟨_, _, _, h1⟩, h2⟩
  have O2 : Hid (∀ (B : PB) (wr : World), PoolAt wr B p2 KH → Calls Tryd.prog 11 #[.pointer (some ⟨B.g, 0, none⟩), .string ⟨#[1, 97]⟩] wr fun e w' => e = .returned (.tuple #[.agg #[.bool ks, .int .u64 (kh : Int), .int .u64 (kl : Int)], .bool true]) ∧ Below wr.heap.size wr w') := Lib.hid fun B wr hp => (pOf_any hp (n := ⟨#[1, 97]⟩) (by decide) q2).mono fun e w' ⟨h1, h2⟩ => by
    rw [m6, show ofV KH [1, 97] = (ks, kh, kl) from hKA] at h1
    exact ⟨h1, h2⟩
  have GV : Hid (∀ (B : PB) (wr : World), Ground wr → PoolAt wr B p2 KH → B.a ≠ B.h → Calls Tryd.prog 12 #[.pointer (some ⟨B.g, 0, none⟩), .string ⟨#[]⟩] wr fun e w' => e = .returned (.tuple #[.agg #[.bool false, .int .u64 0, .int .u64 0], .int .i64 2]) ∧ PoolAt w' B p2 KH ∧ Kq B wr w') := Lib.hid fun B wr hg hp hah => by
    have := pGive_any hg hp hah (n := ⟨#[]⟩) (by decide)
    rw [q5] at this
    exact this
  have D1 : Hid (∀ (B : PB) (wr : World), PoolAt wr B p2 KH → Calls Tryd.prog 14 #[.pointer (some ⟨B.g, 0, none⟩), .string ⟨#[1, 97]⟩] wr fun e w' => e = .returned (.int .i64 0) ∧ PoolAt w' B p2 (dropE KH nA).1 ∧ Kq B wr w') := Lib.hid fun B wr hp => (pDrop_any hp (n := nA) (by decide)).mono fun e w' ⟨h1, h2, h3⟩ => by
    rw [m9] at h1
    exact ⟨h1, h2, h3⟩
  have D2 : Hid (∀ (B : PB) (wr : World), PoolAt wr B p2 KH → Calls Tryd.prog 14 #[.pointer (some ⟨B.g, 0, none⟩), .string ⟨#[1, 122]⟩] wr fun e w' => e = .returned (.int .i64 5) ∧ PoolAt w' B p2 KH ∧ Kq B wr w') := Lib.hid fun B wr hp => (pDrop_any hp (n := nZ) (by decide)).mono fun e w' ⟨h1, h2, h3⟩ => by
    rw [m12] at h1 h2
    exact ⟨h1, h2, h3⟩
  have HH : Hid (∀ (B : PB) (wr : World), PoolAt wr B p2 KH → Calls Tryd.prog 15 #[.pointer (some ⟨B.g, 0, none⟩), .agg #[.bool ks, .int .u64 (kh : Int), .int .u64 (kl : Int)]] wr fun e w' => e = .returned (.tuple #[.string ⟨#[1, 97]⟩, .bool true]) ∧ Below wr.heap.size wr w') := Lib.hid fun B wr hp => by
    have := pHost_any hp (a := KA) ⟨q3, q4⟩
    rw [m7, m8, hKA] at this
    exact this
  have F1 : Hid (∀ (B : PB) (wr : World), PoolAt wr B p2 KH → Calls Tryd.prog 17 #[.pointer (some ⟨B.g, 0, none⟩)] wr (Quiet wr (.int .i64 0))) := Lib.hid fun B wr hp => by
    have := pFree_any hp
    rw [m11, m4] at this
    exact this
  have F2 : Hid (∀ (B : PB) (wr : World), PoolAt wr B p2 (dropE KH nA).1 → Calls Tryd.prog 17 #[.pointer (some ⟨B.g, 0, none⟩)] wr (Quiet wr (.int .i64 1))) := Lib.hid fun B wr hp => by
    have := pFree_any hp
    rw [m11, m10] at this
    exact this
  have A1 : Hid (∀ (B : PB) (wr : World), PoolAt wr B p2 KH → Calls Tryd.prog 18 #[.pointer (some ⟨B.g, 0, none⟩)] wr fun e w' => (∃ A cap, e = .returned (.slice A 2 cap)) ∧ Below wr.heap.size wr w') := Lib.hid fun B wr hp => (pAll_any hp).mono fun e w' ⟨v, L, h1, h2, _, ⟨A, cap, h4, _⟩, h5⟩ => by
    rw [h4, h2.length_eq, m4] at h1
    exact ⟨⟨A, cap, h1⟩, h5⟩
  have A2 : Hid (∀ (B : PB) (wr : World), PoolAt wr B p2 (dropE KH nA).1 → Calls Tryd.prog 18 #[.pointer (some ⟨B.g, 0, none⟩)] wr fun e w' => (∃ A cap, e = .returned (.slice A 1 cap)) ∧ Below wr.heap.size wr w') := Lib.hid fun B wr hp => (pAll_any hp).mono fun e w' ⟨v, L, h1, h2, _, ⟨A, cap, h4, _⟩, h5⟩ => by
    rw [h4, h2.length_eq, m10] at h1
    exact ⟨⟨A, cap, h1⟩, h5⟩
  clear m1 m2 m3 m4 m5 m6 m7 m8 m9 m10 m11 m12 q1 q2 q3 q4 q5 q6 q7 hKG hgood hgood2 hKA hG
  have Q8 := Lib.hid q8
  clear q8
  unfold pv at HN HN2 HT
  unfold p2 at HN HT
  simp only at HN HN2 HT
  go_enter Tryd.func3, Tryd.ntmps3
  go_wp2_with fail
  refine (HL.out _ (Below.refl _ _)).mono ?_
  rintro e w0 ⟨rfl, hb⟩
  have HB0 := Lib.hid hb
  clear hb
  go_wp2_with fail
  refine (HT.out _).mono ?_
  rintro e w1 ⟨rfl, hb1⟩
  have HB1 := Lib.hid (HB0.out.trans (hb1.mono HB0.out.size))
  clear hb1
  go_wp2_with fail
  refine (HN.out _ (HGw.out.next HB1.out)).mono ?_
  rintro e w2 ⟨B, rfl, hp, hges, hah, hb⟩
  have HP2 := Lib.hid hp
  have HGe : Hid (w.heap.size ≤ B.a ∧ w.heap.size ≤ B.h) := Lib.hid (by have := HB1.out.size; omega)
  have HAh := Lib.hid hah
  have HB2 := Lib.hid (HB1.out.trans (hb.mono HB1.out.size))
  clear hp hges hah hb
  go_wp2_with fail
  refine (HN2.out _ (HGw.out.next HB2.out)).mono ?_
  rintro e w3 ⟨rfl, hb⟩
  have HP3 := Lib.hid ((HP2.out.next hb).alloc (.cells (NS1.map Value.string).toArray 39))
  have HB3 := Lib.hid ((HB2.out.trans (hb.mono HB2.out.size)).alloc (Nat.le_trans HB2.out.size hb.size) (.cells (NS1.map Value.string).toArray 39))
  have HR3 := Lib.hid (srow_lit w3 39 NS1 (by decide))
  clear hb
  go_wp2_with fail
  refine (K1.out B _ _ (HGw.out.next HB3.out) HB3.out HGe.out HP3.out HAh.out HR3.out).mono ?_
  rintro e w4 ⟨v5, rfl, hr, hp, hk⟩
  have HS : Hid (Sn w w4 B v5) := Lib.hid ⟨HB3.out.trans (hk.below HB3.out.size HGe.out.1 HGe.out.2), hp, hr, HAh.out, HGe.out, hk.grd (HGw.out.next HB3.out) HB3.out HGe.out.1 HGe.out.2 HGw.out⟩
  clear hr hp hk HB0 HB1 HB2 HB3 HP2 HP3 HR3 HN HN2 HL
  go_wp2_with fail
  have HR4 := Lib.hid (srow_lit w4 39 NS2 (by decide))
  replace HS := Lib.hid (HS.out.alloc (.cells (NS2.map Value.string).toArray 39))
  refine (K2.out B _ _ HS.out.gr HS.out.bel HGe.out HS.out.at_ HAh.out HR4.out).mono ?_
  rintro e w5 ⟨rfl, hp, hk⟩
  replace HS := Lib.hid (HS.out.act hk hp HGw.out)
  clear hp hk HR4
  go_wp2_with fail
  refine (O1.out B _ HS.out.at_).mono ?_
  rintro e w6 ⟨⟨os, oh, ol, rfl⟩, hb⟩
  replace HS := Lib.hid ((HS.out.next hb).alloc (.cells #[.bool os, .int .u64 (oh : Int), .int .u64 (ol : Int)] 29))
  clear hb
  go_wp2_with fail
  refine (GV.out B _ HS.out.gr HS.out.at_ HAh.out).mono ?_
  rintro e w7 ⟨rfl, hp, hk⟩
  replace HS := Lib.hid ((HS.out.act hk hp HGw.out).alloc (.cells #[.bool false, .int .u64 0, .int .u64 0] 29))
  clear hp hk
  go_wp2_with fail
  refine (pClone_any HS.out.at_).mono ?_
  rintro e w8 ⟨B', rfl, hp, hah, hg1, hg2, hg3, hg4, hb⟩
  have HM : Hid (Sm w w8 B v5 B' KH) := Lib.hid (by
    have hlt := HS.out.at_.lt
    have hz := HS.out.bel.size
    refine ⟨HS.out.next hb, hp, ?_, ?_, ?_⟩
    · omega
    · rw [hg4]
      exact ⟨⟨by omega, by omega⟩, HS.out.at_.sa, HS.out.at_.sh⟩
    · omega)
  clear hp hah hg1 hg2 hg3 hg4 hb HS
  go_wp2_with fail
  refine (D1.out B' _ HM.out.q).mono ?_
  rintro e w9 ⟨rfl, hp, hk⟩
  replace HM := Lib.hid (HM.out.actQ hk hp HGw.out)
  clear hp hk
  go_wp2_with fail
  refine (O2.out B _ HM.out.st.at_).mono ?_
  rintro e w10 ⟨rfl, hb⟩
  replace HM := Lib.hid ((HM.out.next hb).alloc (.cells #[.bool ks, .int .u64 (kh : Int), .int .u64 (kl : Int)] 29))
  clear hb
  have hl := Lies.new w10 29 #[.bool ks, .int .u64 (kh : Int), .int .u64 (kl : Int)]
  obtain ⟨⟨x0, x1, x2⟩, _⟩ := ad_cells hl
  clear hl
  go_wp2_with fail
  refine (HH.out B _ HM.out.st.at_).mono ?_
  rintro e w11 ⟨rfl, hb⟩
  replace HM := Lib.hid (HM.out.next hb)
  clear hb x0 x1 x2
  go_wp2_with fail
  have HR := Lib.hid (srow_lit w11 39 [nC] (by decide))
  replace HM := Lib.hid (HM.out.alloc (.cells ([nC].map Value.string).toArray 39))
  refine (sameNames_any HM.out.st.row HR.out).mono ?_
  rintro e w12 ⟨rfl, hb⟩
  replace HM := Lib.hid (HM.out.next hb)
  clear hb HR
  go_wp2_with fail
  refine (F1.out B _ HM.out.st.at_).mono ?_
  rintro e w13 ⟨rfl, nd, rfl⟩
  obtain ⟨W13, hW13⟩ : ∃ W, w12.drewN nd = W := ⟨_, rfl⟩
  replace HM := Lib.hid (HM.out.draw nd)
  rw [hW13] at HM ⊢
  clear hW13
  go_wp2_with fail
  refine (F2.out B' _ HM.out.q).mono ?_
  rintro e w14 ⟨rfl, nd, rfl⟩
  obtain ⟨W14, hW14⟩ : ∃ W, W13.drewN nd = W := ⟨_, rfl⟩
  replace HM := Lib.hid (HM.out.draw nd)
  rw [hW14] at HM ⊢
  clear hW14
  go_wp2_with fail
  refine (A1.out B _ HM.out.st.at_).mono ?_
  rintro e w15 ⟨⟨A15, c15, rfl⟩, hb⟩
  replace HM := Lib.hid (HM.out.next hb)
  clear hb
  go_wp2_with fail
  refine (A2.out B' _ HM.out.q).mono ?_
  rintro e w16 ⟨⟨A16, c16, rfl⟩, hb⟩
  replace HM := Lib.hid (HM.out.next hb)
  clear hb
  go_wp2_with fail
  refine (D2.out B _ HM.out.st.at_).mono ?_
  rintro e w17 ⟨rfl, hp, hk⟩
  replace HM := Lib.hid (HM.out.actP hk hp HGw.out)
  clear hp hk
  go_wp2_with fail
  refine (HT.out _).mono ?_
  rintro e w18 ⟨rfl, hb⟩
  replace HM := Lib.hid (HM.out.next hb)
  clear hb
  have hfd : ∀ wx : World, (Instr.field 34 (.agg #[.bool false, .int .u64 0, .int .u64 167772160, .int .i64 31, .slice none 0 0]) 0).run Tryd.prog wx = .ok (.agg #[.bool false, .int .u64 0, .int .u64 167772160, .int .i64 31]) wx := fun wx => by kernel_rfl
  go_wp2_with fail
  have hl19 := Lies.new w18 31 #[.bool false, .int .u64 0, .int .u64 0, .int .i64 (-1)]
  have hrow : RgRow (w18.alloc (.cells #[.bool false, .int .u64 0, .int .u64 0, .int .i64 (-1)] 31)) (.slice (some ⟨w18.heap.size, 0, none⟩) 1 1) [((false, 0, 0), -1)] := by
    refine ⟨⟨_, 1, rfl, Nat.le_refl _, by unfold maxLen; decide, fun j hj => ?_⟩, fun x hx => ?_⟩
    · obtain rfl : j = 0 := by simpa using hj
      exact ⟨w18.heap.size, 0, rfl, hl19.lt, hl19.cell 0, hl19.cell 1, hl19.cell 2, hl19.cell 3⟩
    · rw [List.mem_singleton] at hx
      subst hx
      unfold fitA
      decide
  have hck := vCheck_any (p := ⟨(false, 0, 167772160), 31, [((false, 0, 0), -1)]⟩) (HM.out.alloc (.cells #[.bool false, .int .u64 0, .int .u64 0, .int .i64 (-1)] 31)).st.gr (by unfold fitA; decide) hrow
  rw [Q8.out] at hck
  refine hck.mono ?_
  rintro e w19 ⟨rfl, hb⟩
  replace HM := Lib.hid ((HM.out.alloc (.cells #[.bool false, .int .u64 0, .int .u64 0, .int .i64 (-1)] 31)).next hb)
  clear hb hl19 hrow hck
  go_wp2_with fail
  go_ret
  exact ⟨rfl, HM.out.st.bel⟩
end Go.Proofs.YthlabpbplikjbaaDoor
