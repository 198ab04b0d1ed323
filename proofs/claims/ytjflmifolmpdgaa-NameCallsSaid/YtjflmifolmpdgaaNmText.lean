/-
  What name.Text answers: the walk. Condition: the name is no longer than Go's own limit.
-/
import Derived.Test.YtjflmifolmpdgaaNmLabels
namespace Go.Proofs.Ytjflmifolmpdgaa
open Go.RowKit Go.Shelf
set_option linter.unusedVariables false
attribute [local go_sem] Oper.semAt_some

theorem two_set {W : World} {b c : Nat} {t u : TypeId} {v z : Value} (h : Boxed W b t v) (k : Boxed W c u z) (hne : b ≠ c) (x y : Value) :
    Boxed ((W.setCell ⟨b, 0, none⟩ x).setCell ⟨c, 0, none⟩ y) b t x ∧ Boxed ((W.setCell ⟨b, 0, none⟩ x).setCell ⟨c, 0, none⟩ y) c u y :=
  ⟨(h.set x).other hne y, (k.other (Ne.symm hne) x).set y⟩

/-- What Text answers. -/
def NTx (w : World) (l : List UInt8) (e : Ending) (w' : World) : Prop := e = .returned (.tuple #[.string ⟨(txN l).toArray⟩, .int .i64 (chkN l)]) ∧ Below w.heap.size w w'

set_option maxHeartbeats 1000000 in
theorem nText_bad (n : ByteArray) (w : World) (hs : n.size ≤ maxLen) (hc : chkN (bs n) ≠ 0) : Calls Try.prog 14 #[.string n] w (NTx w (bs n)) := by
  have HC := Lib.hid (fun wx => nCheck_any n wx hs)
  have hb : ((chkN (bs n) : Int) != 0) = true := bne_iff_ne.2 (by omega)
  have HE : Hid (txN (bs n) = []) := Lib.hid (if_neg hc)
  clear hc hs
  have b2 := Boxed.new w 9 (.string ⟨#[]⟩)
  have b3 := Boxed.new (w.alloc (.cells #[.string ⟨#[]⟩] 9)) 24 (.int .i64 0)
  rw [World.size_alloc] at b3
  go_enter Try.func14, Try.ntmps14
  go_wp2_with fail
  refine (HC.out _).mono ?_
  rintro e w1 ⟨rfl, hb1⟩
  have c2 := boxed_below (b2.alloc _) hb1
  have c3 := boxed_below b3 hb1
  have x2 := c2.cell
  have x3 := c3.cell
  have f2 := c2.frozen
  have f3 := c3.frozen
  go_wp2
  obtain ⟨d2, d3⟩ := two_set c2 c3 (by omega) (.string ⟨#[]⟩) (.int .i64 (chkN (bs n)))
  refine bodyPost_ret (v := .tuple #[.string ⟨#[]⟩, .int .i64 (chkN (bs n))]) (by simp [results, Try.results14, go_sem, d2.cell, d3.cell]) rfl ⟨by rw [HE.out], ?_⟩
  exact (((((Below.refl _ w).alloc (Nat.le_refl _) _).alloc (by simp) _).trans (hb1.mono (by simp; omega))).setCell (p := ⟨w.heap.size, 0, none⟩) (Nat.le_refl _) _).setCell (p := ⟨w.heap.size + 1, 0, none⟩) (by simp) _

set_option maxHeartbeats 1000000 in
theorem nText_root (n : ByteArray) (w : World) (h0 : n.size = 0) : Calls Try.prog 14 #[.string n] w (NTx w (bs n)) := by
  have hn : bs n = [] := List.eq_nil_of_length_eq_zero (by rw [bs_length]; exact h0)
  have hc : chkN (bs n) = 0 := by rw [hn]; exact chkN_nil
  have HC : Hid (∀ wx, Calls Try.prog 17 #[.string n] wx fun e w' => e = .returned (.int .i64 0) ∧ Below wx.heap.size wx w') := Lib.hid (fun wx => by
    have := nCheck_any n wx (by unfold maxLen; omega)
    rw [hc] at this
    exact this)
  have HE : Hid (txN (bs n) = [46]) := Lib.hid (by rw [hn]; rfl)
  have HZ := Lib.hid hc
  have e1 := empty_yes h0
  clear hc hn h0
  have b2 := Boxed.new w 9 (.string ⟨#[]⟩)
  have b3 := Boxed.new (w.alloc (.cells #[.string ⟨#[]⟩] 9)) 24 (.int .i64 0)
  rw [World.size_alloc] at b3
  go_enter Try.func14, Try.ntmps14
  go_wp2_with fail
  refine (HC.out _).mono ?_
  rintro e w1 ⟨rfl, hb1⟩
  have c2 := boxed_below (b2.alloc _) hb1
  have c3 := boxed_below b3 hb1
  have x2 := c2.cell
  have x3 := c3.cell
  have f2 := c2.frozen
  have f3 := c3.frozen
  go_wp2
  obtain ⟨d2, d3⟩ := two_set c2 c3 (by omega) (.string ⟨#[46]⟩) (.int .i64 0)
  refine bodyPost_ret (v := .tuple #[.string ⟨#[46]⟩, .int .i64 0]) (by simp [results, Try.results14, go_sem, d2.cell, d3.cell]) rfl ⟨by rw [HE.out, HZ.out]; rfl, ?_⟩
  exact (((((Below.refl _ w).alloc (Nat.le_refl _) _).alloc (by simp) _).trans (hb1.mono (by simp; omega))).setCell (p := ⟨w.heap.size, 0, none⟩) (Nat.le_refl _) _).setCell (p := ⟨w.heap.size + 1, 0, none⟩) (by simp) _

/-- What Text's loop keeps. -/
def TxI (w : World) (B : Nat) (pre : List Lab) (W : World) : Prop :=
  (Boxed W w.heap.size 9 (.string ⟨#[]⟩) ∧ Boxed W (w.heap.size + 1) 24 (.int .i64 0)) ∧ Boxed W B 9 (.string ⟨(tN (pre.map lb)).toArray⟩) ∧ Below w.heap.size w W
theorem txI_own (w : World) (B K : Nat) (hK : w.heap.size ≤ K) : OwnFrom K (TxI w B) :=
  OwnFrom.and (OwnFrom.and (Own.from (boxed_own w.heap.size 9 (fun _ : List Lab => Value.string ⟨#[]⟩)) _) (Own.from (boxed_own (w.heap.size + 1) 24 (fun _ : List Lab => Value.int .i64 0)) _))
    (OwnFrom.and (Own.from (boxed_own B 9 (fun pre : List Lab => Value.string ⟨(tN (pre.map lb)).toArray⟩)) _) (ownFrom_below (Nat.le_refl _) hK))
theorem tN_lab (pre : List Lab) (x : Lab) : tN ((pre ++ [x]).map lb) = tN (pre.map lb) ++ (tx (bs x.1) ++ [46]) := by rw [List.map_append, List.map_cons, List.map_nil, tN_snoc]; rfl

set_option maxRecDepth 100000 in
set_option maxHeartbeats 4000000 in
theorem nText_loop (n : ByteArray) (w : World) (hc : chkN (bs n) = 0) (h0 : 0 < n.size) : Calls Try.prog 14 #[.string n] w (NTx w (bs n)) := by
  obtain ⟨L, l1, l2, l3, l4⟩ := chkN_out hc
  have hns : n.size ≤ 254 := by have := (chkN_iff.1 hc).1; rw [bs_length] at this; exact this
  have hN : (labs (bs n)).length ≤ 254 := by
    have := enc_two l1
    rw [l3]
    omega
  have hm : n.size ≤ maxLen := by unfold maxLen; omega
  obtain ⟨e1, e2⟩ := empty_no h0
  have HC : Hid (∀ wx, Calls Try.prog 17 #[.string n] wx fun e w' => e = .returned (.int .i64 0) ∧ Below wx.heap.size wx w') := Lib.hid (fun wx => by
    have := nCheck_any n wx hm
    rw [hc] at this
    exact this)
  have HE : Hid (txN (bs n) = tN (labs (bs n))) := Lib.hid (by unfold txN; rw [if_pos hc, if_neg (by rw [bs_length]; omega)])
  have HZ := Lib.hid hc
  clear hc l1 l2 l3 l4 h0
  refine (callsIn_wide (n := 9)).1 ?_
  refine callsIn_of_wp_marks Try.func14 rfl trivial ?_ rfl
  simp only [Try.ntmps14, List.size_toArray, List.length_cons, List.length_nil, Nat.reduceAdd, Nat.reduceSub, Array.replicate_succ, Array.replicate_zero, List.push_toArray, List.append_toArray, List.nil_append, List.cons_append]
  have b2 := Boxed.new w 9 (.string ⟨#[]⟩)
  have b3 := Boxed.new (w.alloc (.cells #[.string ⟨#[]⟩] 9)) 24 (.int .i64 0)
  rw [World.size_alloc] at b3
  gi_wp2_with (first | (refine ⟨trivial, ?_⟩; gi_at_call 17; refine (callsIn_wide.2 (HC.out _)).mono ?_; rintro e w1 ⟨rfl, hb1⟩) | (refine ⟨trivial, ?_⟩; gi_at_call 43; refine (callsIn_wide.2 (each_any _ _)).mono ?_; rintro e w2 ⟨rfl, rfl⟩))
  have c2 := boxed_below (b2.alloc _) hb1
  have c3 := boxed_below b3 hb1
  have hz1 : w.heap.size + 2 ≤ w1.heap.size := by have := hb1.size; simp at this; omega
  have hB1 : Below w.heap.size w w1 := (((Below.refl _ w).alloc (Nat.le_refl _) _).alloc (by simp) _).trans (hb1.mono (by simp; omega))
  have bO := Boxed.new w1 9 (.string ⟨#[]⟩)
  have bN := Boxed.new (w1.alloc (.cells #[.string ⟨#[]⟩] 9)) 23 (.string n)
  rw [World.size_alloc] at bN
  have hB0 : Below w.heap.size w ((w1.alloc (.cells #[.string ⟨#[]⟩] 9)).alloc (.cells #[.string n] 23)) := (hB1.alloc hB1.size _).alloc (by simp; omega) _
  refine wpIn_rangeFunc_ownG rfl (by omega) (gf := 62) (lb := #[.pointer (some ⟨w1.heap.size + 1, 0, none⟩)]) rfl trivial (enters_of Try.func62 (by kernel_rfl) rfl)
    (each_stops _ (w1.heap.size + 1) (by omega) n hm _ (by simp) bN.cell) (fun _ _ => trivial) (fun _ _ _ _ _ _ _ _ => trivial) (Below.refl _ _) (fun _ => rfl)
    (TxI w w1.heap.size) (fun _ _ _ => False) (txI_own w _ _ (by simp; omega)) (fun _ _ _ _ _ hs _ _ => hs)
    ⟨⟨(c2.alloc _).alloc _, (c3.alloc _).alloc _⟩, bO.alloc _, hB0⟩ ?a1 ?assign ?body ?done ?stop
  case assign =>
    intro l x W K hK
    gi_wp2
    exact hK
  case body =>
    rintro l pre x W ⟨⟨g2, g3⟩, hv, hB⟩ hlt
    have hle := lb_le pre
    have htn := tN_len (pre.map lb)
    obtain ⟨T, hT⟩ : ∃ T : ByteArray, bs T = tx (bs x.1) := ⟨_, bs_mk _⟩
    have hTs : T.size ≤ 252 := by
      have := tx_size hT
      have h2 := x.2.2
      rw [bs_length] at h2
      omega
    obtain ⟨S, hS⟩ : ∃ S : ByteArray, S = ⟨(tN (pre.map lb)).toArray⟩ := ⟨_, rfl⟩
    have hSs : S.size ≤ 65024 := by
      rw [← bs_length, hS, bs_mk]
      omega
    rw [← hS] at hv
    have HT := Lib.hid hT
    have HS : Hid (bs S = tN (pre.map lb)) := Lib.hid (by rw [hS, bs_mk])
    have HX := Lib.hid (fun wx => Text_yes x.1 T wx (ok1_chk.1 x.2) hT)
    clear hS hT hle htn
    gi_wp2_with (refine ⟨trivial, ?_⟩; gi_at_call 44; refine (CallsIn.inRound l (callsIn_wide.2 (HX.out _))).mono ?_; rintro e w3 ⟨rfl, hb3⟩; have hv3 := boxed_below hv hb3; have hc3 := hv3.cell; have hf3 := hv3.frozen)
    have e : S ++ (T ++ ⟨#[46]⟩) = ⟨(tN ((pre ++ [x]).map lb)).toArray⟩ := bs_inj (by rw [bs_append, bs_append, HS.out, HT.out, bs_mk (tN ((pre ++ [x]).map lb)), tN_lab]; rfl)
    have HEE := Lib.hid e
    clear e
    gi_wp2
    rw [HEE.out]
    exact ⟨(keepsFrom_below hb3).trans ((KeepsOthers.setCell _ _ _).from _), trivial, ⟨(boxed_below g2 hb3).other (by omega) _, (boxed_below g3 hb3).other (by omega) _⟩, hv3.set _, (hB.trans (hb3.mono hB.size)).setCell (p := ⟨w1.heap.size, 0, none⟩) (by show w.heap.size ≤ w1.heap.size; omega) _⟩
  case done =>
    rintro D ys W hD hS ⟨⟨g2, g3⟩, hv, hB⟩ hK
    rw [hS] at hv
    have hc := hv.cell
    have hf2 := g2.frozen
    have hf3 := g3.frozen
    have hx2 := g2.cell
    have hx3 := g3.cell
    have hD' : w1.heap.size + 2 ≤ D := by simp at hD; omega
    have HS := Lib.hid hS
    clear hS hD
    gi_wp2
    obtain ⟨d2, d3⟩ := two_set g2 g3 (by omega) (.string ⟨(tN (labs (bs n))).toArray⟩) (.int .i64 0)
    have hK' := ((KeepsOthers.setCell W ⟨w.heap.size, 0, none⟩ (.string ⟨(tN (labs (bs n))).toArray⟩)).trans (KeepsOthers.setCell _ ⟨w.heap.size + 1, 0, none⟩ (.int .i64 0))).same D _ hK rfl
    refine ⟨by simp, .inl ⟨_, _, rfl, run_takeDeferred hK', ?_⟩⟩
    have d2' := cell_kept d2.cell (grownBy_putObj' _ D (.deferred none)) (fun r e => by cases e; exact ⟨_, hK', rfl⟩)
    have d3' := cell_kept d3.cell (grownBy_putObj' _ D (.deferred none)) (fun r e => by cases e; exact ⟨_, hK', rfl⟩)
    refine ⟨.tuple #[.string ⟨(tN (labs (bs n))).toArray⟩, .int .i64 0], by simp [results, Try.results14, go_sem, d2', d3'], by rw [HE.out, HZ.out]; rfl, ?_⟩
    exact ((hB.setCell (p := ⟨w.heap.size, 0, none⟩) (Nat.le_refl _) _).setCell (p := ⟨w.heap.size + 1, 0, none⟩) (by simp) _).trans (belowK_b (w := w) (Nat.le_refl _) _ D _ _ (by omega) hK' rfl rfl)
  case stop =>
    rintro D c pre W _ _ h _
    exact h.elim

theorem nText_any (n : ByteArray) (w : World) (hs : n.size ≤ maxLen) : Calls Try.prog 14 #[.string n] w (NTx w (bs n)) := by
  by_cases hc : chkN (bs n) = 0
  · rcases Nat.eq_zero_or_pos n.size with h0 | h0
    · exact nText_root n w h0
    · exact nText_loop n w hc h0
  · exact nText_bad n w hs hc
end Go.Proofs.Ytjflmifolmpdgaa
