/-
  hash.Probe as the laws meet it; HashNames: the walk. Condition: the places are numbers that Go can have.
-/
import Derived.Test.YtmjhofgcfolelaaHsB
namespace Go.Proofs.Ytmjhofgcfolelaa
open Go.RowKit Go.Shelf
set_option linter.unusedVariables false
attribute [local go_sem] Oper.semAt_some

theorem rnd_len {a b : Int} (h0 : 0 ≤ a) (h1 : a ≤ b) : (rnd a b).length = b.toNat := by unfold rnd; rw [List.length_append, upto_len, upto_len]; omega
theorem rnd_get {a b : Int} (h0 : 0 ≤ a) (h1 : a < b) (i : Nat) (hi : i < b.toNat) : (rnd a b)[i]'(by rw [rnd_len h0 (by omega)]; exact hi) = (a + i) % b := by
  unfold rnd
  by_cases h : i < (b - a).toNat
  · rw [List.getElem_append_left (by rw [upto_len]; exact h)]
    simp only [upto, List.getElem_map, List.getElem_range]
    rw [Int.emod_eq_of_lt (by omega) (by omega)]
  · rw [List.getElem_append_right (by rw [upto_len]; omega)]
    simp only [upto, List.getElem_map, List.getElem_range, List.length_map, List.length_range]
    have e : a + (i : Int) = (a + i - b) + b := by omega
    rw [e, Int.add_emod_right, Int.emod_eq_of_lt (by omega) (by omega)]
    omega
/-- Who comes next: the place behind so many. -/
theorem rnd_next {a b : Int} (h0 : 0 ≤ a) (h1 : a < b) {pre : List Int} {x : Int} (h : pre ++ [x] <+: rnd a b) : pre.length < b.toNat ∧ x = (a + pre.length) % b ∧ pre <+: rnd a b := by
  have hl := h.length_le
  rw [rnd_len h0 (by omega), List.length_append, List.length_singleton] at hl
  refine ⟨by omega, ?_, (List.prefix_append _ _).trans h⟩
  rw [← rnd_get h0 h1 pre.length (by omega), ← h.getElem (by simp)]
  simp

/-- What Probe hands back: round's closure over two boxes. -/
structure PrV (w w' : World) (v : Value) (g : Nat) (a b : Int) : Prop where
  val : v = .func (.func 31) #[] #[.pointer (some ⟨g, 0, none⟩), .pointer (some ⟨g + 1, 0, none⟩)]
  bel : Below w.heap.size w w'
  ge : w.heap.size ≤ g
  lt : g + 1 < w'.heap.size
  b1 : Boxed w' g 3 (.int .i64 a)
  b2 : Boxed w' (g + 1) 3 (.int .i64 b)
theorem Probe_any {n : ByteArray} (hs : n.size ≤ maxLen) {k : Int} (hk : k ≤ 9223372036854775807) (w : World) :
    Calls Try.prog 9 #[.string n, .int .i64 k] w fun e w' => ∃ v g, e = .returned v ∧ PrV w w' v g (slotH (bs n) k) k := by
  have h1 := Lib.hid (gSlot hs hk rfl)
  obtain ⟨s, hsl⟩ : ∃ s, slotH (bs n) k = s := ⟨_, rfl⟩
  rw [hsl] at h1 ⊢
  go_enter Try.func9, Try.ntmps9
  go_wp2_with fail
  refine (h1.out.go _).mono ?_
  rintro e w1 ⟨rfl, hb⟩
  go_wp2_with fail
  refine (round_any _ _ _).mono ?_
  rintro e w2 ⟨rfl, rfl⟩
  go_wp2
  go_ret
  refine ⟨_, w1.heap.size, rfl, rfl, (hb.alloc hb.size _).alloc (by rw [World.size_alloc]; exact Nat.le_succ_of_le hb.size) _, hb.size, by simp, (Boxed.new w1 _ _).alloc _, ?_⟩
  have := Boxed.new (w1.alloc (.cells #[.int .i64 s] 3)) 3 (.int .i64 k)
  rw [World.size_alloc] at this
  exact this

theorem below_defer {w w' : World} {D : Nat} (hb : Below w.heap.size w w') (h : w.heap[D]? = some (.deferred (some []))) : w'.heap[D]? = some (.deferred (some [])) := (hb.block D (Array.getElem?_eq_some_iff.1 h).1).trans h
theorem not_nil (g : Nat) : ∀ wx : World, (binOp .eql 24 (.func (.func 31) #[] #[.pointer (some ⟨g, 0, none⟩), .pointer (some ⟨g + 1, 0, none⟩)]) .nilFunc).run Try.prog wx = .ok (.bool false) wx := fun _ => by kernel_rfl

theorem slot_one (l : List UInt8) : slotH l 1 = 0 := by unfold slotH; rw [if_neg (by decide), Int.emod_one]
theorem fold_aA : foldN (bs ⟨#[1, 65]⟩) = bs ⟨#[1, 97]⟩ := by decide +kernel

set_option maxRecDepth 100000 in
set_option maxHeartbeats 4000000 in
theorem HashNames_walk (w : World) :
    Calls Try.prog 3 #[] w fun e w' => e = .returned (.bool true) ∧ Below w.heap.size w w' := by
  have hP := Lib.hid fun wx => Probe_any (n := ⟨#[1, 97]⟩) (by decide) (k := 0) (by decide) wx
  obtain ⟨v1, hv1⟩ : ∃ v, sumH (bs ⟨#[97]⟩) = v := ⟨_, rfl⟩
  obtain ⟨v2, hv2⟩ : ∃ v, sumH (bs ⟨#[97, 98]⟩) = v := ⟨_, rfl⟩
  obtain ⟨v3, hv3⟩ : ∃ v, sumH (bs ⟨#[1, 97]⟩) = v := ⟨_, rfl⟩
  have g1 := Lib.hid (gSum (s := ⟨#[97]⟩) (by decide) hv1)
  have g2 := Lib.hid (gMore v1 (s := ⟨#[98]⟩) (by decide) (v := v2) (by rw [← hv1, ← hv2]; exact (moreH_app h0 [97] [98]).symm))
  have g3 := Lib.hid (gSum (s := ⟨#[97, 98]⟩) (by decide) hv2)
  have g4 := Lib.hid (gName (n := ⟨#[1, 65]⟩) (by decide) (v := v3) ((congrArg sumH fold_aA).trans hv3))
  have g5 := Lib.hid (gSum (s := ⟨#[1, 97]⟩) (by decide) hv3)
  have g6 := Lib.hid (gSlot (n := ⟨#[1, 97]⟩) (by decide) (k := 0) (by decide) (v := 0) (by decide +kernel))
  have g7 := Lib.hid (gSlot (n := ⟨#[1, 97]⟩) (by decide) (k := 1) (by decide) (v := 0) (slot_one _))
  have s0 : slotH (bs ⟨#[1, 97]⟩) 0 = 0 := by decide +kernel
  rw [s0] at hP
  have hL := Lib.hid lives13
  clear hv1 hv2 hv3 s0
  refine (callsIn_wide (n := 19)).1 ?_
  refine callsIn_of_wp_marks Try.func3 rfl trivial ?_ rfl
  simp only [Try.ntmps3, List.size_toArray, List.length_nil, Nat.reduceSub, Array.replicate_succ, Array.replicate_zero, List.push_toArray, List.append_toArray, List.nil_append, List.cons_append]
  gi_wp2_with fail
  refine ⟨trivial, ?_⟩
  refine (callsIn_wide.2 (hL.out.go _)).mono ?_
  rintro e w1 ⟨rfl, hb1⟩
  gi_wp2_with fail
  refine ⟨trivial, ?_⟩
  refine (callsIn_wide.2 (hP.out _)).mono ?_
  rintro e w2 ⟨v, g, rfl, hv⟩
  obtain ⟨hval, hb2, hge, hlt, b1, b2⟩ := hv
  subst hval
  have hnn := not_nil g
  gi_wp2
  have hBo : Boxed (w2.alloc (.cells #[.int .i64 0] 3)) w2.heap.size 3 (.int .i64 0) := Boxed.new w2 _ _
  have hBb : Below w.heap.size w (w2.alloc (.cells #[.int .i64 0] 3)) := (next hb1 hb2).alloc (Nat.le_trans hb1.size hb2.size) _
  have hzz : (w2.alloc (.cells #[.int .i64 0] 3)).heap.size = w2.heap.size + 1 := by simp
  obtain ⟨W, hW⟩ : ∃ W, w2.alloc (.cells #[.int .i64 0] 3) = W := ⟨_, rfl⟩
  have c1 : Boxed W g 3 (.int .i64 0) := by rw [← hW]; exact b1.alloc _
  have c2 : Boxed W (g + 1) 3 (.int .i64 0) := by rw [← hW]; exact b2.alloc _
  rw [hW] at hBo hBb hzz ⊢
  have hbz := hb1.size
  have hlW : w.heap.size ≤ W.heap.size := hBb.size
  have hlw2 := Nat.le_trans hb1.size hb2.size
  clear hW b1 b2 hb1 hb2 hnn
  refine range_own rfl (by decide) (gf := 31) (bd := #[]) (lb := #[.pointer (some ⟨g, 0, none⟩), .pointer (some ⟨g + 1, 0, none⟩)]) rfl trivial (enters_of Try.func31 (by kernel_rfl) rfl)
    (round_seq _ g (by decide) 0 0 W (by decide) (by decide) (by decide) (by omega) c1 c2) (Below.refl _ _) (fun b h => by rcases h with rfl | rfl <;> omega) (fun _ => rfl)
    (fun pre T W' => pre = [] ∧ (∀ b, ¬ T b) ∧ Boxed W' w2.heap.size 3 (.int .i64 0) ∧ Below w.heap.size w W') (fun _ _ _ => False)
    ?hI (fun _ _ _ _ _ h _ _ => h) (fun _ e => by cases e) (fun _ _ _ h b _ => h.2.1 b) (fun _ => False) (fun _ _ h => h) ⟨rfl, fun _ h => h, hBo, hBb⟩ (fun _ _ _ => True) (fun _ _ => ownFrom_pure _ _) ?assign ?body ?done ?stop
  case hI =>
    rintro T pre X Y row ⟨e, hn, hbx, hbl⟩ hg hr
    exact ⟨e, hn, hbx.kept hg (fun e' => by have := (hr _ e'.symm).1; omega), ownFrom_below (β := Unit) (Nat.le_refl _) hBb.size () X Y row hbl hg hr⟩
  case assign =>
    intro l2 pre x T W' K hI hK
    gi_wp2
    exact hK _ _ _ (Kpt.refl _ _) hI trivial
  case body =>
    intro l2 pre x a' T W' _ _ hI _ hlt
    rw [hI.1] at hlt
    exact absurd hlt.length_le (by rw [show rnd 0 0 = [] from rfl]; simp)
  case stop => exact fun _ _ _ _ _ _ h _ => h.elim
  case done =>
    rintro D xs T W' hD hnD hS ⟨e, hn, hbx, hbl⟩ hK
    have hc := hbx.cell
    have HB10 := Lib.hid hbl
    have hK10 := hK
    have hx10 := hbx
    gi_wp2_with fail
    refine ⟨trivial, ?_⟩
    refine (callsIn_wide.2 (g1.out.go _)).mono ?_
    rintro e w11 ⟨rfl, hb11⟩
    have HB11 := Lib.hid (next HB10.out hb11)
    have hK11 := below_defer hb11 hK10
    have hx11 := boxed_below hx10 hb11
    clear hb11
    gi_wp2_with fail
    refine ⟨trivial, ?_⟩
    refine (callsIn_wide.2 (g2.out.go _)).mono ?_
    rintro e w12 ⟨rfl, hb12⟩
    have HB12 := Lib.hid (next HB11.out hb12)
    have hK12 := below_defer hb12 hK11
    have hx12 := boxed_below hx11 hb12
    clear hb12
    gi_wp2_with fail
    refine ⟨trivial, ?_⟩
    refine (callsIn_wide.2 (g3.out.go _)).mono ?_
    rintro e w13 ⟨rfl, hb13⟩
    have HB13 := Lib.hid (next HB12.out hb13)
    have hK13 := below_defer hb13 hK12
    have hx13 := boxed_below hx12 hb13
    clear hb13
    gi_wp2_with fail
    refine ⟨trivial, ?_⟩
    refine (callsIn_wide.2 (g4.out.go _)).mono ?_
    rintro e w14 ⟨rfl, hb14⟩
    have HB14 := Lib.hid (next HB13.out hb14)
    have hK14 := below_defer hb14 hK13
    have hx14 := boxed_below hx13 hb14
    clear hb14
    gi_wp2_with fail
    refine ⟨trivial, ?_⟩
    refine (callsIn_wide.2 (g5.out.go _)).mono ?_
    rintro e w15 ⟨rfl, hb15⟩
    have HB15 := Lib.hid (next HB14.out hb15)
    have hK15 := below_defer hb15 hK14
    have hx15 := boxed_below hx14 hb15
    clear hb15
    gi_wp2_with fail
    refine ⟨trivial, ?_⟩
    refine (callsIn_wide.2 (g6.out.go _)).mono ?_
    rintro e w16 ⟨rfl, hb16⟩
    have HB16 := Lib.hid (next HB15.out hb16)
    have hK16 := below_defer hb16 hK15
    have hx16 := boxed_below hx15 hb16
    clear hb16
    gi_wp2_with fail
    refine ⟨trivial, ?_⟩
    refine (callsIn_wide.2 (g7.out.go _)).mono ?_
    rintro e w17 ⟨rfl, hb17⟩
    have HB17 := Lib.hid (next HB16.out hb17)
    have hK17 := below_defer hb17 hK16
    have hx17 := boxed_below hx16 hb17
    clear hb17
    have hc := hx17.cell
    gi_wp2
    refine ⟨by simp, .inl ⟨_, _, rfl, run_takeDeferred hK17, ?_⟩⟩
    exact ⟨_, results_tmp rfl _ _ _, rfl, HB17.out.trans (belowK_b (w := w) (Nat.le_refl _) w17 D _ _ (Nat.le_trans hlW hD) hK17 rfl rfl)⟩
end Go.Proofs.Ytmjhofgcfolelaa
