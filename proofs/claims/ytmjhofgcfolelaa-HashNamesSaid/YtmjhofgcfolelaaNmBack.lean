/-
  A name's labels from the root's side on: slices.Backward over a row of strings, name.backward: the walks. Conditions: as each theorem names them.
-/
import Derived.Test.YtmjhofgcfolelaaNmLabels
namespace Go.Proofs.Ytmjhofgcfolelaa
open Go.RowKit Go.Shelf
set_option linter.unusedVariables false
attribute [local go_sem] Oper.semAt_some

def blk (v : Value) : Option Nat := match v with
  | .slice (some a) _ cap => if cap = 0 then none else some a.block
  | _ => none
theorem blk_none (A : Option Addr) (n : Nat) : blk (.slice A n 0) = none := by cases A <;> rfl
theorem blk_some {a : Addr} {n cap : Nat} (h : 0 < cap) : blk (.slice (some a) n cap) = some a.block := if_neg (Nat.ne_of_gt h)
theorem blk_eq {a : Addr} {n cap k : Nat} (h : blk (.slice (some a) n cap) = some k) : 0 < cap ∧ a.block = k := by
  rcases Nat.eq_zero_or_pos cap with rfl | hc
  · cases (blk_none (some a) n).symm.trans h
  · rw [blk_some hc] at h
    injection h with h
    exact ⟨hc, h⟩
theorem SRow.kept {W W' : World} {v : Value} {L : List ByteArray} (h : SRow W v L) (hk : ∀ k, blk v = some k → W'.heap[k]? = W.heap[k]?) : SRow W' v L := by
  rcases h with h | ⟨g, off, cap, rfl, h2, h3, h4, h5⟩
  · exact .inl h
  · rcases Nat.eq_zero_or_pos cap with rfl | hc
    · exact .inl ⟨_, by rw [Nat.le_zero.1 h3], List.eq_nil_of_length_eq_zero (Nat.le_zero.1 h3)⟩
    have hk' : W'.heap[g]? = W.heap[g]? := hk g (blk_some hc)
    refine .inr ⟨g, off, cap, rfl, ?_, h3, h4, fun j hj => (World.cell?_of_block (w := W) hk').trans (h5 j hj)⟩
    rcases Nat.lt_or_ge g W'.heap.size with hlt | hge
    · exact hlt
    · rw [Array.getElem?_eq_none hge, Array.getElem?_eq_getElem h2] at hk'
      cases hk'
theorem SRow.blk {W : World} {v : Value} {L : List ByteArray} (h : SRow W v L) : ∀ k, blk v = some k → k < W.heap.size := by
  intro k hk
  rcases h with ⟨A, rfl, _⟩ | ⟨g, off, cap, rfl, h2, _⟩
  · rw [blk_none] at hk; cases hk
  · obtain ⟨_, hk⟩ := blk_eq hk
    subst hk
    exact h2
/-- What the iterator wants kept: the box and the row. -/
def KpB (b : Nat) (g : Option Nat) (W W' : World) : Prop := W'.heap[b]? = W.heap[b]? ∧ ∀ k, g = some k → W'.heap[k]? = W.heap[k]?
theorem kpB_t {b : Nat} {g : Option Nat} {X Y Z : World} (h : KpB b g X Y) (k : KpB b g Y Z) : KpB b g X Z := ⟨k.1.trans h.1, fun j hj => (k.2 j hj).trans (h.2 j hj)⟩
theorem kpB_b {b : Nat} {g : Option Nat} {w : World} (hb : b < w.heap.size) (hg : ∀ k, g = some k → k < w.heap.size) (W : World) (l : Nat) (o o' : Obj) (hl : w.heap.size ≤ l) (h : W.heap[l]? = some o) (_ : o.isCells = false) (_ : o.isWalk = false) : KpB b g W (W.putObj l o') :=
  ⟨World.putObj_heap_other (by omega), fun k hk => World.putObj_heap_other (by have := hg k hk; omega)⟩

theorem Backward_any (A : Option Addr) (n cap : Nat) (w : World) :
    Calls Try.prog 47 #[.slice A n cap] w fun e w' => e = .returned (.func (.func 50) #[] #[.pointer (some ⟨w.heap.size, 0, none⟩)]) ∧ w' = w.alloc (.cells #[.slice A n cap] 57) := by
  go_enter Try.func47, Try.ntmps47
  go_wp2
  go_ret
  exact ⟨rfl, rfl⟩

theorem rev_step (L : List ByteArray) (m : Nat) (h : m < L.length) : (L.drop m).reverse = (L.drop (m + 1)).reverse ++ [L[m]] := by
  rw [List.drop_eq_getElem_cons h, List.reverse_cons]

set_option maxRecDepth 100000 in
set_option maxHeartbeats 2000000 in
theorem back1_in (m l b : Nat) (hm : 1 ≤ m) (sv : Value) (L : List ByteArray) (J Jx : List (Int × ByteArray) → World → Prop) (W : World)
    (hY : ∀ pre x W1, J pre W1 → pre.length < L.length → YieldAt Fence.wide (m - 1) Try.prog l #[.int .i64 x.1, .string x.2] W1 fun e W' =>
      (e = .returned (.bool true) ∧ J (pre ++ [x]) W' ∧ KpB b (blk sv) W1 W') ∨ (e = .returned (.bool false) ∧ Jx (pre ++ [x]) W'))
    (hb : Boxed W b 57 sv) (hrow : SRow W sv L) (h0 : J [] W) :
    CallsIn Fence.wide m Try.prog 50 #[.func (.yield l) #[] #[], .pointer (some ⟨b, 0, none⟩)] W fun e W' => (∃ v, e = .returned v) ∧
      ((∃ ys, ys.map Prod.snd = L.reverse ∧ J ys W') ∨ (∃ pre, pre.map Prod.snd <+: L.reverse ∧ Jx pre W')) := by
  obtain ⟨A, cap, hsv, hcap, hcap2⟩ := hrow.shape
  unfold maxLen at hcap2
  have HY := Lib.hid hY
  have HB := Lib.hid hb
  have HR := Lib.hid hrow
  have hc := hb.cell
  rw [hsv] at hc
  have HS := Lib.hid hsv
  clear hY hb hrow hsv
  refine callsIn_of_wp Try.func50 rfl trivial ?_ rfl
  simp only [Try.ntmps50, List.size_toArray, List.length_cons, List.length_nil, Nat.reduceAdd, Nat.reduceSub, Array.replicate_succ, Array.replicate_zero, List.push_toArray, List.append_toArray, List.nil_append, List.cons_append]
  gi_wp2
  clear hc
  gi_loopw [3] (fun p wr => ∃ (i : Int) (k : Nat) (pre : List (Int × ByteArray)), p = .int .i64 i ∧ i + 1 = k ∧ k ≤ L.length ∧ pre.length + k = L.length ∧ Hid (pre.map Prod.snd = (L.drop k).reverse) ∧ J pre wr ∧ Hid (KpB b (blk sv) W wr))
    (fun p _ => (intOf p + 1).toNat)
  case atStart => exact ⟨_, L.length, [], rfl, by omega, Nat.le_refl _, by simp, Lib.hid (by simp), h0, Lib.hid ⟨rfl, fun _ _ => rfl⟩⟩
  case round =>
    clear h0
    obtain ⟨i, k, pre, rfl, hi, hk, hpk, hpre, hJs, hkp⟩ := hrel
    rcases k with _ | k
    · obtain rfl : i = -1 := by omega
      have HE : Hid (pre.map Prod.snd = L.reverse) := Lib.hid (by rw [hpre.out, List.drop_zero])
      gi_wp2
      go_end0
      exact ⟨⟨_, rfl⟩, .inl ⟨pre, HE.out, hJs⟩⟩
    · obtain rfl : i = (k : Int) := by omega
      have hlt : k < L.length := by omega
      have hbox := HB.out
      have hb' : Boxed wr b 57 sv := hkp.out.1.trans hbox
      have hr' := HR.out.kept hkp.out.2
      rw [HS.out] at hb' hr'
      have hc := hb'.cell
      rcases hr' with ⟨_, _, h2⟩ | ⟨g, off, cap', h1, h2, _, _, h3⟩
      · rw [h2] at hlt
        simp at hlt
      · injection h1 with h1 _ h1'
        subst h1
        have hcell := h3 k hlt
        have HN : Hid ((pre ++ [((k : Int), L[k])]).map Prod.snd = (L.drop k).reverse) := Lib.hid (by rw [rev_step L k hlt, List.map_append, hpre.out]; rfl)
        obtain ⟨fn, tmps, assign, body, hy, hRd⟩ := HY.out pre ((k : Int), L[k]) wr hJs (by omega)
        dsimp only at hy
        clear h3 h1' hbox hb'
        gi_wp2
        refine hRd.mono ?_
        rintro e W3 (⟨rfl, hJ3, hk3⟩ | ⟨rfl, hJx3⟩)
        · have HK3 := Lib.hid (kpB_t hkp.out hk3)
          have hlen3 : (pre ++ [((k : Int), L[k])]).length + k = L.length := by rw [List.length_append, List.length_singleton]; omega
          gi_wp2
          go_roundw
          case rel => exact ⟨(k : Int) - 1, k, _, rfl, Int.sub_add_cancel _ _, Nat.le_of_lt hlt, hlen3, HN, hJ3, HK3⟩
          case measure => simp [intOf]
        · gi_wp2
          refine bodyPost_ret (results_none rfl _ _ _) rfl ?_
          refine ⟨⟨_, rfl⟩, .inr ⟨_, ?_, hJx3⟩⟩
          have e : L.reverse = (L.drop k).reverse ++ (L.take k).reverse := by rw [← List.reverse_append, List.take_append_drop]
          rw [HN.out, e]
          exact List.prefix_append _ _

theorem back_stops (m b : Nat) (hm : 1 ≤ m) (sv : Value) (L : List ByteArray) (w : World) (hb : Boxed w b 57 sv) (hrow : SRow w sv L) :
    SeqStopsK Fence.wide m Try.prog 50 #[.pointer (some ⟨b, 0, none⟩)] (fun x : Int × ByteArray => #[Value.int .i64 x.1, Value.string x.2]) (KpB b (blk sv)) (fun ys => ys.map Prod.snd = L.reverse) (fun pre => pre.map Prod.snd <+: L.reverse) L.length w := fun l J Jx W hW _ _ hY h0 =>
  back1_in m l b hm sv L J Jx W hY ((hW.block b hb.lt).trans hb) (hrow.below hW (Nat.le_refl _)) h0

def vals (pre : List (Int × ByteArray)) : List Value := (pre.map Prod.snd).map Value.string
theorem vals_snoc (L : List (Int × ByteArray)) (x : Int × ByteArray) : vals (L ++ [x]) = vals L ++ [Value.string x.2] := by simp [vals]
/-- What backward's loop keeps. -/
def BkI (w1 : World) (b bs' : Nat) (sv : Value) (pre : List (Int × ByteArray)) (W : World) : Prop :=
  ((∃ v, Boxed W b 57 v ∧ W.ownsRow w1.heap.size 9 1 v pre.length (vals pre) ∧ True) ∧ Boxed W bs' 57 sv) ∧ Below w1.heap.size w1 W
theorem bkI_own (w1 : World) (b bs' : Nat) (sv : Value) (K : Nat) (hK : w1.heap.size ≤ K) : OwnFrom K (BkI w1 b bs' sv) :=
  OwnFrom.and (OwnFrom.and (Own.from (holdsRow_own w1.heap.size b 57 9 1 (fun pre : List (Int × ByteArray) => pre.length) vals (fun _ _ => True)) _) (Own.from (boxed_own bs' 57 (fun _ => sv)) _)) (ownFrom_below (Nat.le_refl _) hK)

set_option maxRecDepth 100000 in
set_option maxHeartbeats 4000000 in
theorem backward_any (n : ByteArray) (w : World) (hs : n.size ≤ maxLen) : Calls Try.prog 41 #[.string n] w (Lbs w (nlabs (bs n)).reverse) := by
  have hN := nlabs_len (bs n)
  obtain ⟨i0, hi, hz0, hz1, hz2⟩ := info_parts infoS
  have HI := Lib.hid hi
  have HZ0 := Lib.hid hz0
  have HZ1 := Lib.hid hz1
  have HZ2 := Lib.hid hz2
  have HL := Lib.hid (fun wx => Labels_any n wx hs)
  clear hi hz0 hz1 hz2 hs
  refine (callsIn_wide (n := 9)).1 ?_
  refine callsIn_of_wp_marks Try.func41 rfl trivial ?_ rfl
  simp only [Try.ntmps41, List.size_toArray, List.length_cons, List.length_nil, Nat.reduceAdd, Nat.reduceSub, Array.replicate_succ, Array.replicate_zero, List.push_toArray, List.append_toArray, List.nil_append, List.cons_append]
  gi_wp2_with fail
  refine ⟨trivial, ?_⟩
  refine (callsIn_wide.2 (HL.out _)).mono ?_
  rintro e w1 ⟨sv, L, rfl, hrow, hL, hb1⟩
  have hLN : L.length ≤ 127 := by rw [← hL, List.length_map] at hN; exact hN
  obtain ⟨A, cap, hsv, hcap, hcap2⟩ := hrow.shape
  subst hsv
  have HLL := Lib.hid hL
  have HR := Lib.hid hrow
  have HB1 := Lib.hid hb1
  have hm0 : i0.bytes * L.length ≤ 281474976710656 := by rw [HZ2.out]; omega
  have HM := Lib.hid hm0
  clear hL hrow hb1 hm0 HL hN
  unfold maxLen at hcap2
  gi_wp2_with (gi_at_make; refine wpListIn_make_own _ rfl _ _ 57 rfl w1.heap.size 9 i0 (.string ⟨#[]⟩) 1 Try.underlying57 HI.out HZ0.out HZ1.out .i64 .i64 _ L.length rfl rfl rfl HM.out (by unfold maxLen; omega) (Nat.le_refl _) ?_; intro w2 hown2 hg2; have HG2 := Lib.hid ((Below.refl w1.heap.size w1).grown hg2 (Nat.le_refl _) (by simp)); have HO2 := Lib.hid hown2; clear hown2 hg2)
  refine ⟨trivial, ?_⟩
  refine (callsIn_wide.2 (Backward_any A L.length cap _)).mono ?_
  rintro e w3 ⟨rfl, rfl⟩
  gi_wp2
  have hz2 : w1.heap.size + 1 ≤ w2.heap.size := by
    rcases HO2.out.2 with ⟨h, _⟩ | ⟨g, c, cur, h, _, hg, _⟩
    · cases h
    · injection h with h
      injection h with h
      injection h with h
      subst h
      exact (Array.getElem?_eq_some_iff.1 hg).1
  have bO := Boxed.new w2 57 (.slice (some ⟨w1.heap.size, 0, none⟩) 0 L.length)
  have bN := Boxed.new (w2.alloc (.cells #[.slice (some ⟨w1.heap.size, 0, none⟩) 0 L.length] 57)) 57 (.slice A L.length cap)
  rw [World.size_alloc] at bN
  have hBz : Below w1.heap.size w1 ((w2.alloc (.cells #[.slice (some ⟨w1.heap.size, 0, none⟩) 0 L.length] 57)).alloc (.cells #[.slice A L.length cap] 57)) := (HG2.out.alloc (by omega) _).alloc (by simp; omega) _
  have hrow0 := HR.out.below hBz (Nat.le_refl _)
  have hblk := HR.out.blk
  refine wpIn_rangeFunc_ownG rfl (by omega) (gf := 50) (lb := #[.pointer (some ⟨w2.heap.size + 1, 0, none⟩)]) rfl trivial (enters_of Try.func50 (by kernel_rfl) rfl)
    (back_stops _ (w2.heap.size + 1) (by omega) _ L _ bN hrow0) kpB_t (kpB_b (by simp) (fun k hk => by have := hblk k hk; simp; omega)) (Below.refl _ _) (fun _ => rfl)
    (BkI w1 w2.heap.size (w2.heap.size + 1) (.slice A L.length cap)) (fun _ _ _ => False) (bkI_own w1 _ _ _ _ (by simp; omega)) (fun _ _ _ _ _ hs _ _ => hs)
    ⟨⟨⟨_, bO.alloc _, World.ownsRow.alloc (World.ownsRow.alloc HO2.out _) _, trivial⟩, bN⟩, hBz⟩ ?a1 ?assign ?body ?done ?stop
  case assign =>
    intro l x W K hK
    gi_wp2
    exact hK
  case body =>
    rintro l pre x W ⟨⟨⟨v, hv, hrow, _⟩, hs'⟩, hB⟩ hlt
    have hc := hv.cell
    have HSB := Lib.hid hs'
    have HBB := Lib.hid hB
    have HRW := Lib.hid hrow
    have hbz := hB.size
    clear hs'
    gi_wp2_with (gi_at_builtin; refine wpListIn_append_own _ rfl _ _ 57 rfl w1.heap.size 9 i0 (.string ⟨#[]⟩) 1 16 Try.underlying57 HI.out HZ0.out HZ1.out HZ2.out rfl (by decide) _ _ _ rfl (hrow.alloc _) ⟨W.heap.size, 0, none⟩ 1 1 [.string x.2] rfl rfl (cell_one_new _ _ _) (by simp [Value.oneCell']) (by unfold maxLen; omega) (by omega) (by simp; omega) ?_; intro v' w4 hown' hgrow _; obtain ⟨g', cap', rfl⟩ := ownsRow_succ hown'; obtain ⟨hv1, hv2, hr2, hk2, hb2⟩ := hv.appended (by decide) hrow hbz (by omega) hown' hgrow; have hc1 := hv1.cell; have hf1 := hv1.frozen; have HGR := Lib.hid hgrow)
    have hs4 := ((HSB.out.alloc (.cells #[.string x.2] 9)).kept HGR.out ((HSB.out.alloc (.cells #[.string x.2] 9)).not_row (by decide) (HRW.out.alloc (.cells #[.string x.2] 9)))).other (B' := w2.heap.size) (by omega) (.slice (some ⟨g', 0, none⟩) (pre.length + 1) cap')
    exact ⟨hk2.from _, ⟨hs4.trans HSB.out.symm, fun k hk => hb2.block k (hblk k hk)⟩, ⟨⟨_, hv2, by rw [vals_snoc, List.length_append]; exact hr2, trivial⟩, hs4⟩, HBB.out.trans hb2⟩
  case done =>
    rintro D ys W hD hS ⟨⟨⟨v, hv, hrow, _⟩, hs'⟩, hB⟩ hK
    have hc := hv.cell
    have hD' : w1.heap.size ≤ D := by simp at hD; omega
    have HSS := Lib.hid hS
    clear hS hs' hD
    gi_wp2
    refine ⟨by simp, .inl ⟨_, _, rfl, run_takeDeferred hK, ?_⟩⟩
    refine ⟨_, results_tmp rfl _ _ _, v, ys.map Prod.snd, rfl, SRow.of_own (base := w1.heap.size) (t := 9) ?_, ?_, ?_⟩
    · rw [List.length_map]
      exact ownsRow_putObj hrow _ hK rfl
    · rw [HSS.out, List.map_reverse, HLL.out]
    · exact HB1.out.trans ((hB.trans (belowK_b (w := w1) (Nat.le_refl _) W D _ _ hD' hK rfl rfl)).mono HB1.out.size)
  case stop =>
    rintro D c pre W _ _ h _
    exact h.elim
end Go.Proofs.Ytmjhofgcfolelaa
