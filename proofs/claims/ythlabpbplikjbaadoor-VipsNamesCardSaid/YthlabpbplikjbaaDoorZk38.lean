/-
  All that are held, by rising address: the walks of compare, SortedFunc, All. Conditions: at most 100,000 are held. All that are held, by rising address: the walk of All. No condition. nameplatekit.Same on two rows of names that hold the same. No condition. VipsNames: the walk. Conditions: the laid tables' cells (Ground).
-/
import Derived.Test.YthlabpbplikjbaaDoorZk37
import Derived.Shelf.SlSortCmp.WholeK
import Derived.Shelf.SlSortCmp.NoneTotal
import Derived.Laws.OwnMore
import Derived.Test.YthlabpbplikjbaaDoorZk39
import Derived.Test.YthlabpbplikjbaaDoorZk34
namespace Go.Proofs.YthlabpbplikjbaaDoor
open Go.RowKit Go.Maps Go.Shelf Go.Lib Go.Sort
set_option linter.unusedVariables false

theorem isNaNI_any (x : Int) (W : World) : Calls Tryd.prog 78 #[.int .u64 x] W fun e w' => e = .returned (.bool false) ∧ w' = W := by
  go_enter Tryd.func78, Tryd.ntmps78
  go_wp2
  go_ret
  exact ⟨by simp, rfl⟩
theorem cmp64_any (x y : Int) (W : World) : Calls Tryd.prog 55 #[.int .u64 x, .int .u64 y] W fun e w' => e = .returned (.int .i64 (Lib.compareInt x y)) ∧ w' = W := by
  have hN := Lib.hid (fun x => isNaNI_any x)
  go_enter Tryd.func55, Tryd.ntmps55
  go_wp2_with (go_at_call 78; refine (hN.out _ _).mono ?_; rintro e w1 ⟨rfl, hw⟩; rw [hw])
  all_goals (go_ret; refine ⟨?_, rfl⟩; unfold Lib.compareInt; (repeat' split) <;> first | rfl | (exfalso; omega))
def cfH (x y : Hd) : Int := Lib.compareInt (x.2.2.2 : Int) (y.2.2.2 : Int)
set_option maxHeartbeats 1000000 in
theorem vcmp_any (x y : Hd) (W : World) : Calls Tryd.prog 37 #[hdv x, hdv y] W fun e w' => e = .returned (.int .i64 (cfH x y)) ∧ ∃ q os', w' = grow (W.drewN q) os' := by
  have hcon := Lib.hid fun W' => cmp64_any (x.2.2.2 : Int) (y.2.2.2 : Int) W'
  unfold cfH
  generalize Lib.compareInt (x.2.2.2 : Int) (y.2.2.2 : Int) = r at hcon ⊢
  unfold hdv
  go_enter Tryd.func37, Tryd.ntmps37
  go_wp2_with (go_at_call 55; refine (hcon.out _).mono ?_; rintro e w' ⟨rfl, rfl⟩)
  go_ret
  exact ⟨rfl, 0, _, by rw [alloc_eq_grow, alloc_eq_grow, grow_grow]; rfl⟩
theorem cmpLaysH (blk off size : Nat) (w : World) : CmpLays Tryd.prog 37 #[] csH 4 cfH blk off size w := fun _ _ _ _ x y => vcmp_any x y _
theorem swoH : SWO (ltOf cfH) := by
  have e : ∀ x y, ltOf cfH x y = decide (x.2.2.2 < y.2.2.2) := fun x y => by
    unfold ltOf cfH Lib.compareInt
    rcases Nat.lt_trichotomy x.2.2.2 y.2.2.2 with h | h | h
    · rw [if_pos (by omega)]; simp [h]
    · rw [if_neg (by omega), if_neg (by omega)]; simp [h]
    · rw [if_neg (by omega), if_pos (by omega)]; simp; omega
  refine ⟨fun x => ?_, fun x y z h1 h2 => ?_, fun x y z h1 h2 => ?_⟩
  all_goals
    simp only [e, decide_eq_true_eq, decide_eq_false_iff_not] at *
    omega
theorem ltH (x y : Hd) : ltOf cfH x y = decide (x.2.2.2 < y.2.2.2) := by
  unfold ltOf cfH Lib.compareInt
  rcases Nat.lt_trichotomy x.2.2.2 y.2.2.2 with h | h | h
  · rw [if_pos (by omega)]; simp [h]
  · rw [if_neg (by omega), if_neg (by omega)]; simp [h]
  · rw [if_neg (by omega), if_pos (by omega)]; simp; omega
theorem allH_len (D : List Hd) : (allH D).length = D.length * 4 := by
  induction D with
  | nil => simp [allH]
  | cons x D ih =>
    have e : allH (x :: D) = csH x ++ allH D := by simp [allH]
    rw [e, List.length_append, ih, List.length_cons, Nat.succ_mul]
    simp [csH]
    omega
theorem allH_at (D : List Hd) (j i : Nat) (h : j < D.length) (hi : i < 4) : (allH D)[j * 4 + i]? = (csH D[j])[i]? := by
  have e : allH D = allH (D.take j) ++ (csH D[j] ++ allH (D.drop (j + 1))) := by
    have e1 : ∀ (x : Hd) (D : List Hd), allH (x :: D) = csH x ++ allH D := fun x D => by simp [allH]
    have e2 : ∀ D E : List Hd, allH (D ++ E) = allH D ++ allH E := fun D E => by simp [allH]
    rw [← e1, ← e2, ← List.drop_eq_getElem_cons h, List.take_append_drop]
  have hl : (allH (D.take j)).length = j * 4 := by rw [allH_len, List.length_take]; congr 1; omega
  rw [e, List.getElem?_append_right (by omega), hl, List.getElem?_append_left (by simp [csH]; omega)]
  congr 1
  omega
/-- A row of those held, that can be read. -/
def HRow (w : World) (v : Value) (L : List Hd) : Prop := ∃ A cap, v = .slice A L.length cap ∧ L.length ≤ cap ∧ cap ≤ maxLen ∧ ∀ j (h : j < L.length), ∃ g, A = some ⟨g, 0, none⟩ ∧ g < w.heap.size ∧ ∀ i, i < 4 → w.cell? ⟨g, j * 4 + i, none⟩ = (csH L[j])[i]?
theorem HRow.next {w w' : World} {v : Value} {L : List Hd} (h : HRow w v L) (hb : Below w.heap.size w w') : HRow w' v L := by
  obtain ⟨A, cap, h1, h2, h3, h4⟩ := h
  refine ⟨A, cap, h1, h2, h3, fun j hj => ?_⟩
  obtain ⟨g, e, hg, hc⟩ := h4 j hj
  exact ⟨g, e, Nat.lt_of_lt_of_le hg hb.size, fun i hi => (hb.cell (p := ⟨g, j * 4 + i, none⟩) hg).trans (hc i hi)⟩
theorem csH_get (x : Hd) (i : Nat) (hi : i < 4) : (csH x)[i]? = some ((csH x)[i]!) := by
  rw [List.getElem!_eq_getElem?_getD, List.getElem?_eq_getElem (by simpa [csH] using hi)]
  rfl
theorem own_holds {w : World} {base g cap : Nat} {L : List Hd} (h : OwnH w base (.slice (some ⟨g, 0, none⟩) L.length cap) L) : HoldsK csH 4 w g 0 L.toArray := by
  intro j hj
  have hj' : j < L.length * 4 := by simpa using hj
  have hq : j / 4 < L.length := by omega
  have hm := allH_at L (j / 4) (j % 4) hq (Nat.mod_lt _ (by decide))
  rw [show j / 4 * 4 + j % 4 = j by omega] at hm
  refine ⟨?_, ?_⟩
  · rw [Nat.zero_add, World.ownsRow.cellAt h j hj', hm, csH_get _ _ (Nat.mod_lt _ (by decide))]
    show _ = some ((flatK csH 4 L.toArray)[j]!)
    rw [get_flatK csH 4 L.toArray j (by simpa using hj')]
    congr 2
    simp [hq]
  · rw [Nat.zero_add]
    exact World.ownsRow.frozenAt h j
theorem holds_row {w : World} {g cap : Nat} {L : List Hd} (hg : g < w.heap.size) (h1 : L.length ≤ cap) (h2 : cap ≤ maxLen) (h : HoldsK csH 4 w g 0 L.toArray) : HRow w (.slice (some ⟨g, 0, none⟩) L.length cap) L := by
  refine ⟨_, cap, rfl, h1, h2, fun j hj => ⟨g, rfl, hg, fun i hi => ?_⟩⟩
  have hj4 : j * 4 + i < L.length * 4 := by omega
  have := (h (j * 4 + i) (by simpa using hj4)).1
  rw [Nat.zero_add] at this
  rw [this, csH_get _ _ hi]
  show some ((flatK csH 4 L.toArray)[j * 4 + i]!) = _
  rw [get_flatK csH 4 L.toArray _ (by simpa using hj4), show (j * 4 + i) / 4 = j by omega, show (j * 4 + i) % 4 = i by omega]
  congr 2
  simp [hj]
theorem sort_below {w0 w : World} {B g n : Nat} {d : Array Hd} {os : Array Obj} (hb : Below B w0 w) (hg : B ≤ g) (hs : B ≤ w.heap.size) : Below B w0 (sortWorldK csH 4 w g 0 n d os) := by
  refine hb.trans ⟨rfl, rfl, rfl, size_sortWorldK_c csH 4 w g 0 n d os, fun k hk => ?_⟩
  unfold sortWorldK grow putRowK putRow mapBlock
  show (((Sort.ahead w n).heap.modify g _) ++ os)[k]? = w.heap[k]?
  have hk' : k < w.heap.size := by omega
  rw [Array.getElem?_append_left (by rw [Array.size_modify]; exact hk'), Array.getElem?_modify, if_neg (by omega)]
  rfl
/-- What SortedFunc hands back: those held, by rising address. -/
def SortOut (H : List Hd) (w : World) (e : Ending) (w' : World) : Prop := ∃ v L, e = .returned v ∧ List.Perm L H ∧ L.Pairwise (fun x y => x.2.2.2 ≤ y.2.2.2) ∧ HRow w' v L ∧ RowKit.Below w.heap.size w w'
theorem sorted_list {L : List Hd} {d' : Array Hd} (hp : PermIn 0 L.toArray.size L.toArray d') (hs : SortedIn (ltOf cfH) 0 L.toArray.size d') : d'.toList.Perm L ∧ d'.toList.Pairwise (fun x y => x.2.2.2 ≤ y.2.2.2) := by
  obtain ⟨h1, _, h3⟩ := hp
  have e1 : d'.extract 0 L.toArray.size = d' := by rw [← h1]; simp
  have e2 : L.toArray.extract 0 L.toArray.size = L.toArray := by simp
  rw [e1, e2] at h3
  refine ⟨h3, ?_⟩
  rw [List.pairwise_iff_getElem]
  intro i j hi hj hij
  have hj' : j < d'.size := by simpa using hj
  have hi' : i < d'.size := by simpa using hi
  have := hs i j (Nat.zero_le _) hij (by rw [← h1]; exact hj')
  rw [ltH, decide_eq_false_iff_not, getElem!_pos d' j hj', getElem!_pos d' i hi'] at this
  simp only [Array.getElem_toList]
  omega
set_option maxRecDepth 100000 in
set_option maxHeartbeats 4000000 in
theorem SortFunc_held {w0 w : World} {base : Nat} {v : Value} {L : List Hd} (h : OwnH w base v L) (hb : RowKit.Below base w0 w) (hl : L.length ≤ 100000) :
    Calls Tryd.prog 53 #[v, .func (.func 37) #[] #[]] w fun e w' => e = .returned (.tuple #[]) ∧ ∃ L', List.Perm L' L ∧ L'.Pairwise (fun x y => x.2.2.2 ≤ y.2.2.2) ∧ HRow w' v L' ∧ RowKit.Below base w0 w' := by
  rcases h.2 with ⟨rfl, hn⟩ | ⟨g, cap, cur, rfl, hbg, hg, hnc, hcm, _⟩
  · refine (AnyF.slices_SortFunc_none Tryd.laysSort none 0 _ w).mono ?_
    rintro e w' ⟨rfl, rfl⟩
    have hL : L = [] := List.eq_nil_of_length_eq_zero hn
    subst hL
    exact ⟨rfl, [], List.Perm.refl _, List.Pairwise.nil, ⟨none, 0, rfl, Nat.le_refl _, Nat.zero_le _, fun j hj => by cases hj⟩, hb⟩
  · have hgl : g < w.heap.size := (Array.getElem?_eq_some_iff.1 hg).1
    have eg : ∀ args w, (callFunc 37 args).run Tryd.prog w = .ok (.enter 37 args) w := enters_of Tryd.func37 (by kernel_rfl) rfl
    have hH := own_holds h
    have hcon := AnyQ.slices_SortFunc Tryd.laysSort 4 Tryd.isAgg61 Tryd.sizeOf61 csH (fun _ => rfl) csH_one cfH swoH 37 #[] g 0 cap L.toArray w eg (cmpLaysH g 0 _ w) hH hgl (by simp; omega)
    change Calls Tryd.prog 53 _ _ _ at hcon
    refine (show Calls Tryd.prog 53 #[.slice (some ⟨g, 0, none⟩) L.length cap, .func (.func 37) #[] #[]] w _ from hcon).mono ?_
    rintro e w' ⟨rfl, d', n, os, hp, hs, rfl⟩
    obtain ⟨p1, p2⟩ := sorted_list hp hs
    have hsz : d'.size = L.toArray.size := hp.1
    have hlen : d'.toList.length = L.length := by simpa using hsz
    refine ⟨rfl, d'.toList, p1, p2, ?_, sort_below hb hbg (Nat.le_trans hbg (Nat.le_of_lt hgl))⟩
    have hH2 := holdsK_sortWorldK_c csH 4 w g 0 L.toArray d' n os hH hgl hsz
    have := holds_row (cap := cap) (L := d'.toList) (Nat.lt_of_lt_of_le hgl (size_sortWorldK_c csH 4 w g 0 n d' os)) (by rw [hlen]; exact hnc) hcm (by simpa using hH2)
    rw [hlen] at this
    exact this
set_option maxHeartbeats 2000000 in
theorem SortedFunc_held (bx b : Nat) (H : List Hd) (w : World) (hbx : w.cell? ⟨bx, 0, none⟩ = some (.map (some b))) (hb : MapE Tryd.prog 29 w b (entH H)) (hl : H.length ≤ 100000) :
    Calls Tryd.prog 35 #[.func (.func 54) #[] #[.pointer (some ⟨bx, 0, none⟩)], .func (.func 37) #[] #[]] w (SortOut H w) := by
  have HC := Lib.hid (Collect_held bx b H w hbx hb hl)
  have HL := Lib.hid hl
  clear hbx hb hl
  go_enter Tryd.func35, Tryd.ntmps35
  go_wp2_with (first | (go_at_call 52; refine HC.out.mono ?_; rintro e w1 ⟨v, L, rfl, hp, hown, hb1⟩; have HP := Lib.hid hp; have HO := Lib.hid hown; have HB1 := Lib.hid hb1; clear hp hown hb1) | (go_at_call 53; refine (SortFunc_held HO.out HB1.out (by rw [HP.out.length_eq]; exact HL.out)).mono ?_; rintro e w2 ⟨rfl, L2, hp2, hs2, hr2, hb2⟩; have HP2 := Lib.hid hp2; have HS2 := Lib.hid hs2; have HR2 := Lib.hid hr2; have HB2 := Lib.hid hb2; clear hp2 hs2 hr2 hb2))
  go_ret
  exact ⟨v, L2, rfl, HP2.out.trans HP.out, HS2.out, HR2.out, HB2.out⟩
end Go.Proofs.YthlabpbplikjbaaDoor
namespace Go.Proofs.YthlabpbplikjbaaDoor
open Go.RowKit Go.Maps Go.Shelf
set_option linter.unusedVariables false

theorem values_any (b : Nat) (w : World) :
    Calls Tryd.prog 36 #[.map (some b)] w fun e w' => e = .returned (.func (.func 54) #[] #[.pointer (some ⟨w.heap.size, 0, none⟩)]) ∧ w' = w.alloc (.cells #[.map (some b)] 71) := by
  go_enter Tryd.func36, Tryd.ntmps36
  go_wp2
  go_ret
  exact ⟨rfl, rfl⟩
theorem PoolAt.few {w : World} {B : PB} {p : PoolD} {H : List Hd} (h : PoolAt w B p H) : H.length ≤ 65536 := by
  have h1 := h.wf.le
  have h2 : p.room ≤ p.sz := by unfold PoolD.room; rw [free_cnP]; exact cnP_le _ _ _
  have h3 := h.ok.pos.2
  omega
set_option maxHeartbeats 2000000 in
theorem pAll_any {w : World} {B : PB} {p : PoolD} {H : List Hd} (h : PoolAt w B p H) :
    Calls Tryd.prog 18 #[.pointer (some ⟨B.g, 0, none⟩)] w (SortOut H w) := by
  have HM := Lib.hid (pmade_yes h)
  have HS : Hid (∀ wx bx, Below w.heap.size w wx → wx.cell? ⟨bx, 0, none⟩ = some (.map (some B.h)) → Calls Tryd.prog 35 #[.func (.func 54) #[] #[.pointer (some ⟨bx, 0, none⟩)], .func (.func 37) #[] #[]] wx (SortOut H wx)) := Lib.hid fun wx bx hb hc => SortedFunc_held bx B.h H wx hc (h.hld.next hb) (by have := h.few; omega)
  have c7 : w.cell? ⟨B.g, 7, none⟩ = some (.map (some B.h)) := h.obj.cell 7
  clear h
  go_enter Tryd.func18, Tryd.ntmps18
  go_wp2_with (first | (go_at_call 25; refine HM.out.mono ?_; rintro e w1 ⟨rfl, rfl⟩) | (go_at_call 36; refine (values_any _ _).mono ?_; rintro e w1 ⟨rfl, rfl⟩) | (go_at_call 35; refine (HS.out _ _ ((Below.refl _ _).alloc (Nat.le_refl _) _) (by simp)).mono ?_; rintro e w2 ⟨v, L, rfl, hp, hs, hr, hb⟩; have HX := Lib.hid (And.intro hp (And.intro hs (And.intro hr hb))); clear hp hs hr hb))
  go_ret
  exact ⟨v, L, rfl, HX.out.1, HX.out.2.1, HX.out.2.2.1, ((Below.refl _ _).alloc (Nat.le_refl _) _).trans (HX.out.2.2.2.mono (by simp))⟩
end Go.Proofs.YthlabpbplikjbaaDoor
namespace Go.Proofs.YthlabpbplikjbaaDoor
open Go.RowKit Go.Maps Go.Shelf
set_option linter.unusedVariables false

set_option maxHeartbeats 4000000 in
theorem sameNames_any {w : World} {v1 v2 : Value} {L : List ByteArray} (h1 : SRow w v1 L) (h2 : SRow w v2 L) :
    Calls Tryd.prog 16 #[v1, v2] w fun e w' => e = .returned (.bool true) ∧ Below w.heap.size w w' := by
  obtain ⟨A1, c1, rfl, hc1, hm1, a1⟩ := srow_at h1
  obtain ⟨A2, c2, rfl, hc2, hm2, a2⟩ := srow_at h2
  have H1 := Lib.hid a1
  have H2 := Lib.hid a2
  unfold maxLen at hm1 hm2
  clear h1 h2 a1 a2
  go_enter Tryd.func16, Tryd.ntmps16
  go_wp2
  go_loopw [5] (fun i wr => ∃ k : Nat, i = .int .i64 k ∧ k ≤ L.length ∧ Below w.heap.size w wr) (fun i _ => L.length - (intOf i).toNat)
  case atStart => exact ⟨0, rfl, Nat.zero_le _, Below.refl _ _⟩
  case round =>
    obtain ⟨k, rfl, hk, hb⟩ := hrel
    by_cases hlt : k < L.length
    · obtain ⟨g1, o1, rfl, hg1, hx1⟩ := H1.out k hlt
      obtain ⟨g2, o2, rfl, hg2, hx2⟩ := H2.out k hlt
      obtain ⟨x, hx⟩ : ∃ x, L[k] = x := ⟨_, rfl⟩
      rw [hx] at hx1 hx2
      have hcx : wr.cell? ⟨g1, o1 + k, none⟩ = some (.string x) := (hb.cell (p := ⟨g1, o1 + k, none⟩) hg1).trans hx1
      have hcy : wr.cell? ⟨g2, o2 + k, none⟩ = some (.string x) := (hb.cell (p := ⟨g2, o2 + k, none⟩) hg2).trans hx2
      have i1 : (k : Int) < L.length := by omega
      clear hx hx1 hx2
      go_wp2_with fail
      go_quiet (fail)
      go_wp2
      go_roundw
      case rel => exact ⟨k + 1, by go_num, hlt, below_draws hb _⟩
      case measure => simp [intOf]; omega
    · have i1 : ¬ (k : Int) < L.length := by omega
      go_wp2
      go_ret
      exact ⟨rfl, hb⟩
end Go.Proofs.YthlabpbplikjbaaDoor
namespace Go.Proofs.YthlabpbplikjbaaDoor
open Go.RowKit Go.Maps Go.Shelf
set_option linter.unusedVariables false

def nZ : ByteArray := ⟨#[1, 122]⟩
def NS1 : List ByteArray := [⟨#[1, 97]⟩, ⟨#[1, 65]⟩, ⟨#[1, 98]⟩, ⟨#[1, 99]⟩, ⟨#[1, 67]⟩]
def NS2 : List ByteArray := [⟨#[1, 100]⟩, ⟨#[]⟩]
def KH : List Hd := (keepK p2 (keepH [] (NS1.map keyH)) NS1 NS1.length).1
def KA : Ad := ofV KH [1, 97]
theorem vn_nums : (keepK p2 (keepH [] (NS1.map keyH)) NS1 NS1.length).2 = [nC] ∧ (∀ n ∈ NS1, keyH n ≠ []) ∧ (∃ n ∈ NS2, keyH n = []) ∧ KH.length = 2 ∧ (findH KH [1, 98]).isSome = true ∧ (findH KH [1, 97]).isSome = true ∧ hostS KH KA = nA ∧ (findA KH KA).isSome = true ∧ (dropE KH nA).2 = 0 ∧ (dropE KH nA).1.length = 1 ∧ p2.room = 2 ∧ dropE KH nZ = (KH, 5) := by decide +kernel
theorem vn_more : keyH ⟨#[1, 66]⟩ = [1, 98] ∧ keyH nA = [1, 97] ∧ KA.2.1 < 18446744073709551616 ∧ KA.2.2 < 18446744073709551616 ∧ p2.give KH ⟨#[]⟩ = (KH, noA, 2) ∧ chkP p2 = 0 ∧ chkP ⟨(false, 0, 0), 33, []⟩ ≠ 0 ∧ chkP ⟨(false, 0, 167772160), 31, [((false, 0, 0), -1)]⟩ = 2 := by decide +kernel
theorem srow_lit (w : World) (t : TypeId) (L : List ByteArray) (h : L.length ≤ maxLen) : SRow (w.alloc (.cells (L.map Value.string).toArray t)) (.slice (some ⟨w.heap.size, 0, none⟩) L.length L.length) L :=
  .inr ⟨w.heap.size, 0, L.length, rfl, by simp, Nat.le_refl _, h, fun j hj => by rw [Nat.zero_add, (Lies.new w t _).cell j]; simp [hj]⟩
/-- Beside one pool and the row of those lost. -/
structure Sn (w wr : World) (B : PB) (v : Value) : Prop where
  bel : Below w.heap.size w wr
  at_ : PoolAt wr B p2 KH
  row : SRow wr v [nC]
  ah : B.a ≠ B.h
  ge : w.heap.size ≤ B.a ∧ w.heap.size ≤ B.h
  gr : Ground wr
/-- .. and its copy. -/
structure Sm (w wr : World) (B : PB) (v : Value) (B' : PB) (H' : List Hd) : Prop where
  st : Sn w wr B v
  q : PoolAt wr B' p2 H'
  n1 : (B.g ≠ B'.a ∧ B.g ≠ B'.h) ∧ (B.s ≠ B'.a ∧ B.s ≠ B'.h) ∧ (B.a ≠ B'.a ∧ B.a ≠ B'.h) ∧ (B.h ≠ B'.a ∧ B.h ≠ B'.h)
  n2 : (B'.g ≠ B.a ∧ B'.g ≠ B.h) ∧ (B'.s ≠ B.a ∧ B'.s ≠ B.h)
  ge : w.heap.size ≤ B'.a ∧ w.heap.size ≤ B'.h
section
variable {w wr w' : World} {B B' : PB} {v : Value} {H' H'' : List Hd}
theorem srow_kq {p : PoolD} {H : List Hd} {L : List ByteArray} (h : SRow wr v L) (hq : Kq B wr w') (hp : PoolAt wr B p H) : SRow w' v L := by
  rcases h with h | ⟨g, off, cap, h1, h2, h3, h4, h5⟩
  · exact .inl h
  · exact .inr ⟨g, off, cap, h1, Nat.lt_of_lt_of_le h2 hq.size, h3, h4, fun j hj => hq.cell hp (h5 j hj)⟩
theorem Sn.next (h : Sn w wr B v) (hb : Below wr.heap.size wr w') : Sn w w' B v := ⟨h.bel.trans (hb.mono h.bel.size), h.at_.next hb, h.row.below hb (Nat.le_refl _), h.ah, h.ge, h.gr.next hb⟩
theorem Sn.alloc (h : Sn w wr B v) (o : Obj) : Sn w (wr.alloc o) B v := h.next ((Below.refl _ _).alloc (Nat.le_refl _) _)
theorem Sn.act (h : Sn w wr B v) (hq : Kq B wr w') (hp : PoolAt w' B p2 KH) (hG : Ground w) : Sn w w' B v := ⟨h.bel.trans (hq.below h.bel.size h.ge.1 h.ge.2), hp, srow_kq h.row hq h.at_, h.ah, h.ge, hq.grd h.gr h.bel h.ge.1 h.ge.2 hG⟩
theorem Sm.next (h : Sm w wr B v B' H') (hb : Below wr.heap.size wr w') : Sm w w' B v B' H' := ⟨h.st.next hb, h.q.next hb, h.n1, h.n2, h.ge⟩
theorem Sm.alloc (h : Sm w wr B v B' H') (o : Obj) : Sm w (wr.alloc o) B v B' H' := h.next ((Below.refl _ _).alloc (Nat.le_refl _) _)
theorem Sm.draw (h : Sm w wr B v B' H') (n : Nat) : Sm w (wr.drewN n) B v B' H' := h.next ⟨rfl, rfl, rfl, Nat.le_refl _, fun _ _ => rfl⟩
theorem Sm.actP (h : Sm w wr B v B' H') (hq : Kq B wr w') (hp : PoolAt w' B p2 KH) (hG : Ground w) : Sm w w' B v B' H' :=
  ⟨h.st.act hq hp hG, h.q.other hq h.n2.1 h.n2.2 ⟨fun e => h.n1.2.2.1.1 e.symm, fun e => h.n1.2.2.2.1 e.symm⟩ ⟨fun e => h.n1.2.2.1.2 e.symm, fun e => h.n1.2.2.2.2 e.symm⟩, h.n1, h.n2, h.ge⟩
theorem Sm.actQ (h : Sm w wr B v B' H') (hq : Kq B' wr w') (hp : PoolAt w' B' p2 H'') (hG : Ground w) : Sm w w' B v B' H'' :=
  ⟨⟨h.st.bel.trans (hq.below h.st.bel.size h.ge.1 h.ge.2), h.st.at_.other hq h.n1.1 h.n1.2.1 h.n1.2.2.1 h.n1.2.2.2, srow_kq h.st.row hq h.q, h.st.ah, h.st.ge, hq.grd h.st.gr h.st.bel h.ge.1 h.ge.2 hG⟩, hp, h.n1, h.n2, h.ge⟩
end
end Go.Proofs.YthlabpbplikjbaaDoor
