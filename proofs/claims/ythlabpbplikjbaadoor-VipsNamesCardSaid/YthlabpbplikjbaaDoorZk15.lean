/-
  What name.Fold answers: the walk. Condition: the name is no longer than Go's own limit. The contracts of layer 2 as the laws meet them. Conditions: as each theorem names them. What the document's own Fold, Same, Compare, Under answer for layer 2: the walks. Condition: the names are no longer than Go's own limit. hash: sums and slots: the walks; the document's own. Condition: strings no longer than Go's own limit.
-/
import Derived.Test.YthlabpbplikjbaaDoorZk13
import Derived.Test.YthlabpbplikjbaaDoorZk14
import Derived.Shelf.RegionOpen
import Derived.Deep.QuietTactic
import Derived.IntWalk
namespace Go.Proofs.YthlabpbplikjbaaDoor
open Go.RowKit Go.Shelf
set_option linter.unusedVariables false
attribute [local go_sem] Oper.semAt_some

def fe (pre : List Lab) : List UInt8 := enc ((pre.map lb).map fold)
theorem fe_snoc (pre : List Lab) (x : Lab) : fe (pre ++ [x]) = fe pre ++ enc1 (fold (bs x.1)) := by
  unfold fe
  rw [List.map_append, List.map_append, enc_append]
  simp [lb, enc_one]
theorem fe_len (pre : List Lab) : (fe pre).length ≤ 64 * pre.length := by
  unfold fe
  rw [enc_fold_len]
  exact lb_le pre
/-- What Fold's loop keeps. -/
def FoI (w : World) (b : Nat) (pre : List Lab) (W : World) : Prop := (∃ v, Boxed W b 64 v ∧ W.ownsRow w.heap.size 5 1 v (fe pre).length ((fe pre).map B) ∧ True) ∧ Below w.heap.size w W
theorem foI_own (w : World) (b K : Nat) (hK : w.heap.size ≤ K) : OwnFrom K (FoI w b) :=
  OwnFrom.and (Own.from (holdsRow_own w.heap.size b 64 5 1 (fun pre : List Lab => (fe pre).length) (fun pre => (fe pre).map B) (fun _ _ => True)) _) (ownFrom_below (Nat.le_refl _) hK)

theorem nFold_bad (n : ByteArray) (w : World) (hs : n.size ≤ maxLen) (hc : chkN (bs n) ≠ 0) : Calls Tryd.prog 30 #[.string n] w fun e w' => e = .returned (.string ⟨(foldN (bs n)).toArray⟩) ∧ Below w.heap.size w w' := by
  have HC := Lib.hid (fun wx => nCheck_any n wx hs)
  have hb : ((chkN (bs n) : Int) != 0) = true := bne_iff_ne.2 (by omega)
  have HE : Hid (foldN (bs n) = []) := Lib.hid (if_neg hc)
  clear hc hs
  go_enter Tryd.func30, Tryd.ntmps30
  go_wp2_with (go_at_call 47; refine (HC.out _).mono ?_; rintro e w1 ⟨rfl, hb1⟩)
  go_ret
  exact ⟨by rw [HE.out]; rfl, hb1⟩

set_option maxRecDepth 100000 in
set_option maxHeartbeats 4000000 in
theorem nFold_ok (n : ByteArray) (w : World) (hc : chkN (bs n) = 0) : Calls Tryd.prog 30 #[.string n] w fun e w' => e = .returned (.string ⟨(foldN (bs n)).toArray⟩) ∧ Below w.heap.size w w' := by
  obtain ⟨L, l1, l2, l3, l4⟩ := chkN_out hc
  have hns : n.size ≤ 254 := by have := (chkN_iff.1 hc).1; rw [bs_length] at this; exact this
  have hN : (labs (bs n)).length ≤ 254 := by
    have := enc_two l1
    rw [l3]
    omega
  have hm : n.size ≤ maxLen := by unfold maxLen; omega
  have HC : Hid (∀ wx, Calls Tryd.prog 47 #[.string n] wx fun e w' => e = .returned (.int .i64 0) ∧ Below wx.heap.size wx w') := Lib.hid (fun wx => by
    have := nCheck_any n wx hm
    rw [hc] at this
    exact this)
  have HE := Lib.hid (foldN_facts hc).1
  clear hc l1 l2 l3 l4
  refine (callsIn_wide (n := 9)).1 ?_
  refine callsIn_of_wp_marks Tryd.func30 rfl trivial ?_ rfl
  simp only [Tryd.ntmps30, List.size_toArray, List.length_cons, List.length_nil, Nat.reduceAdd, Nat.reduceSub, Array.replicate_succ, Array.replicate_zero, List.push_toArray, List.append_toArray, List.nil_append, List.cons_append]
  gi_wp2_with (first | (refine ⟨trivial, ?_⟩; gi_at_call 47; refine (callsIn_wide.2 (HC.out _)).mono ?_; rintro e w1 ⟨rfl, hb1⟩) | (refine ⟨trivial, ?_⟩; gi_at_call 48; refine (callsIn_wide.2 (each_any _ _)).mono ?_; rintro e w2 ⟨rfl, rfl⟩))
  have hz1 := hb1.size
  have bO := Boxed.new w1 64 (.slice none 0 0)
  have bN := Boxed.new (w1.alloc (.cells #[.slice none 0 0] 64)) 39 (.string n)
  rw [World.size_alloc] at bN
  have hB0 : Below w.heap.size w ((w1.alloc (.cells #[.slice none 0 0] 64)).alloc (.cells #[.string n] 39)) := (hb1.alloc hz1 _).alloc (by simp; omega) _
  refine wpIn_rangeFunc_ownG rfl (by omega) (gf := 71) (lb := #[.pointer (some ⟨w1.heap.size + 1, 0, none⟩)]) rfl trivial (enters_of Tryd.func71 (by kernel_rfl) rfl)
    (each_stops _ (w1.heap.size + 1) (by omega) n hm _ (by simp) bN.cell) (fun _ _ => trivial) (fun _ _ _ _ _ _ _ _ => trivial) (Below.refl _ _) (fun _ => rfl)
    (FoI w w1.heap.size) (fun _ _ _ => False) (foI_own w _ _ (by simp; omega)) (fun _ _ _ _ _ hs _ _ => hs)
    ⟨⟨_, bO.alloc _, World.ownsRow_nil _ _ _ _, trivial⟩, hB0⟩ ?a1 ?assign ?body ?done ?stop
  case assign =>
    intro l x W K hK
    gi_wp2
    exact hK
  case body =>
    rintro l pre x W ⟨⟨v, hv, hrow, _⟩, hB⟩ hlt
    have hc := hv.cell
    have hle := fe_len pre
    have hown : Own 5 W w.heap.size v (fe pre) := hrow
    obtain ⟨A, cap, rfl⟩ := hown.shape
    obtain ⟨F, hF⟩ : ∃ F : ByteArray, F = ⟨(fold (bs x.1)).toArray⟩ := ⟨_, rfl⟩
    have hFb : bs F = fold (bs x.1) := by rw [hF, bs_mk]
    have hFs : F.size ≤ 63 := by rw [← bs_length, hFb, fold_length]; exact x.2.2
    have hxm : x.1.size ≤ maxLen := by have := x.2.2; rw [bs_length] at this; unfold maxLen; omega
    have HX := Lib.hid (fun wx => Fold_any x.1 wx hxm)
    rw [← hF] at HX
    have HF : Hid (fe pre ++ enc1 (bs F) = fe (pre ++ [x])) := Lib.hid (by rw [fe_snoc, hFb])
    have HB := Lib.hid hB
    have HR := Lib.hid hrow
    have hle2 : (fe pre).length ≤ 1099511627776 := by omega
    have hmx : Tryd.prog.follows .mixedOrders = true := by kernel_rfl
    clear hF hFb hrow
    gi_wp2
    gi_region_with_o (first | (refine ⟨trivial, ?_⟩; gi_at_call 50; refine (CallsIn.inRound l (callsIn_wide.2 (HX.out _))).mono ?_; rintro e w3 ⟨rfl, hb3⟩; have hv3 := boxed_below (boxed_drew hv) hb3; have hc3 := hv3.cell; have hf3 := hv3.frozen; have hown3 := hown.drew.below hb3 (Nat.le_refl _); have hz3 := Nat.le_trans hB.size hb3.size) | (refine ⟨trivial, ?_⟩; gi_at_call 49; refine (CallsIn.inRound l (callsIn_wide.2 (put_any w.heap.size _ (fe pre) F w3 hown3 hz3 hFs hle2))).mono ?_; rintro e w4 ⟨v4, rfl, hown4, hg4⟩; obtain ⟨A4, cap4, rfl⟩ := hown4.shape; obtain ⟨k1, k2, k3, k4, k5⟩ := boxed_put hv3 (by decide) hown3 hz3 hz1 hown4 hg4; have hc4 := k1.cell; have hf4 := k1.frozen))
    all_goals gi_wp2
    all_goals (try go_bits)
    all_goals
      rw [HF.out] at k2 k3 k4 k5
      rw [← List.length_append, HF.out]
      exact ⟨(((KeepsOthers.drew _).from _).trans (keepsFrom_below hb3)).trans (k4.from _), trivial, ⟨_, k2, k3, trivial⟩, ((HB.out.drew).trans (hb3.mono HB.out.size)).trans k5⟩
  case done =>
    rintro D ys W hD hS ⟨⟨v, hv, hrow, _⟩, hB⟩ hK
    have hc := hv.cell
    have hfe : fe ys = foldN (bs n) := by rw [HE.out]; unfold fe; rw [hS]
    rw [hfe] at hrow
    have hown : Own 5 W w.heap.size v (foldN (bs n)) := hrow
    have hcv := btN.conv_own hown
    obtain ⟨A, cap, rfl⟩ := hown.shape
    have hD' : w.heap.size ≤ D := by simp at hD; omega
    clear hS hfe hown hD
    gi_wp2
    refine ⟨by simp, .inl ⟨_, _, rfl, run_takeDeferred hK, ?_⟩⟩
    exact ⟨_, results_tmp rfl _ _ _, rfl, hB.trans (belowK_b (w := w) (Nat.le_refl _) W D _ _ hD' hK rfl rfl)⟩
  case stop =>
    rintro D c pre W _ _ h _
    exact h.elim

theorem nFold_any (n : ByteArray) (w : World) (hs : n.size ≤ maxLen) : Calls Tryd.prog 30 #[.string n] w fun e w' => e = .returned (.string ⟨(foldN (bs n)).toArray⟩) ∧ Below w.heap.size w w' := by
  by_cases hc : chkN (bs n) = 0
  · exact nFold_ok n w hc
  · exact nFold_bad n w hs hc
end Go.Proofs.YthlabpbplikjbaaDoor
namespace Go.Proofs.YthlabpbplikjbaaDoor
open Go.RowKit
set_option linter.unusedVariables false

theorem gFold {s x : ByteArray} (hs : s.size ≤ maxLen) (h : foldN (bs s) = bs x) : Gives 30 #[.string s] (.string x) := fun w => by
  have := nFold_any s w hs
  rw [h] at this
  exact this
end Go.Proofs.YthlabpbplikjbaaDoor
namespace Go.Proofs.YthlabpbplikjbaaDoor
open Go.RowKit
set_option linter.unusedVariables false

end Go.Proofs.YthlabpbplikjbaaDoor
namespace Go.Proofs.YthlabpbplikjbaaDoor
open Go.RowKit
set_option linter.unusedVariables false

/-- A sum with an octet more. -/
def stepH (a : Int) (b : UInt8) : Int := IntKind.u64.wrap (bits BinOp.xor IntKind.u64 a (b.toNat : Int) * 1099511628211)
def moreH (a : Int) (l : List UInt8) : Int := l.foldl stepH a
theorem moreH_app (a : Int) (l m : List UInt8) : moreH a (l ++ m) = moreH (moreH a l) m := List.foldl_append
theorem moreH_take (a : Int) (s : ByteArray) (k : Nat) (h : k < s.size) : moreH a ((bs s).take (k + 1)) = stepH (moreH a ((bs s).take k)) s[k] := by
  rw [take_more s k h, moreH_app]
  rfl
theorem moreH_range (a : Int) (l : List UInt8) (h : 0 ≤ a ∧ a < 18446744073709551616) : 0 ≤ moreH a l ∧ moreH a l < 18446744073709551616 := by
  induction l generalizing a with
  | nil => exact h
  | cons b l ih => exact ih _ (by have := IntKind.wrap_u64 (bits BinOp.xor IntKind.u64 a (b.toNat : Int) * 1099511628211); unfold stepH; rw [this]; exact ⟨Int.emod_nonneg _ (by decide), Int.emod_lt_of_pos _ (by decide)⟩)

def MhRel (a : Int) (s : ByteArray) (w : World) (v i : Value) (wr : World) : Prop := ∃ k : Nat, i = .int .i64 k ∧ k ≤ s.size ∧ v = .int .u64 (moreH a ((bs s).take k)) ∧ Row wr w.heap.size (bs s) ∧ Below w.heap.size w wr

set_option maxRecDepth 100000 in
set_option maxHeartbeats 2000000 in
theorem More_any (a : Int) (s : ByteArray) (w : World) (hs : s.size ≤ maxLen) :
    Calls Tryd.prog 116 #[.int .u64 a, .string s] w fun e w' => e = .returned (.int .u64 (moreH a (bs s))) ∧ Below w.heap.size w w' := by
  have HM := Lib.hid hs
  unfold maxLen at hs
  go_enter Tryd.func116, Tryd.ntmps116
  go_wp2_with (refine wpList_bytes bt _ rfl _ rfl s rfl HM.out ?_; intro cap w1 hrow hb1 _ _ _; have HR0 : Hid (MhRel a s w (.int .u64 a) (.int .i64 0) w1) := Lib.hid ⟨0, rfl, Nat.zero_le _, by rw [List.take_zero]; rfl, hrow, hb1⟩; clear hrow hb1)
  go_loopw [4, 11] (fun v i wr => MhRel a s w v i wr) (fun v i _ => s.size - (intOf i).toNat)
  case atStart => exact HR0.out
  case round =>
    clear HR0
    obtain ⟨k, rfl, hk, rfl, hrow, hb⟩ := hrel
    by_cases hlt : k < s.size
    · have hc : wr.cell? ⟨w.heap.size, k, none⟩ = some (.int .u8 (s[k].toNat : Int)) := hrow.cell k (by rw [bs_length]; exact hlt)
      have hb8 := s[k].toNat_lt
      have hu : IntKind.u64.wrap (s[k].toNat : Int) = (s[k].toNat : Int) := by rw [IntKind.wrap_u64]; omega
      have HE := Lib.hid (moreH_take a s k hlt)
      have HR := Lib.hid hrow
      clear hrow
      go_wp2
      go_roundw
      case rel => exact ⟨k + 1, by go_num, hlt, by rw [HE.out]; rfl, HR.out, hb⟩
      case measure => simp [intOf]; omega
    · have hge : ¬ (k : Int) < s.size := by omega
      have e : (bs s).take k = bs s := List.take_of_length_le (by rw [bs_length]; omega)
      rw [e]
      go_wp2
      go_ret
      exact ⟨rfl, hb⟩

/-! ### The sum, a name's, its slot -/
theorem foldN_le (l : List UInt8) : (foldN l).length ≤ l.length := by
  unfold foldN
  split
  · rw [fold_length]; exact Nat.le_refl _
  · exact Nat.zero_le _
def h0 : Int := 14695981039346656037
def sumH (l : List UInt8) : Int := moreH h0 l
def nameH (l : List UInt8) : Int := sumH (foldN l)
def slotH (l : List UInt8) (k : Int) : Int := if k < 1 then 0 else nameH l % k
theorem sumH_range (l : List UInt8) : 0 ≤ sumH l ∧ sumH l < 18446744073709551616 := moreH_range _ l (by decide)
theorem nameH_range (l : List UInt8) : 0 ≤ nameH l ∧ nameH l < 18446744073709551616 := sumH_range _
theorem slotH_range (l : List UInt8) {k : Int} (h : 1 ≤ k) : 0 ≤ slotH l k ∧ slotH l k < k := by
  unfold slotH
  rw [if_neg (by omega)]
  exact ⟨Int.emod_nonneg _ (by omega), Int.emod_lt_of_pos _ (by omega)⟩

theorem gMore (a : Int) {s : ByteArray} (hs : s.size ≤ maxLen) {v : Int} (h : moreH a (bs s) = v) : Gives 116 #[.int .u64 a, .string s] (.int .u64 v) := fun w => by
  rw [← h]
  exact More_any a s w hs
theorem gSum {s : ByteArray} (hs : s.size ≤ maxLen) {v : Int} (h : sumH (bs s) = v) : Gives 114 #[.string s] (.int .u64 v) := fun w => by
  have hm := Lib.hid (gMore 14695981039346656037 hs h)
  go_enter Tryd.func114, Tryd.ntmps114
  go_wp2_with fail
  refine (hm.out.go _).mono ?_
  rintro e w' ⟨rfl, hb⟩
  go_wp2
  go_ret
  exact ⟨rfl, hb⟩
theorem gName {n : ByteArray} (hs : n.size ≤ maxLen) {v : Int} (h : nameH (bs n) = v) : Gives 107 #[.string n] (.int .u64 v) := fun w => by
  obtain ⟨F, hF⟩ : ∃ F : ByteArray, foldN (bs n) = bs F := ⟨_, (bs_mk _).symm⟩
  have hl : F.size ≤ maxLen := by
    have e : F.size = (foldN (bs n)).length := by rw [hF, bs_length]
    have := foldN_le (bs n)
    rw [bs_length] at this
    rw [e]
    exact Nat.le_trans this hs
  have h1 := Lib.hid (gFold hs hF)
  have h2 := Lib.hid (gSum (s := F) hl (v := v) (by rw [← hF]; exact h))
  clear hF h
  go_enter Tryd.func107, Tryd.ntmps107
  go_wp2_with fail
  refine (h1.out.go _).mono ?_
  rintro e w1 ⟨rfl, hb⟩
  go_wp2_with fail
  refine (h2.out.go _).mono ?_
  rintro e w2 ⟨rfl, hb2⟩
  go_wp2
  go_ret
  exact ⟨rfl, next hb hb2⟩
theorem gSlot {n : ByteArray} (hs : n.size ≤ maxLen) {k : Int} (hk : k ≤ 9223372036854775807) {v : Int} (h : slotH (bs n) k = v) : Gives 88 #[.string n, .int .i64 k] (.int .i64 v) := fun w => by
  subst h
  by_cases h1 : k < 1
  · have e : slotH (bs n) k = 0 := if_pos h1
    rw [e]
    go_enter Tryd.func88, Tryd.ntmps88
    go_wp2
    go_ret
    exact ⟨rfl, Below.refl _ _⟩
  · have e : slotH (bs n) k = nameH (bs n) % k := if_neg h1
    obtain ⟨r0, r1⟩ := slotH_range (bs n) (k := k) (by omega)
    obtain ⟨m0, m1⟩ := nameH_range (bs n)
    rw [e] at r0 r1 ⊢
    obtain ⟨m, hm⟩ : ∃ m, nameH (bs n) = m := ⟨_, rfl⟩
    rw [hm] at r0 r1 m0 m1 ⊢
    have g1 := Lib.hid (gName hs hm)
    have u1 : IntKind.u64.wrap k = k := by rw [IntKind.wrap_u64]; omega
    have u2 : IntKind.i64.wrap (m % k) = m % k := IntWalk.i64_in _ (by omega)
    have hz : ¬ k = 0 := by omega
    clear hm e
    go_enter Tryd.func88, Tryd.ntmps88
    go_wp2_with fail
    refine (g1.out.go _).mono ?_
    rintro e w1 ⟨rfl, hb⟩
    go_wp2
    go_ret
    exact ⟨rfl, hb⟩

/-! ### The document's own -/
end Go.Proofs.YthlabpbplikjbaaDoor
