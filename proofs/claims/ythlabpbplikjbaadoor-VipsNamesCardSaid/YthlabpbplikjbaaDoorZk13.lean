/-
  The labels of a name, one by one: the iterator each, as loops over it meet it. Condition: the name is no longer than Go's own limit. What name.Check answers: the walk. Condition: the name is no longer than Go's own limit. What name.Labels answers, by slices.Collect over each: the walks. Condition: the name is no longer than Go's own limit. What name.Text answers: the walk. Condition: the name is no longer than Go's own limit. A name's labels from the root's side on: slices.Backward over a row of strings, name.backward: the walks. Conditions: as each theorem names them. What name.Compare, Same, Under answer, by slices.CompareFunc and EqualFunc over rows of labels: the walks. Condition: the names are no longer than Go's own limit. What name.Compare, Same, Under, Parent, Join, Wild, Matches answer: the walks. Condition: the names are no longer than Go's own limit. What the document's own Check, Labels, Make answer for layer 2: the walks. Conditions: as each theorem names them. What the document's own Make answers for layer 2: the walk. Conditions: as the theorem names them. What the document's own Text, Read, Fold answer for layer 2: the walks. Conditions: as each theorem names them.
-/
import Derived.Test.YthlabpbplikjbaaDoorZk11
import Derived.Test.YthlabpbplikjbaaDoorZk12
import Derived.Shelf.Abstract
import Derived.TacticsInMore
import Derived.LoopNIn
import Derived.LoopIn
import Derived.Maps.AppendAt
import Derived.Test.YthlabpbplikjbaaDoorZk9
import Derived.Test.YthlabpbplikjbaaDoorZk10
import Derived.Test.YthlabpbplikjbaaDoorZk14
import Derived.RegionTactic
import Derived.BigRegion
import Derived.Laws.OwnMore
namespace Go.Proofs.YthlabpbplikjbaaDoor
open Go.RowKit Go.Shelf
set_option linter.unusedVariables false
attribute [local go_sem] Oper.semAt_some

theorem each_any (n : ByteArray) (w : World) :
    Calls Tryd.prog 48 #[.string n] w fun e w' => e = .returned (.func (.func 71) #[] #[.pointer (some ⟨w.heap.size, 0, none⟩)]) ∧ w' = w.alloc (.cells #[.string n] 39) := by
  go_enter Tryd.func48, Tryd.ntmps48
  go_wp2
  go_ret
  exact ⟨rfl, rfl⟩

def sizeOfV (v : Value) : Nat := match v with
  | .string s => s.size
  | _ => 0

/-- A label that may be. -/
abbrev Lab := { x : ByteArray // ok1 (bs x) }
def lb (x : Lab) : List UInt8 := bs x.1
theorem lb_le (L : List Lab) : (enc (L.map lb)).length ≤ 64 * L.length := by
  induction L with
  | nil => simp [enc]
  | cons x L ih =>
    have h2 := x.2.2
    rw [List.map_cons, enc_cons, List.length_append, enc1_length, List.length_cons]
    unfold lb at *
    omega
theorem lb_snoc (L : List Lab) (x : Lab) : enc ((L ++ [x]).map lb) = enc (L.map lb) ++ enc1 (bs x.1) := by rw [List.map_append, enc_append]; simp [lb, enc_one]
/-- What has come when a label more is told. -/
theorem came {n r : ByteArray} {X : Lab} {R : ByteArray} {pre : List Lab} (h : labs (bs n) = pre.map lb ++ labs (bs r)) (hc : cutL (bs r) = some (bs X.1, bs R)) : labs (bs n) = (pre ++ [X]).map lb ++ labs (bs R) := by
  rw [h, labs_some hc]
  simp [lb]

set_option maxRecDepth 100000 in
set_option maxHeartbeats 2000000 in
theorem each1_in (m l Bn : Nat) (hm : 1 ≤ m) (n : ByteArray) (hs : n.size ≤ maxLen) (J Jx : List Lab → World → Prop) (W : World) (hJ : AbidesFrom W.heap.size J)
    (hY : ∀ pre x W1, J pre W1 → pre.length < (labs (bs n)).length → YieldAt Fence.wide (m - 1) Tryd.prog l #[.string x.1] W1 fun e W' =>
      (e = .returned (.bool true) ∧ J (pre ++ [x]) W' ∧ True) ∨ (e = .returned (.bool false) ∧ Jx (pre ++ [x]) W'))
    (hBn : W.cell? ⟨Bn, 0, none⟩ = some (.string n)) (h0 : J [] W) :
    CallsIn Fence.wide m Tryd.prog 71 #[.func (.yield l) #[] #[], .pointer (some ⟨Bn, 0, none⟩)] W fun e W' => (∃ v, e = .returned v) ∧
      ((∃ ys, ys.map lb = labs (bs n) ∧ J ys W') ∨ (∃ pre, pre.map lb <+: labs (bs n) ∧ Jx pre W')) := by
  have HY := Lib.hid hY
  have HJ := Lib.hid hJ
  have hJ0 : Hid (labs (bs n) = ([] : List Lab).map lb ++ labs (bs n)) := Lib.hid rfl
  clear hY hJ
  refine callsIn_of_wp Tryd.func71 rfl trivial ?_ rfl
  simp only [Tryd.ntmps71, List.size_toArray, List.length_cons, List.length_nil, Nat.reduceAdd, Nat.reduceSub, Array.replicate_succ, Array.replicate_zero, List.push_toArray, List.append_toArray, List.nil_append, List.cons_append]
  gi_wp2
  gi_loopw [3] (fun p wr => ∃ (pre : List Lab) (r : ByteArray), p = .string r ∧ Hid (labs (bs n) = pre.map lb ++ labs (bs r)) ∧ r.size ≤ n.size ∧ J pre wr)
    (fun p _ => sizeOfV p)
  case atStart => exact ⟨[], n, rfl, hJ0, Nat.le_refl _, h0⟩
  case round =>
    clear hJ0 h0 hBn
    obtain ⟨pre, r, rfl, hx, hr, hJs⟩ := hrel
    have hrs : r.size ≤ maxLen := Nat.le_trans hr hs
    rcases hc : cutL (bs r) with _ | ⟨x, t⟩
    · have HC := Lib.hid (fun wx => cut_none r wx hrs hc)
      have HE : Hid (pre.map lb = labs (bs n)) := Lib.hid (by rw [hx.out, labs_none hc, List.append_nil])
      clear hc
      gi_wp2_with (refine ⟨trivial, ?_⟩; gi_at_call 72; refine (callsIn_wide.2 (HC.out _)).mono ?_; rintro e w2 ⟨rfl, hb2⟩)
      refine ⟨fun _ h => (by cases h), ?_⟩
      gi_wp2
      refine bodyPost_ret (results_none rfl _ _ _) rfl ?_
      exact ⟨⟨_, rfl⟩, .inl ⟨pre, HE.out, HJ.out _ _ _ none hJs (below_to_grown hb2) (fun _ e => by cases e)⟩⟩
    · obtain ⟨X, hX⟩ : ∃ X : ByteArray, bs X = x := ⟨_, bs_mk _⟩
      obtain ⟨R, hR⟩ : ∃ R : ByteArray, bs R = t := ⟨_, bs_mk _⟩
      rw [← hX, ← hR] at hc
      have hok : ok1 (bs X) := (cutL_some hc).2
      have HC := Lib.hid (fun wx => cut_some r X R wx hrs hc)
      have HE : Hid (labs (bs n) = (pre ++ [(⟨X, hok⟩ : Lab)]).map lb ++ labs (bs R)) := Lib.hid (came (X := ⟨X, hok⟩) hx.out hc)
      have hlen := cutL_len hc
      rw [bs_length, bs_length] at hlen
      have hpl : pre.length < (labs (bs n)).length := by
        have := congrArg List.length HE.out
        simp at this
        omega
      clear hc hX hR hx
      gi_wp2_with (refine ⟨trivial, ?_⟩; gi_at_call 72; refine (callsIn_wide.2 (HC.out _)).mono ?_; rintro e w2 ⟨rfl, hb2⟩; obtain ⟨fn, tmps, assign, body, hy, hRd⟩ := HY.out pre ⟨X, hok⟩ w2 (HJ.out _ _ _ none hJs (below_to_grown hb2) (fun _ e => by cases e)) hpl; dsimp only at hy)
      refine hRd.mono ?_
      rintro e W3 (⟨rfl, hJ3, _⟩ | ⟨rfl, hJx3⟩)
      · gi_wp2
        go_roundw
        case rel => exact ⟨pre ++ [⟨X, hok⟩], R, rfl, HE, by omega, hJ3⟩
        case measure => simp [sizeOfV]; omega
      · gi_wp2
        refine bodyPost_ret (results_none rfl _ _ _) rfl ?_
        refine ⟨⟨_, rfl⟩, .inr ⟨pre ++ [⟨X, hok⟩], ?_, hJx3⟩⟩
        rw [HE.out]
        exact List.prefix_append _ _

/-- each hands back a value that tells the labels of n, all, or a part where a round has said that no more is wanted. -/
theorem each_stops (m Bn : Nat) (hm : 1 ≤ m) (n : ByteArray) (hs : n.size ≤ maxLen) (w : World) (hBn : Bn < w.heap.size) (hc : w.cell? ⟨Bn, 0, none⟩ = some (.string n)) :
    SeqStopsK Fence.wide m Tryd.prog 71 #[.pointer (some ⟨Bn, 0, none⟩)] (fun x : Lab => #[Value.string x.1]) (fun _ _ => True) (fun ys => ys.map lb = labs (bs n)) (fun pre => pre.map lb <+: labs (bs n)) (labs (bs n)).length w := fun l J Jx W hW hJ _ hY h0 =>
  each1_in m l Bn hm n hs J Jx W hJ hY ((hW.cell (p := ⟨Bn, 0, none⟩) hBn).trans hc) h0
end Go.Proofs.YthlabpbplikjbaaDoor
namespace Go.Proofs.YthlabpbplikjbaaDoor
open Go.RowKit Go.Shelf
set_option linter.unusedVariables false
attribute [local go_sem] Oper.semAt_some

/-- The sum that Check makes. -/
def CkI (w : World) (B : Nat) (pre : List Lab) (W : World) : Prop := Boxed W B 3 (.int .i64 (enc (pre.map lb)).length) ∧ Below w.heap.size w W
theorem ckI_own (w : World) (B K : Nat) (hB : w.heap.size ≤ K) : OwnFrom K (CkI w B) :=
  OwnFrom.and (Own.from (boxed_own B 3 (fun pre : List Lab => Value.int .i64 (enc (pre.map lb)).length)) _) (ownFrom_below (Nat.le_refl _) hB)

theorem nCheck_long (n : ByteArray) (w : World) (hs : n.size ≤ maxLen) (h : 254 < n.size) :
    Calls Tryd.prog 47 #[.string n] w fun e w' => e = .returned (.int .i64 (chkN (bs n))) ∧ Below w.heap.size w w' := by
  have HP := Lib.hid (chkN_long (l := bs n) (by rw [bs_length]; exact h))
  unfold maxLen at hs
  go_enter Tryd.func47, Tryd.ntmps47
  go_wp2
  go_ret
  exact ⟨by rw [HP.out]; rfl, Below.refl _ _⟩

set_option maxRecDepth 100000 in
set_option maxHeartbeats 2000000 in
theorem nCheck_short (n : ByteArray) (w : World) (hs : n.size ≤ 254) :
    Calls Tryd.prog 47 #[.string n] w fun e w' => e = .returned (.int .i64 (chkN (bs n))) ∧ Below w.heap.size w w' := by
  have hN : (labs (bs n)).length ≤ 254 := by
    obtain ⟨h1, r, h2, _⟩ := labs_pre _ (bs n) (Nat.le_refl _)
    have := enc_two h1
    have h3 := congrArg List.length h2
    rw [List.length_append, bs_length] at h3
    omega
  have hm : n.size ≤ maxLen := by unfold maxLen; omega
  have HP : Hid (chkN (bs n) = if (enc (labs (bs n))).length = n.size then 0 else 4) := Lib.hid (by
    unfold chkN
    rw [bs_length, if_neg (by omega)])
  refine (callsIn_wide (n := 9)).1 ?_
  refine callsIn_of_wp_marks Tryd.func47 rfl trivial ?_ rfl
  simp only [Tryd.ntmps47, List.size_toArray, List.length_cons, List.length_nil, Nat.reduceAdd, Nat.reduceSub, Array.replicate_succ, Array.replicate_zero, List.push_toArray, List.append_toArray, List.nil_append, List.cons_append]
  gi_wp2_with (refine ⟨trivial, ?_⟩; gi_at_call 48; refine (callsIn_wide.2 (each_any _ _)).mono ?_; rintro e w' ⟨rfl, rfl⟩)
  have bO := Boxed.new w 3 (.int .i64 0)
  have bN := Boxed.new (w.alloc (.cells #[.int .i64 0] 3)) 39 (.string n)
  rw [World.size_alloc] at bN
  have hB0 : Below w.heap.size w ((w.alloc (.cells #[.int .i64 0] 3)).alloc (.cells #[.string n] 39)) := ((Below.refl _ w).alloc (Nat.le_refl _) _).alloc (by simp) _
  refine wpIn_rangeFunc_ownG rfl (by omega) (gf := 71) (lb := #[.pointer (some ⟨w.heap.size + 1, 0, none⟩)]) rfl trivial (enters_of Tryd.func71 (by kernel_rfl) rfl)
    (each_stops _ (w.heap.size + 1) (by omega) n hm _ (by simp) bN.cell) (fun _ _ => trivial) (fun _ _ _ _ _ _ _ _ => trivial) (Below.refl _ _) (fun _ => rfl)
    (CkI w w.heap.size) (fun _ _ _ => False) (ckI_own w _ _ (by simp; omega)) (fun _ _ _ _ _ hs _ _ => hs)
    ⟨bO.alloc _, hB0⟩ ?a1 ?assign ?body ?done ?stop
  case assign =>
    intro l x W K hK
    gi_wp2
    exact hK
  case body =>
    rintro l pre x W ⟨hv, hB⟩ hlt
    have hc := hv.cell
    have hf := hv.frozen
    have hle := lb_le pre
    have hx : x.1.size ≤ 63 := by have := x.2.2; rw [bs_length] at this; exact this
    have HS := Lib.hid (congrArg List.length (lb_snoc pre x))
    gi_wp2
    have e : ((enc (pre.map lb)).length : Int) + (1 + (x.1.size : Int)) = ((enc ((pre ++ [x]).map lb)).length : Nat) := by
      have := HS.out
      rw [List.length_append, enc1_length, bs_length] at this
      omega
    rw [e]
    exact ⟨(KeepsOthers.setCell _ _ _).from _, trivial, hv.set _, hB.setCell (p := ⟨w.heap.size, 0, none⟩) (Nat.le_refl _) _⟩
  case done =>
    rintro D ys W hD hS ⟨hv, hB⟩ hK
    rw [hS] at hv
    have hc := hv.cell
    have hD' : w.heap.size ≤ D := by simp at hD; omega
    by_cases he : (enc (labs (bs n))).length = n.size
    · have hb : (((enc (labs (bs n))).length : Int) != (n.size : Int)) = false := bne_eq_false_iff_eq.2 (by omega)
      have HE : Hid (chkN (bs n) = 0) := Lib.hid (by rw [HP.out, if_pos he])
      clear he hS
      gi_wp2
      refine ⟨by simp, .inl ⟨_, _, rfl, run_takeDeferred hK, ?_⟩⟩
      refine ⟨_, results_tmp rfl _ _ _, by rw [HE.out]; rfl, hB.trans (belowK_b (w := w) (Nat.le_refl _) W D _ _ hD' hK rfl rfl)⟩
    · have hb : (((enc (labs (bs n))).length : Int) != (n.size : Int)) = true := bne_iff_ne.2 (by omega)
      have HE : Hid (chkN (bs n) = 4) := Lib.hid (by rw [HP.out, if_neg he])
      clear he hS
      gi_wp2
      refine ⟨by simp, .inl ⟨_, _, rfl, run_takeDeferred hK, ?_⟩⟩
      refine ⟨_, results_tmp rfl _ _ _, by rw [HE.out]; rfl, hB.trans (belowK_b (w := w) (Nat.le_refl _) W D _ _ hD' hK rfl rfl)⟩
  case stop =>
    rintro D c pre W _ _ h _
    exact h.elim

theorem nCheck_any (n : ByteArray) (w : World) (hs : n.size ≤ maxLen) :
    Calls Tryd.prog 47 #[.string n] w fun e w' => e = .returned (.int .i64 (chkN (bs n))) ∧ Below w.heap.size w w' := by
  by_cases h : 254 < n.size
  · exact nCheck_long n w hs h
  · exact nCheck_short n w (by omega)
end Go.Proofs.YthlabpbplikjbaaDoor
namespace Go.Proofs.YthlabpbplikjbaaDoor
open Go.RowKit Go.Shelf
set_option linter.unusedVariables false
attribute [local go_sem] Oper.semAt_some

def strs (L : List Lab) : List Value := L.map fun x => Value.string x.1
/-- A row of labels that the call made: a new slice of strings. -/
def SOwn (W : World) (base : Nat) (v : Value) (L : List Lab) : Prop := W.ownsRow base 9 1 v L.length (strs L)
theorem SOwn.row {W : World} {base : Nat} {v : Value} {L : List Lab} (h : SOwn W base v L) : SRow W v (L.map Subtype.val) := by
  refine SRow.of_own (base := base) (t := 9) ?_
  have e : (L.map Subtype.val).map Value.string = strs L := by simp [strs]
  rw [e, List.length_map]
  exact h

end Go.Proofs.YthlabpbplikjbaaDoor
namespace Go.Proofs.YthlabpbplikjbaaDoor
open Go.RowKit Go.Shelf
set_option linter.unusedVariables false
attribute [local go_sem] Oper.semAt_some

end Go.Proofs.YthlabpbplikjbaaDoor
namespace Go.Proofs.YthlabpbplikjbaaDoor
open Go.RowKit Go.Shelf
set_option linter.unusedVariables false
attribute [local go_sem] Oper.semAt_some

def blk (v : Value) : Option Nat := match v with
  | .slice (some a) _ cap => if cap = 0 then none else some a.block
  | _ => none
theorem blk_none (A : Option Addr) (n : Nat) : blk (.slice A n 0) = none := by cases A <;> rfl
theorem blk_some {a : Addr} {n cap : Nat} (h : 0 < cap) : blk (.slice (some a) n cap) = some a.block := if_neg (Nat.ne_of_gt h)
theorem blk_eq {a : Addr} {n cap k : Nat} (h : blk (.slice (some a) n cap) = some k) : 0 < cap ∧ a.block = k := by
  rcases Nat.eq_zero_or_pos cap with rfl | hc
  · cases (blk_none (some a) n).symm.trans h
  · rw [blk_some hc] at h
    injection h with h
    exact ⟨hc, h⟩
theorem SRow.kept {W W' : World} {v : Value} {L : List ByteArray} (h : SRow W v L) (hk : ∀ k, blk v = some k → W'.heap[k]? = W.heap[k]?) : SRow W' v L := by
  rcases h with h | ⟨g, off, cap, rfl, h2, h3, h4, h5⟩
  · exact .inl h
  · rcases Nat.eq_zero_or_pos cap with rfl | hc
    · exact .inl ⟨_, by rw [Nat.le_zero.1 h3], List.eq_nil_of_length_eq_zero (Nat.le_zero.1 h3)⟩
    have hk' : W'.heap[g]? = W.heap[g]? := hk g (blk_some hc)
    refine .inr ⟨g, off, cap, rfl, ?_, h3, h4, fun j hj => (World.cell?_of_block (w := W) hk').trans (h5 j hj)⟩
    rcases Nat.lt_or_ge g W'.heap.size with hlt | hge
    · exact hlt
    · rw [Array.getElem?_eq_none hge, Array.getElem?_eq_getElem h2] at hk'
      cases hk'
theorem SRow.blk {W : World} {v : Value} {L : List ByteArray} (h : SRow W v L) : ∀ k, blk v = some k → k < W.heap.size := by
  intro k hk
  rcases h with ⟨A, rfl, _⟩ | ⟨g, off, cap, rfl, h2, _⟩
  · rw [blk_none] at hk; cases hk
  · obtain ⟨_, hk⟩ := blk_eq hk
    subst hk
    exact h2
end Go.Proofs.YthlabpbplikjbaaDoor
namespace Go.Proofs.YthlabpbplikjbaaDoor
open Go.RowKit Go.Shelf
set_option linter.unusedVariables false

theorem SRow.at {W : World} {A : Option Addr} {cap n : Nat} {L : List ByteArray} (h : SRow W (.slice A n cap) L) {k : Nat} (hk : k < L.length) : ∃ g off, A = some ⟨g, off, none⟩ ∧ W.cell? ⟨g, off + k, none⟩ = some (.string L[k]) := by
  rcases h with ⟨_, _, rfl⟩ | ⟨g, off, c, h1, _, _, _, h5⟩
  · simp at hk
  · injection h1 with h1
    exact ⟨g, off, h1, h5 k hk⟩
end Go.Proofs.YthlabpbplikjbaaDoor
namespace Go.Proofs.YthlabpbplikjbaaDoor
open Go.RowKit Go.Shelf
set_option linter.unusedVariables false

/-- A row's head is a row. -/
theorem SRow.take {W : World} {A : Option Addr} {ca : Nat} {X : List ByteArray} (h : SRow W (.slice A X.length ca) X) {m : Nat} (hm : m ≤ X.length) : SRow W (.slice A (X.take m).length ca) (X.take m) := by
  rcases h with ⟨A', h1, h2⟩ | ⟨g, off, c, h1, h2, h3, h4, h5⟩
  · left
    subst h2
    injection h1 with _ _ h1
    subst h1
    exact ⟨A, by rw [List.take_nil]; rfl, List.take_nil⟩
  · injection h1 with h1 _ h1'
    subst h1
    subst h1'
    have hl : (X.take m).length = m := by rw [List.length_take]; omega
    refine .inr ⟨g, off, ca, rfl, h2, by omega, h4, fun j hj => ?_⟩
    rw [hl] at hj
    rw [List.getElem_take]
    exact h5 j (by omega)

end Go.Proofs.YthlabpbplikjbaaDoor
namespace Go.Proofs.YthlabpbplikjbaaDoor
open Go.RowKit
set_option linter.unusedVariables false

end Go.Proofs.YthlabpbplikjbaaDoor
namespace Go.Proofs.YthlabpbplikjbaaDoor
open Go.RowKit
set_option linter.unusedVariables false

end Go.Proofs.YthlabpbplikjbaaDoor
namespace Go.Proofs.YthlabpbplikjbaaDoor
open Go.RowKit
set_option linter.unusedVariables false

end Go.Proofs.YthlabpbplikjbaaDoor
