/-
  The labels of a name, one by one: the iterator each, as loops over it meet it. Condition: the name is no longer than Go's own limit.
-/
import Derived.Test.YtmjhofgcfolelaaNmCut
import Derived.Test.YtmjhofgcfolelaaNmKit
import Derived.Shelf.Abstract
import Derived.TacticsInMore
import Derived.LoopNIn
import Derived.LoopIn
namespace Go.Proofs.Ytmjhofgcfolelaa
open Go.RowKit Go.Shelf
set_option linter.unusedVariables false
attribute [local go_sem] Oper.semAt_some

theorem each_any (n : ByteArray) (w : World) :
    Calls Try.prog 26 #[.string n] w fun e w' => e = .returned (.func (.func 36) #[] #[.pointer (some ⟨w.heap.size, 0, none⟩)]) ∧ w' = w.alloc (.cells #[.string n] 26) := by
  go_enter Try.func26, Try.ntmps26
  go_wp2
  go_ret
  exact ⟨rfl, rfl⟩

def sizeOfV (v : Value) : Nat := match v with
  | .string s => s.size
  | _ => 0

/-- A label that may be. -/
abbrev Lab := { x : ByteArray // ok1 (bs x) }
def lb (x : Lab) : List UInt8 := bs x.1
theorem lb_ok (L : List Lab) : okN (L.map lb) := fun y hy => by
  obtain ⟨x, _, rfl⟩ := List.mem_map.1 hy
  exact x.2
theorem lb_le (L : List Lab) : (enc (L.map lb)).length ≤ 64 * L.length := by
  induction L with
  | nil => simp [enc]
  | cons x L ih =>
    have h2 := x.2.2
    rw [List.map_cons, enc_cons, List.length_append, enc1_length, List.length_cons]
    unfold lb at *
    omega
theorem lb_snoc (L : List Lab) (x : Lab) : enc ((L ++ [x]).map lb) = enc (L.map lb) ++ enc1 (bs x.1) := by rw [List.map_append, enc_append]; simp [lb, enc_one]
/-- What has come when a label more is told. -/
theorem came {n r : ByteArray} {X : Lab} {R : ByteArray} {pre : List Lab} (h : labs (bs n) = pre.map lb ++ labs (bs r)) (hc : cutL (bs r) = some (bs X.1, bs R)) : labs (bs n) = (pre ++ [X]).map lb ++ labs (bs R) := by
  rw [h, labs_some hc]
  simp [lb]

set_option maxRecDepth 100000 in
set_option maxHeartbeats 2000000 in
theorem each1_in (m l Bn : Nat) (hm : 1 ≤ m) (n : ByteArray) (hs : n.size ≤ maxLen) (J Jx : List Lab → World → Prop) (W : World) (hJ : AbidesFrom W.heap.size J)
    (hY : ∀ pre x W1, J pre W1 → pre.length < (labs (bs n)).length → YieldAt Fence.wide (m - 1) Try.prog l #[.string x.1] W1 fun e W' =>
      (e = .returned (.bool true) ∧ J (pre ++ [x]) W' ∧ True) ∨ (e = .returned (.bool false) ∧ Jx (pre ++ [x]) W'))
    (hBn : W.cell? ⟨Bn, 0, none⟩ = some (.string n)) (h0 : J [] W) :
    CallsIn Fence.wide m Try.prog 36 #[.func (.yield l) #[] #[], .pointer (some ⟨Bn, 0, none⟩)] W fun e W' => (∃ v, e = .returned v) ∧
      ((∃ ys, ys.map lb = labs (bs n) ∧ J ys W') ∨ (∃ pre, pre.map lb <+: labs (bs n) ∧ Jx pre W')) := by
  have HY := Lib.hid hY
  have HJ := Lib.hid hJ
  have hJ0 : Hid (labs (bs n) = ([] : List Lab).map lb ++ labs (bs n)) := Lib.hid rfl
  clear hY hJ
  refine callsIn_of_wp Try.func36 rfl trivial ?_ rfl
  simp only [Try.ntmps36, List.size_toArray, List.length_cons, List.length_nil, Nat.reduceAdd, Nat.reduceSub, Array.replicate_succ, Array.replicate_zero, List.push_toArray, List.append_toArray, List.nil_append, List.cons_append]
  gi_wp2
  gi_loopw [3] (fun p wr => ∃ (pre : List Lab) (r : ByteArray), p = .string r ∧ Hid (labs (bs n) = pre.map lb ++ labs (bs r)) ∧ r.size ≤ n.size ∧ J pre wr)
    (fun p _ => sizeOfV p)
  case atStart => exact ⟨[], n, rfl, hJ0, Nat.le_refl _, h0⟩
  case round =>
    clear hJ0 h0 hBn
    obtain ⟨pre, r, rfl, hx, hr, hJs⟩ := hrel
    have hrs : r.size ≤ maxLen := Nat.le_trans hr hs
    rcases hc : cutL (bs r) with _ | ⟨x, t⟩
    · have HC := Lib.hid (fun wx => cut_none r wx hrs hc)
      have HE : Hid (pre.map lb = labs (bs n)) := Lib.hid (by rw [hx.out, labs_none hc, List.append_nil])
      clear hc
      gi_wp2_with (refine ⟨trivial, ?_⟩; gi_at_call 37; refine (callsIn_wide.2 (HC.out _)).mono ?_; rintro e w2 ⟨rfl, hb2⟩)
      refine ⟨fun _ h => (by cases h), ?_⟩
      gi_wp2
      refine bodyPost_ret (results_none rfl _ _ _) rfl ?_
      exact ⟨⟨_, rfl⟩, .inl ⟨pre, HE.out, HJ.out _ _ _ none hJs (below_to_grown hb2) (fun _ e => by cases e)⟩⟩
    · obtain ⟨X, hX⟩ : ∃ X : ByteArray, bs X = x := ⟨_, bs_mk _⟩
      obtain ⟨R, hR⟩ : ∃ R : ByteArray, bs R = t := ⟨_, bs_mk _⟩
      rw [← hX, ← hR] at hc
      have hok : ok1 (bs X) := (cutL_some hc).2
      have HC := Lib.hid (fun wx => cut_some r X R wx hrs hc)
      have HE : Hid (labs (bs n) = (pre ++ [(⟨X, hok⟩ : Lab)]).map lb ++ labs (bs R)) := Lib.hid (came (X := ⟨X, hok⟩) hx.out hc)
      have hlen := cutL_len hc
      rw [bs_length, bs_length] at hlen
      have hpl : pre.length < (labs (bs n)).length := by
        have := congrArg List.length HE.out
        simp at this
        omega
      clear hc hX hR hx
      gi_wp2_with (refine ⟨trivial, ?_⟩; gi_at_call 37; refine (callsIn_wide.2 (HC.out _)).mono ?_; rintro e w2 ⟨rfl, hb2⟩; obtain ⟨fn, tmps, assign, body, hy, hRd⟩ := HY.out pre ⟨X, hok⟩ w2 (HJ.out _ _ _ none hJs (below_to_grown hb2) (fun _ e => by cases e)) hpl; dsimp only at hy)
      refine hRd.mono ?_
      rintro e W3 (⟨rfl, hJ3, _⟩ | ⟨rfl, hJx3⟩)
      · gi_wp2
        go_roundw
        case rel => exact ⟨pre ++ [⟨X, hok⟩], R, rfl, HE, by omega, hJ3⟩
        case measure => simp [sizeOfV]; omega
      · gi_wp2
        refine bodyPost_ret (results_none rfl _ _ _) rfl ?_
        refine ⟨⟨_, rfl⟩, .inr ⟨pre ++ [⟨X, hok⟩], ?_, hJx3⟩⟩
        rw [HE.out]
        exact List.prefix_append _ _

/-- each hands back a value that tells the labels of n, all, or a part where a round has said that no more is wanted. -/
theorem each_stops (m Bn : Nat) (hm : 1 ≤ m) (n : ByteArray) (hs : n.size ≤ maxLen) (w : World) (hBn : Bn < w.heap.size) (hc : w.cell? ⟨Bn, 0, none⟩ = some (.string n)) :
    SeqStopsK Fence.wide m Try.prog 36 #[.pointer (some ⟨Bn, 0, none⟩)] (fun x : Lab => #[Value.string x.1]) (fun _ _ => True) (fun ys => ys.map lb = labs (bs n)) (fun pre => pre.map lb <+: labs (bs n)) (labs (bs n)).length w := fun l J Jx W hW hJ _ hY h0 =>
  each1_in m l Bn hm n hs J Jx W hJ hY ((hW.cell (p := ⟨Bn, 0, none⟩) hBn).trans hc) h0
end Go.Proofs.Ytmjhofgcfolelaa
