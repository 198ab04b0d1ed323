/-
  ranges.behind: an address and those behind it, each with how many are ahead of it: what a range over it meets. It does not end by itself while there is a next address: the caller's own word sets a bound. Condition: the address' numbers fit their kinds.
-/
import Derived.Test.YtpmlldgjbmingaaGreatDoorZk10
import Derived.Test.YtpmlldgjbmingaaGreatDoorZk2
import Derived.Test.YtpmlldgjbmingaaGreatDoorZk11
import Derived.Shelf.Abstract
import Derived.TacticsInMore
import Derived.LoopNIn
import Derived.LoopIn
namespace Go.Proofs.YtpmlldgjbmingaaGreatDoor
open Go.RowKit Go.Shelf
set_option linter.unusedVariables false
attribute [local go_sem] Oper.semAt_some

/-- What comes: so many ahead, the address. -/
def behL (a : Ad) (k : Nat) : List (Nat × Ad) := (List.range k).map fun i => (i, (addA a i).1)
theorem behL_len (a : Ad) (k : Nat) : (behL a k).length = k := by simp [behL]
theorem behL_succ (a : Ad) (k : Nat) : behL a (k + 1) = behL a k ++ [(k, (addA a k).1)] := by simp [behL, List.range_succ]
def behE (x : Nat × Ad) : Array Value := #[.int .i64 (x.1 : Int), .agg #[.bool x.2.1, .int .u64 (x.2.2.1 : Int), .int .u64 (x.2.2.2 : Int)]]
theorem behind_any (six : Bool) (hi lo : Nat) (w : World) :
    Calls Tryz.prog 90 #[.agg #[.bool six, .int .u64 (hi : Int), .int .u64 (lo : Int)]] w fun e w' => e = .returned (.func (.func 132) #[] #[.pointer (some ⟨w.heap.size, 0, none⟩)]) ∧ w' = w.alloc (.cells #[.bool six, .int .u64 (hi : Int), .int .u64 (lo : Int)] 24) := by
  go_enter Tryz.func90, Tryz.ntmps90
  go_wp2
  go_ret
  exact ⟨rfl, rfl⟩

set_option maxRecDepth 100000 in
set_option maxHeartbeats 4000000 in
theorem behind_seq (m B : Nat) (hm : 1 ≤ m) (six : Bool) (hi lo : Nat) (h1 : hi < 18446744073709551616) (h2 : lo < 18446744073709551616) (w : World) (hB : B < w.heap.size)
    (hb : w.heap[B]? = some (.cells #[.bool six, .int .u64 (hi : Int), .int .u64 (lo : Int)] 24)) (M0 : Nat) (hM0 : M0 ≤ 1000000) :
    SeqO Fence.wide m Tryz.prog 132 #[] #[.pointer (some ⟨B, 0, none⟩)] behE (fun xs => xs = behL (six, hi, lo) xs.length ∧ (addA (six, hi, lo) xs.length).2 = false) (fun pre => pre = behL (six, hi, lo) pre.length)
      (fun pre x => pre = behL (six, hi, lo) pre.length ∧ x = (pre.length, (addA (six, hi, lo) pre.length).1) ∧ (addA (six, hi, lo) pre.length).2 = true) (fun b => b = B) (some M0) w := by
  intro l J Jx T W hW hJ hJx hT hC hMb hY h0
  have HY := Lib.hid hY
  have HJ := Lib.hid hJ
  have HM := Lib.hid fun pre T W1 h => hMb M0 rfl pre T W1 h
  have HA := Lib.hid fun (k : Nat) (hk : k < 18446744073709551616) wx => aAdd_any six hi lo k wx h1 h2 hk
  have hnB : ¬ T B := hC B rfl
  have hbW : W.heap[B]? = some (.cells #[.bool six, .int .u64 (hi : Int), .int .u64 (lo : Int)] 24) := (hW.block B hB).trans hb
  clear hY hJ hJx hT hC hMb hb h1 h2 hB
  refine callsIn_of_wp Tryz.func132 rfl trivial ?_ rfl
  simp only [Tryz.ntmps132, List.size_toArray, List.length_cons, List.length_nil, Nat.reduceAdd, Nat.reduceSub, Array.replicate_succ, Array.replicate_zero, List.push_toArray, List.append_toArray, List.nil_append, List.cons_append]
  gi_wp2
  gi_loopw [3] (fun p wr => ∃ (k : Nat) (Tk : Nat → Prop), p = .int .i64 (k : Int) ∧ J (behL (six, hi, lo) k) Tk wr ∧ ¬ Tk B ∧ wr.heap[B]? = some (.cells #[.bool six, .int .u64 (hi : Int), .int .u64 (lo : Int)] 24))
    (fun p _ => M0 + 1 - (intOf p).toNat)
  case atStart => exact ⟨0, T, rfl, h0, hnB, hbW⟩
  case round =>
    clear h0 hnB hbW
    obtain ⟨k, Tk, rfl, hJk, hTk, hbk⟩ := hrel
    have hkM := HM.out _ Tk wr hJk
    rw [behL_len] at hkM
    have c0 : wr.cell? ⟨B, 0, none⟩ = some (.bool six) := by simp [World.cell?, hbk]
    have c1 : wr.cell? ⟨B, 1, none⟩ = some (.int .u64 (hi : Int)) := by simp [World.cell?, hbk]
    have c2 : wr.cell? ⟨B, 2, none⟩ = some (.int .u64 (lo : Int)) := by simp [World.cell?, hbk]
    have hu : IntKind.u64.wrap (k : Int) = (k : Int) := by rw [IntKind.wrap_u64]; omega
    have HAk := Lib.hid (HA.out k (by omega))
    have HJk := Lib.hid hJk
    have HBk := Lib.hid hbk
    have HJ3 : Hid (∀ w2 o, Below wr.heap.size wr w2 → J (behL (six, hi, lo) k) Tk (w2.alloc o) ∧ (w2.alloc o).heap[B]? = some (.cells #[.bool six, .int .u64 (hi : Int), .int .u64 (lo : Int)] 24)) := Lib.hid fun w2 o hb2 =>
      ⟨(HJ.out Tk).alloc o (HJ.out Tk _ _ _ none hJk (below_to_grown hb2) (fun _ e => by cases e)), (Below.heap_alloc _ _ _ (Nat.lt_of_lt_of_le (Array.getElem?_eq_some_iff.1 hbk).1 hb2.size)).trans ((hb2.block B (Array.getElem?_eq_some_iff.1 hbk).1).trans hbk)⟩
    obtain ⟨⟨⟨s, ah, al⟩, is⟩, hx⟩ : ∃ x, addA (six, hi, lo) k = x := ⟨_, rfl⟩
    rw [hx] at HAk
    simp only [av] at HAk
    have HX := Lib.hid hx
    clear hJk hbk hx HJk HBk
    cases is with
    | false =>
      gi_wp2_with (refine ⟨trivial, ?_⟩; gi_at_call 16; refine (callsIn_wide.2 (HAk.out _)).mono ?_; rintro e w2 ⟨rfl, hb2⟩)
      refine ⟨fun _ h => (by cases h), ?_⟩
      have HF := Lib.hid (HJ3.out w2 (.cells #[.bool s, .int .u64 (ah : Int), .int .u64 (al : Int)] 24) hb2).1
      clear hb2
      gi_wp2
      refine bodyPost_ret (results_none rfl _ _ _) rfl ?_
      exact ⟨⟨_, rfl⟩, .inl ⟨_, ⟨by rw [behL_len], by rw [behL_len, HX.out]⟩, Tk, HF.out⟩⟩
    | true =>
      gi_wp2_with (refine ⟨trivial, ?_⟩; gi_at_call 16; refine (callsIn_wide.2 (HAk.out _)).mono ?_; rintro e w2 ⟨rfl, hb2⟩; obtain ⟨hJ3, hb3⟩ := HJ3.out w2 (.cells #[.bool s, .int .u64 (ah : Int), .int .u64 (al : Int)] 24) hb2; obtain ⟨fn, tmps, assign, body, hy, hRd⟩ := HY.out (behL (six, hi, lo) k) (k, (s, ah, al)) Tk _ hJ3 ⟨by rw [behL_len], by rw [behL_len, HX.out], by rw [behL_len, HX.out]⟩; simp only [behE] at hy; have HB3 := Lib.hid hb3; clear hb2 hb3 hJ3)
      refine hRd.mono ?_
      rintro e W3 (⟨rfl, T3, hJ4, hk3⟩ | ⟨rfl, hJx3, T3, hk3⟩)
      · obtain ⟨hb4, hn4⟩ := hk3.at HB3.out hTk
        gi_wp2
        go_roundw
        case rel => exact ⟨k + 1, T3, by go_num, by rw [behL_succ, HX.out]; exact hJ4, hn4, hb4⟩
        case measure => simp [intOf]; omega
      · gi_wp2
        refine bodyPost_ret (results_none rfl _ _ _) rfl ?_
        exact ⟨⟨_, rfl⟩, .inr ⟨_, by rw [List.length_append, behL_len, List.length_singleton, behL_succ, HX.out], hJx3⟩⟩
end Go.Proofs.YtpmlldgjbmingaaGreatDoor
