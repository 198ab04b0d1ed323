/-
  A list gone through: All, as what a range over it meets. Condition: at most 2^40 keys.
-/
import Derived.Test.YtabhapohkohbmaaLrG
import Derived.TacticsInMore
import Derived.LoopNIn
import Derived.LoopIn
import Derived.OwnWalkIn
import Derived.Maps.OwnIn
namespace Go.Proofs.Ytabhapohkohbmaa
open Go.RowKit Go.Maps
set_option linter.unusedVariables false
set_option linter.unusedSimpArgs false

theorem All_any (w : World) (a : Option Addr) : Calls Try.prog 34 #[.pointer a] w fun e w' => e = .returned (.func (.func 51) #[] #[.pointer (some ⟨w.heap.size, 0, none⟩)]) ∧ w' = w.alloc (.cells #[.pointer a] 36) := by
  go_enter Try.func34, Try.ntmps34
  go_wp2
  go_ret
  exact ⟨rfl, rfl⟩
/-- The row that a walk over it holds on to. -/
def RowK (v : Value) (R : Rw) (T : Nat → Prop) (w : World) : Prop := OwnP w 0 v R ∧ ∀ g, v.ownBlock = some g → ¬ T g
theorem RowK.kept {v : Value} {R : Rw} {T T' : Nat → Prop} {w w' : World} (h : RowK v R T w) (hk : Kpt T T' w w') : RowK v R T' w' := by
  obtain ⟨⟨h1, h2⟩, h3⟩ := h
  rcases h2 with h2 | ⟨g, cap, cur, e, hg, hc, r⟩
  · refine ⟨⟨h1, Or.inl h2⟩, ?_⟩
    intro g hg
    rw [h2.1] at hg
    cases hg
  · have := hk.at hc (h3 g (by rw [e]; rfl))
    refine ⟨⟨h1, Or.inr ⟨g, cap, cur, e, hg, this.1, r⟩⟩, ?_⟩
    intro g' hg'
    rw [e] at hg'
    obtain rfl : g = g' := by simpa [Value.ownBlock] using hg'
    exact this.2
theorem allP_at : ∀ (R : List (ByteArray × Int)) (k : Nat) {x : ByteArray × Int}, R[k]? = some x → (allP R)[k * 2]? = some (.string x.1) ∧ (allP R)[k * 2 + 1]? = some (.int .i64 x.2)
  | [], k, x, h => by simp at h
  | y :: r, 0, x, h => by
    simp at h
    subst h
    exact ⟨rfl, rfl⟩
  | y :: r, k + 1, x, h => by
    have e : allP (y :: r) = .string y.1 :: .int .i64 y.2 :: allP r := by simp [allP, csP]
    have := allP_at r k (by simpa using h)
    rw [e, show (k + 1) * 2 = k * 2 + 1 + 1 by omega]
    simpa using this
theorem RowK.at {v : Value} {R : List (ByteArray × Int)} {T : Nat → Prop} {w : World} (h : RowK v R T w) {k : Nat} {x : ByteArray × Int} (hx : R[k]? = some x) : ∃ g cap, v = .slice (some ⟨g, 0, none⟩) R.length cap ∧ R.length ≤ cap ∧ cap ≤ maxLen ∧ w.cell? ⟨g, k * 2, none⟩ = some (.string x.1) ∧ w.cell? ⟨g, k * 2 + 1, none⟩ = some (.int .i64 x.2) := by
  have hk := (List.getElem?_eq_some_iff.1 hx).1
  rcases h.1.2 with ⟨_, e⟩ | ⟨g, cap, cur, e, hg, hc, h1, h2, h3, h4⟩
  · omega
  · obtain ⟨g1, g2⟩ := allP_at R k hx
    rw [← h4] at g1 g2
    refine ⟨g, cap, e, h1, h2, ?_, ?_⟩
    · rw [cell_of_row w g (k * 2) cur _ (0, 0) hc]
      rw [List.getElem?_take_of_lt (by omega)] at g1
      simpa using g1
    · rw [cell_of_row w g (k * 2 + 1) cur _ (0, 0) hc]
      rw [List.getElem?_take_of_lt (by omega)] at g2
      simpa using g2
theorem take_snoc {α : Type} {R : List α} {k : Nat} {x : α} (hx : R[k]? = some x) : R.take k ++ [x] = R.take (k + 1) := by
  rw [List.take_add_one, hx]
  rfl
/-- Between two rounds: k of them have come. -/
def AllRel (R : Rw) (v : Value) (J : List (ByteArray × Int) → (Nat → Prop) → World → Prop) (i : Value) (wr : World) : Prop := ∃ (k : Nat) (Tk : Nat → Prop), i = .int .i64 (k : Int) ∧ k ≤ R.length ∧ J (R.take k) Tk wr ∧ RowK v R Tk wr
set_option maxRecDepth 100000 in
set_option maxHeartbeats 8000000 in
theorem all_seqP (m : Nat) (hm : 1 ≤ m) (bx : Nat) (a : Option Addr) (R : Rw) (w : World) (hbx : w.cell? ⟨bx, 0, none⟩ = some (.pointer a)) (hl : R.length ≤ 1099511627776)
    (hS : ∀ W, Below w.heap.size w W → Calls Try.prog 52 #[.pointer a] W fun e w' => ∃ v, e = .returned v ∧ OwnP w' W.heap.size v R ∧ Below W.heap.size W w') :
    SeqO Fence.wide m Try.prog 51 #[] #[.pointer (some ⟨bx, 0, none⟩)] (fun x : ByteArray × Int => #[.string x.1, .int .i64 x.2]) (fun xs => xs = R) (fun pre => pre <+: R) (fun pre x => pre ++ [x] <+: R) (fun _ => False) none w := by
  intro l J Jx T W hW hJ hJx hT hC _ hY h0
  have HY := Lib.hid hY
  have HJ := Lib.hid hJ
  have HT := Lib.hid hT
  have HS := Lib.hid (hS W hW)
  have HL := Lib.hid hl
  have hc : W.cell? ⟨bx, 0, none⟩ = some (.pointer a) := (hW.cell (p := ⟨bx, 0, none⟩) (World.block_lt_of_cell? w _ hbx)).trans hbx
  have hJ0 := Lib.hid h0
  clear hY hJ hJx hT hC hbx h0 hS hl
  refine callsIn_of_wp Try.func51 rfl trivial ?_ rfl
  simp only [Try.ntmps51, List.size_toArray, List.length_cons, List.length_nil, Nat.reduceAdd, Nat.reduceSub, Array.replicate_succ, Array.replicate_zero, List.push_toArray, List.append_toArray, List.nil_append, List.cons_append]
  gi_wp2_with (refine ⟨trivial, ?_⟩; gi_at_call 52; refine (callsIn_wide.2 HS.out).mono ?_; rintro e w1 ⟨v, rfl, ho, hb1⟩; obtain ⟨A, cap, rfl⟩ : ∃ A cap, v = .slice A R.length cap := (by
      rcases ho.2 with ⟨rfl, e⟩ | ⟨g, cap, cur, e, _⟩
      · exact ⟨none, 0, by rw [e]⟩
      · exact ⟨_, _, e⟩); have HR0 : Hid (AllRel R (.slice A R.length cap) J (.int .i64 0) w1) := Lib.hid ⟨0, T, rfl, Nat.zero_le _, (HJ.out T) [] _ _ none hJ0.out (below_to_grown hb1) (fun r e => by cases e), ⟨⟨ho.1, ho.2.imp id fun ⟨g, cap, cur, e, hg, r⟩ => ⟨g, cap, cur, e, Nat.zero_le _, r⟩⟩, fun g hg => HT.out [] T W hJ0.out g (ho.base g hg)⟩⟩; clear ho hb1)
  gi_loopw [8] (fun i wr => AllRel R (.slice A R.length cap) J i wr) (fun i _ => R.length - (intOf i).toNat)
  case atStart => exact HR0.out
  case round =>
    clear HR0 hJ0 hc
    obtain ⟨k, Tk, rfl, hk, hj, hr⟩ := hrel
    have HRr := Lib.hid hr
    have HJj := Lib.hid hj
    by_cases hlt : k < R.length
    · obtain ⟨⟨xk, xv⟩, hx⟩ : ∃ x, R[k]? = some x := ⟨_, List.getElem?_eq_getElem hlt⟩
      obtain ⟨g, cap', e, h1, h2, x0, x1⟩ := hr.at hx
      injection e with e1 e2 e3
      subst e1 e3
      have hsn := take_snoc hx
      have hpre : R.take k ++ [(xk, xv)] <+: R := by rw [hsn]; exact List.take_prefix _ _
      have HLt := Lib.hid hlt
      have i1 : (k : Int) < R.length := by omega
      have hj2 := (HJ.out Tk).alloc (.cells #[.string xk, .int .i64 xv] 96) hj
      obtain ⟨fn, tmps, assign, body, hy, hRd⟩ := HY.out (R.take k) (xk, xv) Tk _ hj2 hpre
      have HSn := Lib.hid hsn
      have hk2 : Kpt Tk Tk wr (wr.alloc (.cells #[.string xk, .int .i64 xv] 96)) := Kpt.alloc _ _ _
      have HR2 := Lib.hid (hr.kept hk2)
      unfold maxLen at h2
      clear hr hj hj2 hx hpre hsn hlt hk2
      have HP : Hid (R.take k ++ [(xk, xv)] <+: R) := Lib.hid (by rw [HSn.out]; exact List.take_prefix _ _)
      gi_wp2
      refine hRd.mono ?_
      rintro e W3 (⟨rfl, T3, hJ3, hk3⟩ | ⟨rfl, hJx3, T3, hk3⟩)
      · have HR3 := Lib.hid (HR2.out.kept hk3)
        gi_wp2
        go_roundw
        case rel => exact ⟨k + 1, T3, by go_num, HLt.out, by rw [← HSn.out]; exact hJ3, HR3.out⟩
        case measure => have := HLt.out; simp [intOf]; omega
      · gi_wp2
        exact bodyPost_ret (results_none (fn := Try.f51) rfl _ _ _) rfl ⟨⟨_, rfl⟩, .inr ⟨_, HP.out, hJx3⟩⟩
    · have i1 : ¬ (k : Int) < R.length := by omega
      have e : R.take k = R := List.take_of_length_le (by omega)
      rw [e] at HJj
      gi_wp2
      go_end0
      exact ⟨⟨_, rfl⟩, .inl ⟨Tk, HJj.out⟩⟩
section
variable {w w' : World} {p mst m b : Nat} {A B : Nat → Nat} {E : List (Value × Value)} {M L P Q : List Nd} {x : Nd} {T : Nat → Prop} {R : Rw}
theorem LR.snapshot (h : LR w p mst R T) (hl : R.length ≤ 1099511627776) : Calls Try.prog 52 #[.pointer (some ⟨p, 0, none⟩)] w fun e w' => ∃ v, e = .returned v ∧ OwnP w' w.heap.size v R ∧ Below w.heap.size w w' := by
  obtain ⟨m, b, A, B, L, h, rfl, hl2⟩ := h
  exact h.snapshot (by simpa [kv] using hl)
/-- A list's All, from a world on where it lies so. -/
theorem LR.seq (h : LR w p mst R T) (hl : R.length ≤ 1099511627776) (m : Nat) (hm : 1 ≤ m) (bx : Nat) (hbx : w.cell? ⟨bx, 0, none⟩ = some (.pointer (some ⟨p, 0, none⟩))) :
    SeqO Fence.wide m Try.prog 51 #[] #[.pointer (some ⟨bx, 0, none⟩)] (fun x : ByteArray × Int => #[.string x.1, .int .i64 x.2]) (fun xs => xs = R) (fun pre => pre <+: R) (fun pre x => pre ++ [x] <+: R) (fun _ => False) none w :=
  all_seqP m hm bx _ R w hbx hl fun W hW => (h.next hW).snapshot hl
theorem nil_seq (w : World) (m : Nat) (hm : 1 ≤ m) (bx : Nat) (hbx : w.cell? ⟨bx, 0, none⟩ = some (.pointer none)) :
    SeqO Fence.wide m Try.prog 51 #[] #[.pointer (some ⟨bx, 0, none⟩)] (fun x : ByteArray × Int => #[.string x.1, .int .i64 x.2]) (fun xs => xs = []) (fun pre => pre <+: []) (fun pre x => pre ++ [x] <+: []) (fun _ => False) none w :=
  all_seqP m hm bx _ [] w hbx (by decide) fun W hW => (snapshot_nil W).mono (by
    rintro e w' ⟨rfl, rfl⟩
    exact ⟨_, rfl, World.ownsRow_nil _ _ _ _, Below.refl _ _⟩)
end
end Go.Proofs.Ytabhapohkohbmaa
