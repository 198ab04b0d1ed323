/-
  A map's values, gone through by maps.Values: what a range over them meets. Conditions: as each theorem names them.
-/
import Derived.Test.YthlabpbplikjbaaDoorZk35
import Derived.Test.YthlabpbplikjbaaDoorSeq
import Derived.Shelf.Abstract
import Derived.TacticsInMore
import Derived.LoopNIn
import Derived.LoopIn
import Derived.Sort.MapsRangeIn
namespace Go.Proofs.YthlabpbplikjbaaDoor
open Go.RowKit Go.Maps Go.Shelf Go.ChangeMaps Go.MapKept
set_option linter.unusedVariables false
attribute [local go_sem] Oper.semAt_some

section
variable {F : Fence} {n : Nat} {P : Program} {k : TypeId} {w : World} {b r : Nat} {E Lf Lf' : List (Value × Value)} {ops : Array Oper} {rest : List Oper} {o : Oper} {a : Act} {Q : Exit → Act → World → Prop}
theorem wpListIn_rangeE (hg : o.guard = none) (m : Operand) (t e : TypeId) (hop : o.op = Op.range t m) (ht : P.underlying t = some (.map k e)) (hm : a.eval m = .map (some b)) (hown : MapE P k w b E)
    (hK : ∀ w', RangeE P k w' b w.heap.size E E → Below w.heap.size w w' → w'.heap.size = w.heap.size + 1 → wpListIn F n P ops Q rest (a.put o.dst (.pointer (some ⟨w.heap.size, 0, none⟩))) w') :
    wpListIn F n P ops Q (o :: rest) a w := by
  refine wpListIn_plain hg fun K' hK' => ?_
  obtain ⟨w', hrun, r1, r2, r3⟩ := hown.range ht
  unfold Oper.wpIn
  refine ⟨?_, ?_⟩
  · simp [Oper.about, hop]
  · rw [Oper.semAt_plain F _ _ (by rw [hop]; intro c hc'; cases hc')]
    simp [execOp, hop, hm, hrun, Result.andThen]
    exact hK' _ _ (hK w' r1 r2 r3)
theorem wpListIn_nextE (hg : o.guard = none) (it : Operand) (hop : o.op = Op.next it false) (hit : a.eval it = .pointer (some ⟨r, 0, none⟩)) (h : RangeE P k w b r E Lf)
    (hDone : Lf = [] → wpListIn F n P ops Q rest (a.put o.dst (.tuple #[.bool false])) w)
    (hMore : ∀ (key v : Value) (Lf' : List (Value × Value)) (w' : World), Lf.Perm ((key, v) :: Lf') → (key, v) ∈ E → RangeE P k w' b r E Lf' → w.grownBy w' (some r) → w'.heap.size = w.heap.size → (Instr.entry (.pointer (some ⟨r, 0, none⟩))).run P w' = .ok (.tuple #[key, v]) w' → wpListIn F n P ops Q rest (a.put o.dst (.tuple #[.bool true, key, v])) w') :
    wpListIn F n P ops Q (o :: rest) a w := by
  refine wpListIn_plain hg fun K' hK' => ?_
  unfold Oper.wpIn
  refine ⟨by simp [Oper.about, hop], ?_⟩
  rw [Oper.semAt_plain F _ _ (by rw [hop]; intro c hc'; cases hc')]
  rcases h.next o.type with ⟨h0, hrun⟩ | ⟨key, v, Lf', w', hp, hk, hm, hrun, hrg, hgr, hsz, hen⟩
  · simp [execOp, hop, hit, hrun, Result.andThen]
    exact hK' _ _ (hDone h0)
  · simp [execOp, hop, hit, hrun, Result.andThen]
    exact hK' _ _ (hMore key v Lf' w' hp hm hrg hgr hsz hen)
end
theorem RangeE.iter {P : Program} {k : TypeId} {w : World} {b r : Nat} {E Lf : List (Value × Value)} (h : RangeE P k w b r E Lf) : ∃ o : Obj, w.heap[r]? = some o ∧ o.isCells = false := by
  obtain ⟨es, clock, since, seen, c0, h1, h2, h3, _⟩ := h
  exact ⟨_, h3, rfl⟩
/-- Who has been met, who is still to come. -/
def ValRel (H : List Hd) (b r : Nat) (J : List Hd → (Nat → Prop) → World → Prop) (wr : World) : Prop :=
  ∃ (pre Rs : List Hd) (Tk : Nat → Prop), (pre ++ Rs).Perm H ∧ RangeE Tryd.prog 29 wr b r (entH H) (entH Rs) ∧ J pre Tk wr ∧ ¬ Tk b ∧ ¬ Tk r
set_option maxRecDepth 100000 in
set_option maxHeartbeats 4000000 in
theorem values_seq (m : Nat) (hm : 1 ≤ m) (bx b : Nat) (H : List Hd) (w : World) (hbx : w.cell? ⟨bx, 0, none⟩ = some (.map (some b))) (hb : MapE Tryd.prog 29 w b (entH H)) :
    SeqO Fence.wide m Tryd.prog 54 #[] #[.pointer (some ⟨bx, 0, none⟩)] (fun x : Hd => #[hdv x]) (fun xs => xs.Perm H) (fun _ => True) (fun pre x => ∃ Rs, (pre ++ x :: Rs).Perm H) (fun c => c = b) none w := by
  intro l J Jx T W hW hJ hJx hT hC _ hY h0
  have HY := Lib.hid hY
  have HJ := Lib.hid hJ
  have HT := Lib.hid hT
  have hTb : ¬ T b := hC b rfl
  have hbW := Lib.hid (hb.next hW)
  have hc : W.cell? ⟨bx, 0, none⟩ = some (.map (some b)) := (hW.cell (p := ⟨bx, 0, none⟩) (World.block_lt_of_cell? w _ hbx)).trans hbx
  have hz := HT.out [] T W h0 W.heap.size (Nat.le_refl _)
  have hJ0 := Lib.hid h0
  clear hY hJ hJx hT hC hbx hb h0
  refine callsIn_of_wp Tryd.func54 rfl trivial ?_ rfl
  simp only [Tryd.ntmps54, List.size_toArray, List.length_cons, List.length_nil, Nat.reduceAdd, Nat.reduceSub, Array.replicate_succ, Array.replicate_zero, List.push_toArray, List.append_toArray, List.nil_append, List.cons_append]
  gi_wp2_with (gi_at_range; refine wpListIn_rangeE rfl _ _ 61 rfl Tryd.underlying71 rfl hbW.out ?_; intro w1 hr1 hb1 hs1; have HR0 : Hid (ValRel H b W.heap.size J w1) := Lib.hid ⟨[], H, T, List.Perm.refl _, hr1, (HJ.out T) [] _ _ none hJ0.out (below_to_grown hb1) (fun r e => by cases e), hTb, hz⟩; clear hr1 hb1 hs1)
  gi_loopw [14] (fun _ wr => ValRel H b W.heap.size J wr) (fun _ wr => wr.rangeLeft b W.heap.size)
  case atStart => exact HR0.out
  case round =>
    clear HR0 hJ0 hc hz hTb
    obtain ⟨pre, Rs, Tk, hpm, hr, hj, hTb, hTr⟩ := hrel
    have HRr := Lib.hid hr
    have HPm := Lib.hid hpm
    have HJj := Lib.hid hj
    have HTt := Lib.hid (And.intro hTb hTr)
    clear hpm hr hj hTb hTr
    gi_wp2_with (gi_at_next; refine wpListIn_nextE rfl _ rfl rfl HRr.out ?_ ?_)
    · intro hE
      have hRs : Rs = [] := by unfold entH at hE; simpa using hE
      have hfin : Hid (pre.Perm H) := Lib.hid (by have := HPm.out; rw [hRs, List.append_nil] at this; exact this)
      clear hE hRs
      gi_wp2
      go_end0
      exact ⟨⟨_, rfl⟩, .inl ⟨pre, Tk, hfin.out, HJj.out⟩⟩
    · intro key v Lf' w' hp hm' hr' hg hsz hen
      obtain ⟨x, hx, hkv⟩ : ∃ x ∈ Rs, (av x.2, hdv x) = (key, v) := by
        have := hp.mem_iff.2 (List.mem_cons_self ..)
        obtain ⟨x, hx, e⟩ := List.mem_map.1 this
        exact ⟨x, hx, e⟩
      obtain ⟨s, t, rfl⟩ := List.append_of_mem hx
      have hperm : (entH (s ++ x :: t)).Perm ((key, v) :: entH (s ++ t)) := by
        rw [← hkv]
        unfold entH
        rw [List.map_append, List.map_cons, List.map_append]
        exact List.perm_middle
      have hLf : Lf'.Perm (entH (s ++ t)) := (hp.symm.trans hperm).cons_inv
      have hr2 := hr'.permL hLf
      have hmid : (pre ++ x :: (s ++ t)).Perm H := ((List.Perm.append_left pre (List.perm_middle (l₁ := s) (l₂ := t) (a := x))).symm).trans HPm.out
      have hmid2 : ((pre ++ [x]) ++ (s ++ t)).Perm H := by rw [List.append_assoc]; exact hmid
      simp only [Prod.mk.injEq] at hkv
      obtain ⟨rfl, rfl⟩ := hkv
      obtain ⟨o, ho1, ho2⟩ := HRr.out.iter
      have hj2 := (HJ.out Tk) pre wr w' (some W.heap.size) HJj.out hg (fun r' e => by cases e; exact ⟨Nat.le_refl _, o, ho1, ho2⟩)
      have hml : Hid (w'.rangeLeft b W.heap.size < wr.rangeLeft b W.heap.size) := Lib.hid (by
        rw [hr2.left_eq, HRr.out.left_eq]
        simp [entH])
      obtain ⟨x1, ⟨sx, ah, al⟩⟩ := x
      have hj3 := (HJ.out Tk).alloc (.cells #[.string x1, .bool sx, .int .u64 (ah : Int), .int .u64 (al : Int)] 61) hj2
      have hr3 := hr2.same (w' := w'.alloc (.cells #[.string x1, .bool sx, .int .u64 (ah : Int), .int .u64 (al : Int)] 61)) (heap_alloc_old _ _ hr2.owns.lt) (heap_alloc_old _ _ hr2.lt)
      obtain ⟨fn, tmps, assign, body, hy, hRd⟩ := HY.out pre (x1, (sx, ah, al)) Tk _ hj3 ⟨s ++ t, hmid⟩
      have HR3 := Lib.hid hr3
      have HM2 := Lib.hid hmid2
      have HR3m : Hid (w'.rangeLeft b W.heap.size = (entH (s ++ t)).length) := Lib.hid hr2.left_eq
      have hdx : hdv (x1, (sx, ah, al)) = .agg #[.string x1, .bool sx, .int .u64 (ah : Int), .int .u64 (al : Int)] := rfl
      have hax : av (sx, ah, al) = .agg #[.bool sx, .int .u64 (ah : Int), .int .u64 (al : Int)] := rfl
      simp only [hdx, hax] at hen hy hRd ⊢
      clear hp hm' hr' hg hsz hx hperm hLf hr2 hmid hmid2 ho1 ho2 hj2 hj3 hr3 hdx hax
      gi_wp2
      refine hRd.mono ?_
      rintro e W3 (⟨rfl, T3, hJ3, hk3⟩ | ⟨rfl, hJx3, T3, hk3⟩)
      · have hr4 : RangeE Tryd.prog 29 W3 b W.heap.size (entH H) (entH (s ++ t)) := HR3.out.same (hk3 b HR3.out.owns.lt HTt.out.1).1 (hk3 _ HR3.out.lt HTt.out.2).1
        have n1 := (hk3 b HR3.out.owns.lt HTt.out.1).2
        have n2 := (hk3 _ HR3.out.lt HTt.out.2).2
        have HR4 := Lib.hid hr4
        clear hr4
        gi_wp2
        go_roundw
        case rel => exact ⟨_, s ++ t, T3, HM2.out, HR4.out, hJ3, n1, n2⟩
        case measure =>
          rw [HR4.out.left_eq]
          have := hml.out
          rw [HR3m.out] at this
          exact this
      · gi_wp2
        exact bodyPost_ret (results_none (fn := Tryd.f54) rfl _ _ _) rfl ⟨⟨_, rfl⟩, .inr ⟨_, trivial, hJx3⟩⟩
end Go.Proofs.YthlabpbplikjbaaDoor
