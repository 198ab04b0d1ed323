/-
  All but some hosts are dropped: the walk of dropOthers, a range over the map from which they go. Conditions: as each theorem names them.
-/
import Derived.Test.YthlabpbplikjbaaDoorZk34
import Derived.Maps.RangeWalk
namespace Go.Proofs.YthlabpbplikjbaaDoor
open Go.RowKit Go.Maps Go.Shelf Go.ChangeMaps Go.MapKept
set_option linter.unusedVariables false

section
variable {P : Program} {k : TypeId} {w : World} {b r : Nat} {E Lf Lf' : List (Value × Value)} {ops : Array Oper} {rest : List Oper} {o : Oper} {a : Act} {Q : Exit → Act → World → Prop}
theorem RangeE.permL (h : RangeE P k w b r E Lf) (hp : Lf.Perm Lf') : RangeE P k w b r E Lf' := by
  obtain ⟨es, clock, since, seen, c0, h1, h2, h3, h4, h5, h6⟩ := h
  exact ⟨es, clock, since, seen, c0, h1, h2, h3, h4, h5.trans hp, h6⟩
theorem RangeE.apartL (h : RangeE P k w b r E Lf) : Lf.Pairwise fun p q => p.1 ≠ q.1 := by
  obtain ⟨es, clock, since, seen, c0, h1, h2, h3, h4, h5, h6⟩ := h
  refine (h5.pairwise_iff (fun {_ _} hne => Ne.symm hne)).1 ?_
  rw [List.pairwise_map]
  unfold leftOf
  rw [Array.toList_filter]
  exact ((stamped_iff es clock).1 h2.st).2.2.filter _
theorem RangeE.left_eq (h : RangeE P k w b r E Lf) : w.rangeLeft b r = Lf.length := by
  obtain ⟨es, clock, since, seen, c0, h1, h2, h3, h4, h5, h6⟩ := h
  simp only [World.rangeLeft, h1, h3]
  rw [← h5.length_eq, List.length_map, Array.length_toList]
theorem wpList_rangeE (hg : o.guard = none) (m : Operand) (t e : TypeId) (hop : o.op = Op.range t m) (ht : P.underlying t = some (.map k e)) (hm : a.eval m = .map (some b)) (hown : MapE P k w b E)
    (hK : ∀ w', RangeE P k w' b w.heap.size E E → Below w.heap.size w w' → w'.heap.size = w.heap.size + 1 → wpList P ops Q rest (a.put o.dst (.pointer (some ⟨w.heap.size, 0, none⟩))) w') :
    wpList P ops Q (o :: rest) a w := by
  refine wpList_plain hg fun K' hK' => ?_
  obtain ⟨w', hrun, r1, r2, r3⟩ := hown.range ht
  unfold Oper.wp
  simp [execOp, hop, hm, hrun, Result.andThen]
  exact hK' _ _ (hK w' r1 r2 r3)
theorem wpList_nextE (hg : o.guard = none) (it : Operand) (hop : o.op = Op.next it false) (hit : a.eval it = .pointer (some ⟨r, 0, none⟩)) (h : RangeE P k w b r E Lf)
    (hDone : Lf = [] → wpList P ops Q rest (a.put o.dst (.tuple #[.bool false])) w)
    (hMore : ∀ (key v : Value) (Lf' : List (Value × Value)) (w' : World), Lf.Perm ((key, v) :: Lf') → (key, v) ∈ E → RangeE P k w' b r E Lf' → w.grownBy w' (some r) → w'.heap.size = w.heap.size → (Instr.entry (.pointer (some ⟨r, 0, none⟩))).run P w' = .ok (.tuple #[key, v]) w' → wpList P ops Q rest (a.put o.dst (.tuple #[.bool true, key, v])) w') :
    wpList P ops Q (o :: rest) a w := by
  refine wpList_plain hg fun K' hK' => ?_
  unfold Oper.wp
  rcases h.next o.type with ⟨h0, hrun⟩ | ⟨key, v, Lf', w', hp, hk, hm, hrun, hrg, hgr, hsz, hen⟩
  · simp [execOp, hop, hit, hrun, Result.andThen]
    exact hK' _ _ (hDone h0)
  · simp [execOp, hop, hit, hrun, Result.andThen]
    exact hK' _ _ (hMore key v Lf' w' hp hm hrg hgr hsz hen)
end
theorem Kq.growNew {B : PB} {w w' w'' : World} {r : Nat} (h : Kq B w w') (hg : w'.grownBy w'' (some r)) (hr : w.heap.size ≤ r) : Kq B w w'' :=
  ⟨hg.os.trans h.os, hg.tape.trans h.tape, hg.output.trans h.output, Nat.le_trans h.size hg.size, fun k hk h1 h2 => (hg.block k (Nat.lt_of_lt_of_le hk h.size) (fun e => by injection e with e; omega)).trans (h.block k hk h1 h2)⟩
def keepH (H : List Hd) (K : List (List UInt8)) : List Hd := H.filter fun x => decide (keyH x.1 ∈ K)
/-- drop, while the map is gone through. -/
def DropOutR (B : PB) (p : PoolD) (w : World) (r : Nat) (H' : List Hd) (Lf : List (Value × Value)) (e : Ending) (w' : World) : Prop := e = .returned (.tuple #[]) ∧ PoolAt w' B p H' ∧ Kq B w w' ∧ RangeE Tryd.prog 39 w' B.a r (entA H') Lf
set_option maxRecDepth 100000 in
set_option maxHeartbeats 4000000 in
theorem pdrop_rng {w : World} {B : PB} {p : PoolD} {H : List Hd} (h : PoolAt w B p H) {k : List UInt8} {x : Hd} (hf : findH H k = some x) {r : Nat} {Lf : List (Value × Value)} (hR : RangeE Tryd.prog 39 w B.a r (entA H) Lf) (hl : (stv k, av x.2) ∉ Lf) :
    Calls Tryd.prog 34 #[.pointer (some ⟨B.g, 0, none⟩), stv k] w (DropOutR B p w r (dropH H k) Lf) := by
  obtain ⟨hx, hk⟩ := findH_some hf
  have hkm : k.length ≤ maxLen := by rw [← hk]; exact key_max x.1
  have hah : B.a ≠ B.h := h.ah (fun e => by rw [e] at hx; cases hx)
  have hpm := drop_perm h.wf hf
  have hfa := h.wf.fitx h.ok hx
  obtain ⟨F, hF⟩ : ∃ F : ByteArray, stv k = .string F := ⟨_, rfl⟩
  obtain ⟨x1, ⟨s, ah, al⟩⟩ := x
  have c6 : w.cell? ⟨B.g, 6, none⟩ = some (.map (some B.a)) := h.obj.cell 6
  have c7 : w.cell? ⟨B.g, 7, none⟩ = some (.map (some B.h)) := h.obj.cell 7
  have hlk := h.drew.name_yes false hf
  have hP1 : (entH H).Perm ((av (s, ah, al), hdv (x1, (s, ah, al))) :: entH (dropH H k)) := hpm.map _
  have hP2 : (entA H).Perm ((stv k, av (s, ah, al)) :: entA (dropH H k)) := by
    have := hpm.map (fun y : Hd => (stv (keyH y.1), av y.2))
    rw [List.map_cons, hk] at this
    exact this
  obtain ⟨w1, hr1, hM1, hg1, hs1⟩ := h.drew.hld.drop akey Tryd.underlying71 (ty := 0) (keyAv hfa) hP1
  have hrh : r ≠ B.h := fun e => by
    obtain ⟨es, clock, since, seen, c0, q1, q2, q3, _⟩ := hR
    obtain ⟨es', c', q4, _⟩ := h.hld
    rw [e] at q3
    rw [q3] at q4
    cases q4
  have hR1 : RangeE Tryd.prog 39 w1 B.a r (entA H) Lf := hR.same (hg1.block B.a h.adr.lt (fun e => hah (by injection e))) (hg1.block r hR.lt (fun e => hrh (by injection e)))
  obtain ⟨w2, hr2, hM2, hg2, hs2⟩ := hR1.drop skey Tryd.underlying70 (ty := 0) (keyS hkm) hP2 hl
  have ho1 : Lies w1 B.g 73 (poolC p B) := h.obj.drew.grown hg1 (fun e => h.gh (by injection e))
  have d6 : w1.cell? ⟨B.g, 6, none⟩ = some (.map (some B.a)) := ho1.cell 6
  have hq : Kq B w w2 := (Kq.of_h (w := w.drew) hg1 |>.from_drew).trans (Kq.of_a hg2)
  have HX := Lib.hid (And.intro (h.less hM2.owns (hM1.grown hg2 (fun e => hah (by injection e with e; exact e.symm))) hq) (And.intro hq hM2))
  rw [hF] at hlk hr2 ⊢
  have hav : av (s, ah, al) = .agg #[.bool s, .int .u64 (ah : Int), .int .u64 (al : Int)] := rfl
  simp only [hav, Bool.false_eq_true, if_false] at hlk hr1
  clear h hx hk hkm hah hpm hfa hP1 hP2 hM1 hR1 hR hM2 hg1 hg2 hs1 hs2 ho1 hq hav hf hF hl hrh
  go_enter Tryd.func34, Tryd.ntmps34
  go_wp2
  go_region
  all_goals
    go_wp2
    go_end0
    exact ⟨rfl, HX.out.1, HX.out.2.1, HX.out.2.2⟩

def barr (k : List UInt8) : ByteArray := ⟨k.toArray⟩
theorem barr_inj {k l : List UInt8} (h : barr k = barr l) : k = l := by
  have := congrArg (fun s : ByteArray => s.data.toList) h
  simpa [barr] using this
/-- The loop's relation: who is held, who is still to come. -/
def DoRel (B : PB) (p : PoolD) (H : List Hd) (K : List (List UInt8)) (w : World) (r : Nat) (wr : World) : Prop :=
  ∃ Hc Rs : List Hd, PoolAt wr B p Hc ∧ RangeE Tryd.prog 39 wr B.a r (entA Hc) (entA Rs) ∧ (∀ x ∈ Rs, x ∈ Hc) ∧ keepH Hc K = keepH H K ∧ (∀ x ∈ Hc, x ∉ Rs → keyH x.1 ∈ K) ∧ Kq B w wr
theorem keep_drop {H : List Hd} {K : List (List UInt8)} {k : List UInt8} (hk : k ∉ K) : keepH (dropH H k) K = keepH H K := by
  unfold keepH dropH
  rw [List.filter_filter]
  apply List.filter_congr
  intro x hx
  by_cases h : keyH x.1 ∈ K
  · have : keyH x.1 ≠ k := fun e => hk (e ▸ h)
    simp [h, this]
  · simp [h]
def DoOut (B : PB) (p : PoolD) (H : List Hd) (K : List (List UInt8)) (w : World) (e : Ending) (w' : World) : Prop := e = .returned (.tuple #[]) ∧ PoolAt w' B p (keepH H K) ∧ Kq B w w'
set_option maxRecDepth 100000 in
set_option maxHeartbeats 4000000 in
theorem dropOthers_any {w : World} {B : PB} {p : PoolD} {H : List Hd} (h : PoolAt w B p H) {K : List (List UInt8)} {fb : Nat} (hf : FirM w fb K.length (K.map barr)) (hfb : fb ≠ B.a ∧ fb ≠ B.h) (hkm : ∀ k ∈ K, k.length ≤ maxLen) :
    Calls Tryd.prog 28 #[.pointer (some ⟨B.g, 0, none⟩), .map (some fb)] w (DoOut B p H K w) := by
  have c6 : w.cell? ⟨B.g, 6, none⟩ = some (.map (some B.a)) := h.obj.cell 6
  have HP := Lib.hid h
  have HF := Lib.hid hf
  have HN := Lib.hid hfb
  clear h hf hfb hkm
  go_enter Tryd.func28, Tryd.ntmps28
  go_wp2_with (at_range; refine wpList_rangeE rfl _ _ 29 rfl Tryd.underlying70 rfl HP.out.adr ?_; intro w1 hr1 hb1 hs1; have HR0 : Hid (DoRel B p H K w w.heap.size w1) := Lib.hid ⟨H, H, HP.out.next hb1, hr1, fun _ h => h, rfl, fun x h1 h2 => absurd h1 h2, Kq.of_below hb1⟩; clear hr1 hb1 hs1)
  go_frame
  go_loopw [12] (fun _ wr => DoRel B p H K w w.heap.size wr) (fun _ wr => wr.rangeLeft B.a w.heap.size)
  case atStart => exact HR0.out
  case round =>
    clear HR0
    obtain ⟨Hc, Rs, hp, hr, hsub, hkeep, hout, hq⟩ := hrel
    have HPc := Lib.hid hp
    have HRr := Lib.hid hr
    have HSub := Lib.hid hsub
    have HKp := Lib.hid hkeep
    have HOut := Lib.hid hout
    have HQ := Lib.hid hq
    clear hp hr hsub hkeep hout hq
    go_wp2_with (at_next; refine wpList_nextE rfl _ rfl rfl HRr.out ?_ ?_)
    · intro hE
      have hRs : Rs = [] := by unfold entA at hE; simpa using hE
      have hfin : Hid (keepH H K = Hc) := Lib.hid (by
        rw [← HKp.out]
        unfold keepH
        rw [List.filter_eq_self]
        intro x hx
        simpa using HOut.out x hx (by rw [hRs]; intro h; cases h))
      clear hE hRs
      go_wp2
      go_end0
      exact ⟨rfl, by rw [hfin.out]; exact HPc.out, HQ.out⟩
    · intro key v Lf' w' hp hm hr' hg hsz hen
      obtain ⟨x, hx, hkv⟩ : ∃ x ∈ Rs, (stv (keyH x.1), av x.2) = (key, v) := by
        have := hp.mem_iff.2 (List.mem_cons_self ..)
        obtain ⟨x, hx, e⟩ := List.mem_map.1 this
        exact ⟨x, hx, e⟩
      obtain ⟨s, t, rfl⟩ := List.append_of_mem hx
      have hperm : (entA (s ++ x :: t)).Perm ((key, v) :: entA (s ++ t)) := by
        rw [← hkv]
        unfold entA
        rw [List.map_append, List.map_cons, List.map_append]
        exact List.perm_middle
      have hLf : Lf'.Perm (entA (s ++ t)) := (hp.symm.trans hperm).cons_inv
      have hr2 := hr'.permL hLf
      have hapt := HRr.out.apartL
      have hne : ∀ y ∈ s ++ t, keyH y.1 ≠ keyH x.1 := by
        have h2 := (hperm.pairwise_iff (fun {a b} (h : a.1 ≠ b.1) => Ne.symm h)).1 hapt
        rw [← hkv] at h2
        have h3 := (List.pairwise_cons.1 h2).1
        intro y hy e
        exact h3 (stv (keyH y.1), av y.2) (List.mem_map.2 ⟨y, hy, rfl⟩) (by simp only; rw [e])
      simp only [Prod.mk.injEq] at hkv
      obtain ⟨rfl, rfl⟩ := hkv
      have hlt := HP.out.lt
      have hpw : PoolAt w' B p Hc := by
        have q := HPc.out
        exact ⟨q.obj.grown hg (fun e => by injection e with e; omega), q.row.grown hg (fun e => by injection e with e; omega), q.adr.grown hg (fun e => by injection e with e; omega), q.hld.grown hg (fun e => by injection e with e; omega), q.ok, q.wf⟩
      have hqw : Kq B w w' := HQ.out.growNew hg (Nat.le_refl _)
      have hfw : FirM w' fb K.length (K.map barr) := HF.out.same (hqw.block fb HF.out.lt HN.out.1 HN.out.2)
      have hks : (barr (keyH x.1)).size ≤ maxLen := show (keyH x.1).toArray.size ≤ maxLen by simpa using key_max x.1
      have hmk : barr (keyH x.1) ∈ (K.map barr).take K.length ↔ keyH x.1 ∈ K := by
        rw [List.take_of_length_le (by simp)]
        constructor
        · intro h
          obtain ⟨k, hk, e⟩ := List.mem_map.1 h
          rw [← barr_inj e]
          exact hk
        · exact fun h => List.mem_map.2 ⟨_, h, rfl⟩
      have hml : Hid (w'.rangeLeft B.a w.heap.size < wr.rangeLeft B.a w.heap.size) := Lib.hid (by
        rw [hr2.left_eq, HRr.out.left_eq]
        simp [entA])
      have HR2 := Lib.hid hr2
      have HPw := Lib.hid hpw
      have HQw := Lib.hid hqw
      have HNe := Lib.hid hne
      by_cases hin : keyH x.1 ∈ K
      · obtain ⟨i, _, _, _, _, hlk⟩ := hfw.yes true hks (hmk.2 hin)
        have HIn := Lib.hid hin
        obtain ⟨F, hF⟩ : ∃ F, barr (keyH x.1) = F := ⟨_, rfl⟩
        have e1 : stv (keyH x.1) = .string F := by rw [← hF]; rfl
        rw [hF] at hlk
        simp only [if_true] at hlk
        rw [e1] at hen ⊢
        clear hp hm hr' hg hsz hx hperm hLf hr2 hapt hne hlt hpw hqw hfw hks hmk hin hF e1 c6
        go_wp2
        go_roundw
        case rel =>
          refine ⟨Hc, s ++ t, HPw.out, HR2.out, fun y hy => HSub.out y (by rcases List.mem_append.1 hy with h | h <;> simp [h]), HKp.out, fun y hy hn => ?_, HQw.out⟩
          by_cases hyx : y = x
          · rw [hyx]; exact HIn.out
          · refine HOut.out y hy fun h => hn ?_
            rcases List.mem_append.1 h with h | h
            · simp [h]
            · rcases List.mem_cons.1 h with h | h
              · exact absurd h hyx
              · simp [h]
        case measure => exact hml.out
      · have hlk := hfw.no true hks (fun h => hin (hmk.1 h))
        have hxm : x ∈ Hc := HSub.out x (by simp)
        have hfd : findH Hc (keyH x.1) = some x := by
          cases hf : findH Hc (keyH x.1) with
          | none => exact absurd rfl (findH_none.1 hf x hxm)
          | some y => rw [hpw.wf.key_inj (findH_some hf).1 hxm (findH_some hf).2]
        have hD := Lib.hid (pdrop_rng hpw hfd hr2 (fun h => by
          obtain ⟨y, hy, e⟩ := List.mem_map.1 h
          exact hne y hy (stv_inj (congrArg Prod.fst e))))
        have HIn := Lib.hid hin
        obtain ⟨F, hF⟩ : ∃ F, barr (keyH x.1) = F := ⟨_, rfl⟩
        have e1 : stv (keyH x.1) = .string F := by rw [← hF]; rfl
        rw [hF] at hlk
        simp only [if_true] at hlk
        rw [e1] at hen hD ⊢
        clear hp hm hr' hg hsz hx hperm hLf hr2 hapt hne hlt hpw hqw hfw hks hmk hin hF e1 hxm hfd c6
        go_wp2_with (go_at_call 34; refine hD.out.mono ?_; rintro e w3 ⟨rfl, hp3, hk3, hr3⟩; have HP3 := Lib.hid hp3; have HK3 := Lib.hid hk3; have HR3 := Lib.hid hr3; clear hp3 hk3 hr3)
        go_roundw
        case rel =>
          refine ⟨dropH Hc (keyH x.1), s ++ t, HP3.out, HR3.out, fun y hy => ?_, (keep_drop HIn.out).trans HKp.out, fun y hy hn => ?_, HQw.out.trans HK3.out⟩
          · unfold dropH
            rw [List.mem_filter]
            exact ⟨HSub.out y (by rcases List.mem_append.1 hy with h | h <;> simp [h]), by simpa using HNe.out y hy⟩
          · unfold dropH at hy
            rw [List.mem_filter] at hy
            refine HOut.out y hy.1 fun h => hn ?_
            rcases List.mem_append.1 h with h | h
            · simp [h]
            · rcases List.mem_cons.1 h with h | h
              · subst h; simp at hy
              · simp [h]
        case measure =>
          rw [HR3.out.left_eq, ← HR2.out.left_eq]
          exact hml.out
end Go.Proofs.YthlabpbplikjbaaDoor
