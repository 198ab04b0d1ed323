/-
  The kind of a type: isType, kindOf, Known. No condition. Rows of strings are compared, and data: slices.Equal, rdata.Same. Condition: Go can have them. Data are looked at by their kind: checkParts, checkAll, Check, Size. Condition: Go can have them. Data are looked at, counted, put: checkAll, Check, Size, Put. Condition: Go can have them. Data are counted, put: Size, Put. Condition: Go can have them; the packer is one. Data that were read are such as Go can have: mathematics. Condition: the octets are no longer than 2^40. Data are read: begin, readAll, Read. Condition: the octets are no longer than 2^40. Data are read: readAll, Read. Condition: the octets are no longer than 2^40. Data are read: Read. Condition: the octets are no longer than 2^40.
-/
import Derived.Test.YtodedbokeodmkaaGreatZk40
import Derived.Laws.StructEq
import Derived.ChangeKeysEq
import Derived.Test.YtodedbokeodmkaaGreatZk34
import Derived.Test.YtodedbokeodmkaaGreatZk35
import Derived.Test.YtodedbokeodmkaaGreatZk32
namespace Go.Proofs.YtodedbokeodmkaaGreat
open Go.RowKit Go.Maps
set_option linter.unusedVariables false
set_option maxRecDepth 100000

theorem IK.above {lo : Nat} {w w' : World} {v : Value} {K : List Pt} (h : IK lo w v K) (hz : w.heap.size ≤ w'.heap.size) (hs : ∀ j, lo ≤ j → j < w.heap.size → w'.heap[j]? = w.heap[j]?) : IK lo w' v K := by
  obtain ⟨Bs, h1, f0, f1, f2, f3, f4, rfl, h3, h2⟩ := h
  have hb : ∀ j, Bs j → w'.heap[j]? = w.heap[j]? := fun j hj => let ⟨a, cs, t, hc⟩ := h1 j hj; hs j a (Array.getElem?_eq_some_iff.1 hc).1
  exact ⟨Bs, fun j hj => let ⟨a, cs, t, hc⟩ := h1 j hj; ⟨a, cs, t, (hb j hj).trans hc⟩, f0, f1, f2, f3, f4, rfl, h3, fun w1 hz1 hb1 => h2 w1 (Nat.le_trans hz hz1) fun j hj => (hb1 j hj).trans (hb j hj)⟩
theorem isType_any (t : Int) (w : World) : Calls Tryz.prog 110 #[.int .i64 t] w fun e w' => e = .returned (.bool (isT t)) ∧ w = w' := by
  by_cases h0 : 0 ≤ t
  · have d0 : decide (0 ≤ t) = true := decide_eq_true h0
    by_cases h1 : t ≤ 65535
    · have d1 : decide (t ≤ 65535) = true := decide_eq_true h1
      have hv : Hid (isT t = true) := Lib.hid (decide_eq_true ⟨h0, h1⟩)
      go_enter Tryz.func110, Tryz.ntmps110
      go_wp2
      go_ret
      rw [hv.out]
      exact ⟨rfl, rfl⟩
    · have d1 : decide (t ≤ 65535) = false := decide_eq_false h1
      have hv : Hid (isT t = false) := Lib.hid (decide_eq_false fun h => h1 h.2)
      go_enter Tryz.func110, Tryz.ntmps110
      go_wp2
      go_ret
      rw [hv.out]
      exact ⟨rfl, rfl⟩
  · have d0 : decide (0 ≤ t) = false := decide_eq_false h0
    have hv : Hid (isT t = false) := Lib.hid (decide_eq_false fun h => h0 h.1)
    go_enter Tryz.func110, Tryz.ntmps110
    go_wp2
    go_ret
    rw [hv.out]
    exact ⟨rfl, rfl⟩
abbrev nilK : Value := .agg #[.nilFunc, .nilFunc, .nilFunc, .nilFunc, .nilFunc]
/-- A type is asked for. -/
theorem KMap.look {lo : Nat} {w : World} {b : Nat} (h : KMap lo w b) {t : Int} (ht : -9223372036854775808 ≤ t ∧ t ≤ 9223372036854775807) :
    (∃ x K, table t = some K ∧ IK lo w (kv x) K ∧ (Instr.lookup 171 (.map (some b)) (.int .i64 t) true).run Tryz.prog w = .ok (.tuple #[kv x, .bool true]) w) ∨
    (table t = none ∧ (Instr.lookup 171 (.map (some b)) (.int .i64 t) true).run Tryz.prog w = .ok (.tuple #[nilK, .bool false]) w) := by
  obtain ⟨_, n, D, hD, hG, hall⟩ := h
  obtain ⟨v, ps, hrun, hv⟩ := World.ownsMap.look_ok hD ikey Tryz.underlying171 (Tryz.zeroValue139 w) (show RK nilK = some (.held nilK, []) from rfl) (keyI ht)
  have hv : (DataW.held v : DataW Value) = D.atKey (ki t) (.held nilK) := by injection hv with hv; injection hv
  cases hh : Maps.has D (ki t)
  · rw [Maps.atKey_of_not_has hh] at hv
    injection hv with hv
    rw [hv, hh] at hrun
    refine .inr ⟨?_, hrun⟩
    cases htb : table t with
    | none => rfl
    | some K => rw [hall t K htb] at hh; cases hh
  · obtain ⟨v', K, h1, h2, h3⟩ := hG t hh
    rw [h2] at hv
    injection hv with hv
    subst hv
    obtain ⟨x, rfl⟩ := h3.k5
    rw [hh] at hrun
    exact .inl ⟨x, K, h1, h3, hrun⟩
/-- Five cells are written. -/
theorem put5 {w : World} {b : Nat} {t : TypeId} {c0 c1 c2 c3 c4 : Value} (h : Lies w b t #[c0, c1, c2, c3, c4]) (v0 v1 v2 v3 v4 : Value) :
    Lies (((((w.setCell ⟨b, 0, none⟩ v0).setCell ⟨b, 1, none⟩ v1).setCell ⟨b, 2, none⟩ v2).setCell ⟨b, 3, none⟩ v3).setCell ⟨b, 4, none⟩ v4) b t #[v0, v1, v2, v3, v4] ∧
    w.grownBy (((((w.setCell ⟨b, 0, none⟩ v0).setCell ⟨b, 1, none⟩ v1).setCell ⟨b, 2, none⟩ v2).setCell ⟨b, 3, none⟩ v3).setCell ⟨b, 4, none⟩ v4) (some b) :=
  ⟨((((h.set 0 v0).set 1 v1).set 2 v2).set 3 v3).set 4 v4, grown_next (grown_next (grown_next (grown_next (grown_one w b 0 _) (grown_one _ b 1 _)) (grown_one _ b 2 _)) (grown_one _ b 3 _)) (grown_one _ b 4 _)⟩
theorem kindOf_no (t : Int) (w : World) (h : isT t = false) : Calls Tryz.prog 75 #[.int .i64 t] w (Told w (.tuple #[nilK, .bool false])) := by
  have HT : Hid _ := Lib.hid fun wx => isType_any t wx
  rw [h] at HT
  have HL := Lib.hid (Lies.new w 139 #[.nilFunc, .nilFunc, .nilFunc, .nilFunc, .nilFunc])
  have HB : Hid (∀ o, Below w.heap.size w (w.alloc o)) := Lib.hid fun o => (Below.refl _ _).alloc (Nat.le_refl _) o
  clear h
  go_enter Tryz.func75, Tryz.ntmps75
  go_wp2_with (go_at_call 110; (with_reducible refine (HT.out _).mono ?_); rintro e w1 ⟨rfl, rfl⟩)
  refine bodyPost_ret (v := .tuple #[nilK, .bool false]) (by simp [results, Tryz.results75, go_sem]) rfl ?_
  exact ⟨rfl, HB.out _⟩
/-- What kindOf hands back of a type. -/
def KindR (w : World) (t : Int) (e : Ending) (w' : World) : Prop := ∃ x, e = .returned (.tuple #[kv x, .bool true]) ∧ IK w.heap.size w' (kv x) (kindK t) ∧ Below w.heap.size w w'
set_option maxHeartbeats 1000000 in
theorem kindOf_yes (t : Int) (w : World) (h : isT t = true) : Calls Tryz.prog 75 #[.int .i64 t] w (KindR w t) := by
  have ht : 0 ≤ t ∧ t ≤ 65535 := of_decide_eq_true h
  have HT : Hid _ := Lib.hid fun wx => isType_any t wx
  rw [h] at HT
  obtain ⟨W, hW⟩ : ∃ W, W = w.alloc (.cells #[.nilFunc, .nilFunc, .nilFunc, .nilFunc, .nilFunc] 139) := ⟨_, rfl⟩
  have hL : Lies W w.heap.size 139 #[.nilFunc, .nilFunc, .nilFunc, .nilFunc, .nilFunc] := by rw [hW]; exact Lies.new w _ _
  have hb0 : Below w.heap.size w W := by rw [hW]; exact (Below.refl _ _).alloc (Nat.le_refl _) _
  have hWs : W.heap.size = w.heap.size + 1 := by rw [hW]; simp
  have hk := kinds_any W
  have HK : Hid (∀ wx b, KMap W.heap.size wx b → Below W.heap.size W wx → (∃ x K, table t = some K ∧ IK W.heap.size wx (kv x) K ∧ (Instr.lookup 171 (.map (some b)) (.int .i64 t) true).run Tryz.prog wx = .ok (.tuple #[kv x, .bool true]) wx) ∨
    (table t = none ∧ (Instr.lookup 171 (.map (some b)) (.int .i64 t) true).run Tryz.prog wx = .ok (.tuple #[nilK, .bool false]) wx)) := Lib.hid fun wx b hm _ => hm.look ⟨by omega, by omega⟩
  have HKs := Lib.hid hk
  have HL := Lib.hid hL
  have HB0 := Lib.hid hb0
  have HWs := Lib.hid hWs
  clear hk h hL hb0 hWs
  rcases htb : table t with _ | K
  · have HKi : Hid (kindK t = [.raw]) := Lib.hid (by unfold kindK; rw [htb]; rfl)
    have HK2 : Hid (∀ wx b, KMap W.heap.size wx b → Below W.heap.size W wx → (Instr.lookup 171 (.map (some b)) (.int .i64 t) true).run Tryz.prog wx = .ok (.tuple #[nilK, .bool false]) wx) := Lib.hid fun wx b h1 h2 => by
      rcases HK.out wx b h1 h2 with ⟨x, K, h3, _⟩ | ⟨_, h3⟩
      · rw [htb] at h3; cases h3
      · exact h3
    clear HK htb
    go_enter Tryz.func75, Tryz.ntmps75
    go_upto_region 1 with (fail)
    rw [← hW]
    clear hW
    go_wp2_with (first | (go_at_call 110; (with_reducible refine (HT.out _).mono ?_); rintro e w1 ⟨rfl, rfl⟩) | (go_at_call 111; (with_reducible refine HKs.out.mono ?_); rintro e w1 ⟨b, rfl, hm, hb⟩; have hrun := HK2.out _ _ hm hb; have HB1 := Lib.hid hb; clear hm hb) | (go_at_call 112; (with_reducible refine (raw_any _).mono ?_); rintro e w2 ⟨v, rfl, hik, hb⟩; obtain ⟨x, rfl⟩ := hik.k5; have HI2 := Lib.hid hik; have HB2 := Lib.hid hb; have hl2 := Lies.next ((Lies.next HL.out HB1.out).alloc (.cells #[.nilFunc, .nilFunc, .nilFunc, .nilFunc, .nilFunc] 139)) hb; have HL2 := Lib.hid hl2; have z0 := hl2.cell 0; have z1 := hl2.cell 1; have z2 := hl2.cell 2; have z3 := hl2.cell 3; have z4 := hl2.cell 4; have y0 := hl2.free 0; have y1 := hl2.free 1; have y2 := hl2.free 2; have y3 := hl2.free 3; have y4 := hl2.free 4; clear hik hb hl2))
    obtain ⟨p1, p2⟩ := put5 HL2.out (fv x.a0) (fv x.a1) (fv x.a2) (fv x.a3) (fv x.a4)
    have r0 := p1.cell 0
    have r1 := p1.cell 1
    have r2 := p1.cell 2
    have r3 := p1.cell 3
    have r4 := p1.cell 4
    refine bodyPost_ret (v := .tuple #[kv x, .bool true]) (by simp [results, Tryz.results75, go_sem, r0, r1, r2, r3, r4]) rfl ?_
    have hb3 := ((HB0.out.trans (HB1.out.mono HB0.out.size)).alloc (by have := HB0.out.size; have := HB1.out.size; omega) (.cells #[.nilFunc, .nilFunc, .nilFunc, .nilFunc, .nilFunc] 139))
    have hsz : w.heap.size ≤ (w1.alloc (.cells #[.nilFunc, .nilFunc, .nilFunc, .nilFunc, .nilFunc] 139)).heap.size := hb3.size
    have hgt : w.heap.size < (w1.alloc (.cells #[.nilFunc, .nilFunc, .nilFunc, .nilFunc, .nilFunc] 139)).heap.size := by have := HWs.out; have := HB1.out.size; simp; omega
    refine ⟨x, rfl, ?_, (hb3.trans (HB2.out.mono hsz)).grown p2 (Nat.le_trans hsz HB2.out.size) (fun j hj => by injection hj with hj; omega)⟩
    rw [HKi.out]
    exact (HI2.out.above p2.size fun j h1 h2 => p2.block j h2 (fun e => by injection e with e; omega)).lower hsz
  · have HKi : Hid (kindK t = K) := Lib.hid (by unfold kindK; rw [htb]; rfl)
    have HK2 : Hid (∀ wx b, KMap W.heap.size wx b → Below W.heap.size W wx → ∃ x, IK W.heap.size wx (kv x) K ∧ (Instr.lookup 171 (.map (some b)) (.int .i64 t) true).run Tryz.prog wx = .ok (.tuple #[kv x, .bool true]) wx) := Lib.hid fun wx b h1 h2 => by
      rcases HK.out wx b h1 h2 with ⟨x, K', h3, h4⟩ | ⟨h3, _⟩
      · rw [htb] at h3; cases h3; exact ⟨x, h4⟩
      · rw [htb] at h3; cases h3
    clear HK htb
    go_enter Tryz.func75, Tryz.ntmps75
    go_upto_region 1 with (fail)
    rw [← hW]
    clear hW
    go_wp2_with (first | (go_at_call 110; (with_reducible refine (HT.out _).mono ?_); rintro e w1 ⟨rfl, rfl⟩) | (go_at_call 111; (with_reducible refine HKs.out.mono ?_); rintro e w1 ⟨b, rfl, hm, hb⟩; obtain ⟨x, hik, hrun⟩ := HK2.out _ _ hm hb; have HI := Lib.hid hik; have HB1 := Lib.hid hb; have hl2 := (Lies.next HL.out hb).alloc (.cells #[fv x.a0, fv x.a1, fv x.a2, fv x.a3, fv x.a4] 139); have HL2 := Lib.hid hl2; have z0 := hl2.cell 0; have z1 := hl2.cell 1; have z2 := hl2.cell 2; have z3 := hl2.cell 3; have z4 := hl2.cell 4; have y0 := hl2.free 0; have y1 := hl2.free 1; have y2 := hl2.free 2; have y3 := hl2.free 3; have y4 := hl2.free 4; clear hm hb hik hl2))
    obtain ⟨p1, p2⟩ := put5 HL2.out (fv x.a0) (fv x.a1) (fv x.a2) (fv x.a3) (fv x.a4)
    have r0 := p1.cell 0
    have r1 := p1.cell 1
    have r2 := p1.cell 2
    have r3 := p1.cell 3
    have r4 := p1.cell 4
    refine bodyPost_ret (v := .tuple #[kv x, .bool true]) (by simp [results, Tryz.results75, go_sem, r0, r1, r2, r3, r4]) rfl ?_
    have hb3 := ((HB0.out.trans (HB1.out.mono HB0.out.size)).alloc (by have := HB0.out.size; have := HB1.out.size; omega) (.cells #[fv x.a0, fv x.a1, fv x.a2, fv x.a3, fv x.a4] 139))
    refine ⟨x, rfl, ?_, hb3.grown p2 hb3.size (fun j hj => by injection hj with hj; omega)⟩
    rw [HKi.out]
    exact (((HI.out.next (CG.alloc _ _)).above p2.size fun j h1 h2 => p2.block j h2 (fun e => by injection e with e; have := HWs.out; omega))).lower (by have := HWs.out; omega)
end Go.Proofs.YtodedbokeodmkaaGreat
namespace Go.Proofs.YtodedbokeodmkaaGreat
open Go.RowKit Go.Maps
set_option linter.unusedVariables false
set_option maxRecDepth 100000

theorem beq_toList (x y : ByteArray) : (x.toList == y.toList) = decide (bs x = bs y) := by
  rw [bs_toList, bs_toList, Bool.eq_iff_iff, beq_iff_eq, decide_eq_true_iff]
def eqS (L M : List ByteArray) : Bool := decide (L.map bs = M.map bs)
theorem eqS_len {L M : List ByteArray} (h : L.length ≠ M.length) : eqS L M = false := decide_eq_false fun e => h (by have := congrArg List.length e; simpa using this)
theorem eqS_at {L M : List ByteArray} {k : Nat} (h1 : k < L.length) (h2 : k < M.length) (h : bs L[k] ≠ bs M[k]) : eqS L M = false := decide_eq_false fun e => h (by
  have := congrArg (fun l => l[k]?) e
  simp only [List.getElem?_map, List.getElem?_eq_getElem h1, List.getElem?_eq_getElem h2, Option.map_some] at this
  injection this)
theorem eqS_all {L M : List ByteArray} (hl : L.length = M.length) (h : ∀ k (h1 : k < L.length) (h2 : k < M.length), bs L[k] = bs M[k]) : eqS L M = true := decide_eq_true (by
  apply List.ext_getElem (by simpa using hl)
  intro k h1 h2
  simp only [List.getElem_map]
  exact h k (by simpa using h1) (by simpa using h2))
set_option maxHeartbeats 2000000 in
theorem eqS_any (v1 v2 : Value) (L M : List ByteArray) (w : World) (h1 : SRow w v1 L) (h2 : SRow w v2 M) (hm1 : L.length ≤ 17592186044416) (hm2 : M.length ≤ 17592186044416) : Calls Tryz.prog 162 #[v1, v2] w (Told w (.bool (eqS L M))) := by
  obtain ⟨A1, cap1, rfl, hc1, hc1'⟩ := h1.shape
  obtain ⟨A2, cap2, rfl, hc2, hc2'⟩ := h2.shape
  have H1 := Lib.hid h1
  have H2 := Lib.hid h2
  unfold maxLen at hc1' hc2'
  clear h1 h2
  by_cases hl : L.length = M.length
  · have hne : ((L.length : Int) != (M.length : Int)) = false := by rw [hl]; simp
    have HLn := Lib.hid hl
    clear hl
    go_enter Tryz.func162, Tryz.ntmps162
    go_wp2
    go_loopw [13] (fun i wr => ∃ k : Nat, i = .int .i64 k ∧ k ≤ L.length ∧ Below w.heap.size w wr ∧ ∀ j (h1 : j < L.length) (h2 : j < M.length), j < k → bs L[j] = bs M[j]) (fun i _ => L.length - (intOf i).toNat)
    case atStart => exact ⟨0, rfl, Nat.zero_le _, Below.refl _ _, fun j _ _ h => absurd h (Nat.not_lt_zero _)⟩
    case round =>
      obtain ⟨k, rfl, hk, hb, hall⟩ := hrel
      have HAll := Lib.hid hall
      have HB := Lib.hid hb
      by_cases hlt : k < L.length
      · have hlt2 : k < M.length := by rw [← HLn.out]; exact hlt
        rcases H1.out.next hb with ⟨_, e1, e2⟩ | ⟨g1, off1, cp1, e1, _, _, _, e3⟩
        · rw [e2] at hlt
          simp at hlt
        · rcases H2.out.next hb with ⟨_, e1', e2'⟩ | ⟨g2, off2, cp2, e1', _, _, _, e3'⟩
          · rw [e2'] at hlt2
            simp at hlt2
          · injection e1 with e1 _ e1x
            injection e1' with e1' _ e1x'
            subst e1
            subst e1'
            have c1 := e3 k hlt
            have c2 := e3' k hlt2
            clear e3 e3' hb hall e1x e1x'
            have i1 : (0 : Int) ≤ (k : Int) := by omega
            have i2 : (k : Int) < (L.length : Int) := by omega
            have i3 : (k : Int) < (M.length : Int) := by omega
            by_cases he : bs L[k] = bs M[k]
            · have hb1 : (L[k].toList == M[k].toList) = true := by rw [beq_toList]; exact decide_eq_true he
              have HE := Lib.hid he
              clear he
              go_wp2
              go_quiet (fail)
              go_wp2
              go_roundw
              case rel => exact ⟨k + 1, by go_num, by omega, below_draws HB.out _, fun j h1 h2 hj => by
                rcases Nat.lt_or_ge j k with h | h
                · exact HAll.out j h1 h2 h
                · obtain rfl : j = k := by omega
                  exact HE.out⟩
              case measure => simp [intOf]; omega
            · have hb1 : (L[k].toList == M[k].toList) = false := by rw [beq_toList]; exact decide_eq_false he
              have HE : Hid (eqS L M = false) := Lib.hid (eqS_at hlt hlt2 he)
              clear he
              go_wp2
              go_quiet (fail)
              go_wp2
              go_ret
              rw [HE.out]
              exact ⟨rfl, below_draws HB.out _⟩
      · obtain rfl : k = L.length := by omega
        have HE : Hid (eqS L M = true) := Lib.hid (eqS_all HLn.out fun j h1 h2 => hall j h1 h2 h1)
        clear hb hall
        go_wp2
        go_ret
        rw [HE.out]
        exact ⟨rfl, HB.out⟩
  · have hne : ((L.length : Int) != (M.length : Int)) = true := by rw [bne_iff_ne]; omega
    have HE : Hid (eqS L M = false) := Lib.hid (eqS_len hl)
    clear hl
    go_enter Tryz.func162, Tryz.ntmps162
    go_wp2
    go_ret
    rw [HE.out]
    exact ⟨rfl, Below.refl _ _⟩

theorem ad_eql (s : Bool) (hh hl : Nat) (six : Bool) (hi lo : Nat) (w : World) : (Op.equalIn 10000 26 (.agg #[.bool s, .int .u64 (hh : Int), .int .u64 (hl : Int)]) (.agg #[.bool six, .int .u64 (hi : Int), .int .u64 (lo : Int)])).run Tryz.prog w = .ok (decide (s = six ∧ hh = hi ∧ hl = lo)) w := by
  have hS : Tryz.prog.underlying 26 = some (.struct (Tryz.prog.fieldsOf 26)) := by kernel_rfl
  have hp : Tryz.prog.stoodInHeld 26 = false := by kernel_rfl
  rw [show (10000 : Nat) = 9999 + 1 from rfl, run_equalIn_agg w 9999 26 _ _ hS hp]
  simp only [Program.fieldsOf, Tryz.underlying26]
  clear hS hp
  go_simp
  by_cases h0 : s = six
  · by_cases h1 : hh = hi
    · by_cases h2 : hl = lo
      · simp [h0, h1, h2]
      · simp [h0, h1, h2]; omega
    · simp [h0, h1]; omega
  · simp [h0]
set_option maxHeartbeats 1000000 in
theorem ns_eql (a0 a1 a2 a3 a4 b0 b1 b2 b3 b4 : Nat) (w : World) : (Op.equalIn 10000 27 (nsV a0 a1 a2 a3 a4) (nsV b0 b1 b2 b3 b4)).run Tryz.prog w = .ok (decide (a0 = b0 ∧ a1 = b1 ∧ a2 = b2 ∧ a3 = b3 ∧ a4 = b4)) w := by
  obtain ⟨i, hi⟩ := Option.isSome_iff_exists.1 (show (Tryz.prog.info? 23).isSome = true by kernel_rfl)
  have hc : Tryz.prog.cellsOf 23 = 1 := by kernel_rfl
  rw [show (10000 : Nat) = 9998 + 1 + 1 from rfl, run_equalIn_array w (9998 + 1) _ _ Tryz.underlying27 hi, hc]
  simp only [show List.range 5 = [0, 1, 2, 3, 4] from rfl, Op.eqItems]
  go_simp
  by_cases h0 : a0 = b0
  · by_cases h1 : a1 = b1
    · by_cases h2 : a2 = b2
      · by_cases h3 : a3 = b3
        · by_cases h4 : a4 = b4
          · simp [h0, h1, h2, h3, h4]
          · simp [h0, h1, h2, h3, h4]; omega
        · simp [h0, h1, h2, h3]; omega
      · simp [h0, h1, h2]; omega
    · simp [h0, h1]; omega
  · simp [h0]; omega
def eA (a b : MD) : Bool := decide (a.six = b.six ∧ a.hi = b.hi ∧ a.lo = b.lo)
def eN (x y : ByteArray) : Bool := decide (bs x = bs y)
def eV (a b : MD) : Bool := decide (a.v0 = b.v0 ∧ a.v1 = b.v1 ∧ a.v2 = b.v2 ∧ a.v3 = b.v3 ∧ a.v4 = b.v4)
theorem sameD_eq (a b : MD) : sameD a b = (eA a b && eN a.n b.n && eN a.m b.m && eV a b && eqS a.L b.L && eN a.r b.r) := by
  unfold sameD eA eN eV eqS MD.vs
  rw [Bool.eq_iff_iff]
  simp only [decide_eq_true_eq, Bool.and_eq_true, List.cons.injEq, and_true]
  constructor
  · rintro ⟨a1, a2, a3, a4, a5, a6, a7, a8⟩
    exact ⟨⟨⟨⟨⟨⟨a1, a2, a3⟩, a4⟩, a5⟩, a6⟩, a7⟩, a8⟩
  · rintro ⟨⟨⟨⟨⟨⟨a1, a2, a3⟩, a4⟩, a5⟩, a6⟩, a7⟩, a8⟩
    exact ⟨a1, a2, a3, a4, a5, a6, a7, a8⟩
set_option maxHeartbeats 2000000 in
theorem same_0 (a b : MD) (ta tb : Value) (w : World) (ha : Fit w a ta) (hb : Fit w b tb) (z0 : eA a b = false) : Calls Tryz.prog 126 #[dataV a ta, dataV b tb] w (Told w (.bool false)) := by
  have hb1 := boxD w a ta
  have hb2 : Below w.heap.size w ((w.alloc (.cells (cellsD a ta) 30)).alloc (.cells (cellsD b tb) 30)) := hb1.alloc hb1.size _
  have HB := Lib.hid hb2
  have HT := Lib.hid (eqS_any ta tb a.L b.L _ (ha.row.next hb2) (hb.row.next hb2) ha.tl hb.tl)
  have q0 : ∀ wx, (Op.equalIn 10000 26 (.agg #[.bool a.six, .int .u64 (a.hi : Int), .int .u64 (a.lo : Int)]) (.agg #[.bool b.six, .int .u64 (b.hi : Int), .int .u64 (b.lo : Int)])).run Tryz.prog wx = .ok false wx := fun wx => by rw [ad_eql]; exact congrArg (fun x => Result.ok x wx) z0
  clear ha hb hb1 hb2 z0
  unfold dataV cellsD
  go_enter Tryz.func126, Tryz.ntmps126
  go_wp2
  go_ret
  exact ⟨rfl, HB.out⟩
set_option maxHeartbeats 2000000 in
theorem same_1 (a b : MD) (ta tb : Value) (w : World) (ha : Fit w a ta) (hb : Fit w b tb) (z0 : eA a b = true) (z1 : eN a.n b.n = false) : Calls Tryz.prog 126 #[dataV a ta, dataV b tb] w (Told w (.bool false)) := by
  have hb1 := boxD w a ta
  have hb2 : Below w.heap.size w ((w.alloc (.cells (cellsD a ta) 30)).alloc (.cells (cellsD b tb) 30)) := hb1.alloc hb1.size _
  have HB := Lib.hid hb2
  have HT := Lib.hid (eqS_any ta tb a.L b.L _ (ha.row.next hb2) (hb.row.next hb2) ha.tl hb.tl)
  have q0 : ∀ wx, (Op.equalIn 10000 26 (.agg #[.bool a.six, .int .u64 (a.hi : Int), .int .u64 (a.lo : Int)]) (.agg #[.bool b.six, .int .u64 (b.hi : Int), .int .u64 (b.lo : Int)])).run Tryz.prog wx = .ok true wx := fun wx => by rw [ad_eql]; exact congrArg (fun x => Result.ok x wx) z0
  have q1 : (a.n.toList == b.n.toList) = false := by rw [beq_toList]; exact z1
  clear ha hb hb1 hb2 z0 z1
  unfold dataV cellsD
  go_enter Tryz.func126, Tryz.ntmps126
  go_wp2
  go_ret
  exact ⟨rfl, HB.out⟩
set_option maxHeartbeats 2000000 in
theorem same_2 (a b : MD) (ta tb : Value) (w : World) (ha : Fit w a ta) (hb : Fit w b tb) (z0 : eA a b = true) (z1 : eN a.n b.n = true) (z2 : eN a.m b.m = false) : Calls Tryz.prog 126 #[dataV a ta, dataV b tb] w (Told w (.bool false)) := by
  have hb1 := boxD w a ta
  have hb2 : Below w.heap.size w ((w.alloc (.cells (cellsD a ta) 30)).alloc (.cells (cellsD b tb) 30)) := hb1.alloc hb1.size _
  have HB := Lib.hid hb2
  have HT := Lib.hid (eqS_any ta tb a.L b.L _ (ha.row.next hb2) (hb.row.next hb2) ha.tl hb.tl)
  have q0 : ∀ wx, (Op.equalIn 10000 26 (.agg #[.bool a.six, .int .u64 (a.hi : Int), .int .u64 (a.lo : Int)]) (.agg #[.bool b.six, .int .u64 (b.hi : Int), .int .u64 (b.lo : Int)])).run Tryz.prog wx = .ok true wx := fun wx => by rw [ad_eql]; exact congrArg (fun x => Result.ok x wx) z0
  have q1 : (a.n.toList == b.n.toList) = true := by rw [beq_toList]; exact z1
  have q2 : (a.m.toList == b.m.toList) = false := by rw [beq_toList]; exact z2
  clear ha hb hb1 hb2 z0 z1 z2
  unfold dataV cellsD
  go_enter Tryz.func126, Tryz.ntmps126
  go_wp2
  go_ret
  exact ⟨rfl, HB.out⟩
set_option maxHeartbeats 2000000 in
theorem same_3 (a b : MD) (ta tb : Value) (w : World) (ha : Fit w a ta) (hb : Fit w b tb) (z0 : eA a b = true) (z1 : eN a.n b.n = true) (z2 : eN a.m b.m = true) (z3 : eV a b = false) : Calls Tryz.prog 126 #[dataV a ta, dataV b tb] w (Told w (.bool false)) := by
  have hb1 := boxD w a ta
  have hb2 : Below w.heap.size w ((w.alloc (.cells (cellsD a ta) 30)).alloc (.cells (cellsD b tb) 30)) := hb1.alloc hb1.size _
  have HB := Lib.hid hb2
  have HT := Lib.hid (eqS_any ta tb a.L b.L _ (ha.row.next hb2) (hb.row.next hb2) ha.tl hb.tl)
  have q0 : ∀ wx, (Op.equalIn 10000 26 (.agg #[.bool a.six, .int .u64 (a.hi : Int), .int .u64 (a.lo : Int)]) (.agg #[.bool b.six, .int .u64 (b.hi : Int), .int .u64 (b.lo : Int)])).run Tryz.prog wx = .ok true wx := fun wx => by rw [ad_eql]; exact congrArg (fun x => Result.ok x wx) z0
  have q1 : (a.n.toList == b.n.toList) = true := by rw [beq_toList]; exact z1
  have q2 : (a.m.toList == b.m.toList) = true := by rw [beq_toList]; exact z2
  have q3 : ∀ wx, (Op.equalIn 10000 27 (nsV a.v0 a.v1 a.v2 a.v3 a.v4) (nsV b.v0 b.v1 b.v2 b.v3 b.v4)).run Tryz.prog wx = .ok false wx := fun wx => by rw [ns_eql]; exact congrArg (fun x => Result.ok x wx) z3
  clear ha hb hb1 hb2 z0 z1 z2 z3
  unfold dataV cellsD
  go_enter Tryz.func126, Tryz.ntmps126
  go_wp2
  go_ret
  exact ⟨rfl, HB.out⟩
set_option maxHeartbeats 2000000 in
theorem same_4 (a b : MD) (ta tb : Value) (w : World) (ha : Fit w a ta) (hb : Fit w b tb) (z0 : eA a b = true) (z1 : eN a.n b.n = true) (z2 : eN a.m b.m = true) (z3 : eV a b = true) (z4 : eqS a.L b.L = false) : Calls Tryz.prog 126 #[dataV a ta, dataV b tb] w (Told w (.bool false)) := by
  have hb1 := boxD w a ta
  have hb2 : Below w.heap.size w ((w.alloc (.cells (cellsD a ta) 30)).alloc (.cells (cellsD b tb) 30)) := hb1.alloc hb1.size _
  have HB := Lib.hid hb2
  have HT := Lib.hid (eqS_any ta tb a.L b.L _ (ha.row.next hb2) (hb.row.next hb2) ha.tl hb.tl)
  have q0 : ∀ wx, (Op.equalIn 10000 26 (.agg #[.bool a.six, .int .u64 (a.hi : Int), .int .u64 (a.lo : Int)]) (.agg #[.bool b.six, .int .u64 (b.hi : Int), .int .u64 (b.lo : Int)])).run Tryz.prog wx = .ok true wx := fun wx => by rw [ad_eql]; exact congrArg (fun x => Result.ok x wx) z0
  have q1 : (a.n.toList == b.n.toList) = true := by rw [beq_toList]; exact z1
  have q2 : (a.m.toList == b.m.toList) = true := by rw [beq_toList]; exact z2
  have q3 : ∀ wx, (Op.equalIn 10000 27 (nsV a.v0 a.v1 a.v2 a.v3 a.v4) (nsV b.v0 b.v1 b.v2 b.v3 b.v4)).run Tryz.prog wx = .ok true wx := fun wx => by rw [ns_eql]; exact congrArg (fun x => Result.ok x wx) z3
  rw [z4] at HT
  clear ha hb hb1 hb2 z0 z1 z2 z3 z4
  unfold dataV cellsD
  go_enter Tryz.func126, Tryz.ntmps126
  go_wp2_with (go_at_call 162; (with_reducible refine HT.out.mono ?_); rintro e w1 ⟨rfl, hb3⟩; have HB3 := Lib.hid hb3; have hcA := hb3.cell (p := ⟨w.heap.size, 11, none⟩) (by simp; omega); have hcB := hb3.cell (p := ⟨w.heap.size + 1, 11, none⟩) (by simp); clear hb3)
  go_ret
  exact ⟨rfl, HB.out.trans (HB3.out.mono HB.out.size)⟩
set_option maxHeartbeats 2000000 in
theorem same_5 (a b : MD) (ta tb : Value) (w : World) (ha : Fit w a ta) (hb : Fit w b tb) (z0 : eA a b = true) (z1 : eN a.n b.n = true) (z2 : eN a.m b.m = true) (z3 : eV a b = true) (z4 : eqS a.L b.L = true) (z5 : eN a.r b.r = false) : Calls Tryz.prog 126 #[dataV a ta, dataV b tb] w (Told w (.bool false)) := by
  have hb1 := boxD w a ta
  have hb2 : Below w.heap.size w ((w.alloc (.cells (cellsD a ta) 30)).alloc (.cells (cellsD b tb) 30)) := hb1.alloc hb1.size _
  have HB := Lib.hid hb2
  have HT := Lib.hid (eqS_any ta tb a.L b.L _ (ha.row.next hb2) (hb.row.next hb2) ha.tl hb.tl)
  have q0 : ∀ wx, (Op.equalIn 10000 26 (.agg #[.bool a.six, .int .u64 (a.hi : Int), .int .u64 (a.lo : Int)]) (.agg #[.bool b.six, .int .u64 (b.hi : Int), .int .u64 (b.lo : Int)])).run Tryz.prog wx = .ok true wx := fun wx => by rw [ad_eql]; exact congrArg (fun x => Result.ok x wx) z0
  have q1 : (a.n.toList == b.n.toList) = true := by rw [beq_toList]; exact z1
  have q2 : (a.m.toList == b.m.toList) = true := by rw [beq_toList]; exact z2
  have q3 : ∀ wx, (Op.equalIn 10000 27 (nsV a.v0 a.v1 a.v2 a.v3 a.v4) (nsV b.v0 b.v1 b.v2 b.v3 b.v4)).run Tryz.prog wx = .ok true wx := fun wx => by rw [ns_eql]; exact congrArg (fun x => Result.ok x wx) z3
  rw [z4] at HT
  have q5 : (a.r.toList == b.r.toList) = false := by rw [beq_toList]; exact z5
  clear ha hb hb1 hb2 z0 z1 z2 z3 z4 z5
  unfold dataV cellsD
  go_enter Tryz.func126, Tryz.ntmps126
  go_wp2_with (go_at_call 162; (with_reducible refine HT.out.mono ?_); rintro e w1 ⟨rfl, hb3⟩; have HB3 := Lib.hid hb3; have hcA := hb3.cell (p := ⟨w.heap.size, 11, none⟩) (by simp; omega); have hcB := hb3.cell (p := ⟨w.heap.size + 1, 11, none⟩) (by simp); clear hb3)
  go_ret
  exact ⟨rfl, HB.out.trans (HB3.out.mono HB.out.size)⟩
set_option maxHeartbeats 2000000 in
theorem same_6 (a b : MD) (ta tb : Value) (w : World) (ha : Fit w a ta) (hb : Fit w b tb) (z0 : eA a b = true) (z1 : eN a.n b.n = true) (z2 : eN a.m b.m = true) (z3 : eV a b = true) (z4 : eqS a.L b.L = true) (z5 : eN a.r b.r = true) : Calls Tryz.prog 126 #[dataV a ta, dataV b tb] w (Told w (.bool true)) := by
  have hb1 := boxD w a ta
  have hb2 : Below w.heap.size w ((w.alloc (.cells (cellsD a ta) 30)).alloc (.cells (cellsD b tb) 30)) := hb1.alloc hb1.size _
  have HB := Lib.hid hb2
  have HT := Lib.hid (eqS_any ta tb a.L b.L _ (ha.row.next hb2) (hb.row.next hb2) ha.tl hb.tl)
  have q0 : ∀ wx, (Op.equalIn 10000 26 (.agg #[.bool a.six, .int .u64 (a.hi : Int), .int .u64 (a.lo : Int)]) (.agg #[.bool b.six, .int .u64 (b.hi : Int), .int .u64 (b.lo : Int)])).run Tryz.prog wx = .ok true wx := fun wx => by rw [ad_eql]; exact congrArg (fun x => Result.ok x wx) z0
  have q1 : (a.n.toList == b.n.toList) = true := by rw [beq_toList]; exact z1
  have q2 : (a.m.toList == b.m.toList) = true := by rw [beq_toList]; exact z2
  have q3 : ∀ wx, (Op.equalIn 10000 27 (nsV a.v0 a.v1 a.v2 a.v3 a.v4) (nsV b.v0 b.v1 b.v2 b.v3 b.v4)).run Tryz.prog wx = .ok true wx := fun wx => by rw [ns_eql]; exact congrArg (fun x => Result.ok x wx) z3
  rw [z4] at HT
  have q5 : (a.r.toList == b.r.toList) = true := by rw [beq_toList]; exact z5
  clear ha hb hb1 hb2 z0 z1 z2 z3 z4 z5
  unfold dataV cellsD
  go_enter Tryz.func126, Tryz.ntmps126
  go_wp2_with (go_at_call 162; (with_reducible refine HT.out.mono ?_); rintro e w1 ⟨rfl, hb3⟩; have HB3 := Lib.hid hb3; have hcA := hb3.cell (p := ⟨w.heap.size, 11, none⟩) (by simp; omega); have hcB := hb3.cell (p := ⟨w.heap.size + 1, 11, none⟩) (by simp); clear hb3)
  go_ret
  exact ⟨rfl, HB.out.trans (HB3.out.mono HB.out.size)⟩
theorem Same_any (a b : MD) (ta tb : Value) (w : World) (ha : Fit w a ta) (hb : Fit w b tb) : Calls Tryz.prog 126 #[dataV a ta, dataV b tb] w (Told w (.bool (sameD a b))) := by
  rw [sameD_eq]
  cases z0 : eA a b
  · exact same_0 a b ta tb w ha hb z0
  cases z1 : eN a.n b.n
  · exact same_1 a b ta tb w ha hb z0 z1
  cases z2 : eN a.m b.m
  · exact same_2 a b ta tb w ha hb z0 z1 z2
  cases z3 : eV a b
  · exact same_3 a b ta tb w ha hb z0 z1 z2 z3
  cases z4 : eqS a.L b.L
  · exact same_4 a b ta tb w ha hb z0 z1 z2 z3 z4
  cases z5 : eN a.r b.r
  · exact same_5 a b ta tb w ha hb z0 z1 z2 z3 z4 z5
  · exact same_6 a b ta tb w ha hb z0 z1 z2 z3 z4 z5
end Go.Proofs.YtodedbokeodmkaaGreat
namespace Go.Proofs.YtodedbokeodmkaaGreat
open Go.RowKit Go.Maps
set_option linter.unusedVariables false
set_option maxRecDepth 100000

theorem IK.ops {lo : Nat} {w : World} {x : K5} {K : List Pt} (h : IK lo w (kv x) K) : ∃ Bs : Nat → Prop, (∀ j, Bs j → lo ≤ j ∧ j < w.heap.size) ∧ (Goes x.a0.id ∧ Goes x.a1.id ∧ Goes x.a2.id ∧ Goes x.a3.id ∧ Goes x.a4.id) ∧
    ∀ wx : World, w.heap.size ≤ wx.heap.size → (∀ j, lo ≤ j → j < w.heap.size → wx.heap[j]? = w.heap[j]?) → KOps Bs K wx (fv x.a0) (fv x.a1) (fv x.a2) (fv x.a3) (fv x.a4) := by
  obtain ⟨Bs, h1, h2, h3⟩ := h.b
  have hb : ∀ j, Bs j → lo ≤ j ∧ j < w.heap.size := fun j hj => let ⟨a, cs, t, hc⟩ := h1 j hj; ⟨a, (Array.getElem?_eq_some_iff.1 hc).1⟩
  exact ⟨Bs, hb, h2, fun wx hz hs => h3 wx hz fun j hj => hs j (hb j hj).1 (hb j hj).2⟩
theorem Fit.dropP {w : World} {d : MD} {tv tv' : Value} (h : Fit w d tv) (p : Pt) (ht : (tv' = tv ∧ (dropP p d).L = d.L) ∨ (tv' = nilS ∧ (dropP p d).L = [])) : Fit w (dropP p d) tv' := by
  have hr : SRow w tv' (Go.Proofs.YtodedbokeodmkaaGreat.dropP p d).L ∧ (Go.Proofs.YtodedbokeodmkaaGreat.dropP p d).L.length ≤ 17592186044416 ∧ ∀ x ∈ (Go.Proofs.YtodedbokeodmkaaGreat.dropP p d).L, x.size ≤ maxLen := by
    rcases ht with ⟨rfl, e⟩ | ⟨rfl, e⟩
    · rw [e]; exact ⟨h.row, h.tl, h.t⟩
    · rw [e]; exact ⟨.inl ⟨_, rfl, rfl⟩, by simp, by simp⟩
  obtain ⟨r1, r2, r3⟩ := hr
  have z : nob.size ≤ maxLen := Nat.zero_le _
  have z32 : 0 < 4294967296 := by decide
  cases p with
  | adr six => exact { row := r1, n := h.n, m := h.m, r := h.r, t := r3, tl := r2, hi := Nat.lt_of_lt_of_le Nat.zero_lt_one (by decide), lo := Nat.lt_of_lt_of_le Nat.zero_lt_one (by decide), v0 := h.v0, v1 := h.v1, v2 := h.v2, v3 := h.v3, v4 := h.v4 }
  | nam mail ptd =>
    cases mail
    · exact { row := r1, n := z, m := h.m, r := h.r, t := r3, tl := r2, hi := h.hi, lo := h.lo, v0 := h.v0, v1 := h.v1, v2 := h.v2, v3 := h.v3, v4 := h.v4 }
    · exact { row := r1, n := h.n, m := z, r := h.r, t := r3, tl := r2, hi := h.hi, lo := h.lo, v0 := h.v0, v1 := h.v1, v2 := h.v2, v3 := h.v3, v4 := h.v4 }
  | num a b c e f => exact { row := r1, n := h.n, m := h.m, r := h.r, t := r3, tl := r2, hi := h.hi, lo := h.lo, v0 := z32, v1 := z32, v2 := z32, v3 := z32, v4 := z32 }
  | txt => exact { row := r1, n := h.n, m := h.m, r := h.r, t := r3, tl := r2, hi := h.hi, lo := h.lo, v0 := h.v0, v1 := h.v1, v2 := h.v2, v3 := h.v3, v4 := h.v4 }
  | raw => exact { row := r1, n := h.n, m := h.m, r := z, t := r3, tl := r2, hi := h.hi, lo := h.lo, v0 := h.v0, v1 := h.v1, v2 := h.v2, v3 := h.v3, v4 := h.v4 }
theorem dropP_L (p : Pt) (d : MD) : (dropP p d).L = d.L ∨ (dropP p d).L = [] := by
  cases p with
  | nam mail ptd => cases mail <;> exact .inl rfl
  | txt => exact .inr rfl
  | _ => exact .inl rfl
theorem Fit.drop {w : World} {d : MD} {tv tv' : Value} (K : List Pt) (h : Fit w d tv) (ht : (tv' = tv ∧ (dropK K d).L = d.L) ∨ (tv' = nilS ∧ (dropK K d).L = [])) : Fit w (dropK K d) tv' := by
  have hrow : SRow w tv' (dropK K d).L := by
    rcases ht with ⟨rfl, e⟩ | ⟨rfl, e⟩
    · rw [e]; exact h.row
    · rw [e]; exact .inl ⟨_, rfl, rfl⟩
  have hex : ∃ tv2, Fit w (dropK K d) tv2 := by
    clear ht hrow
    unfold dropK
    induction K generalizing d tv with
    | nil => exact ⟨tv, h⟩
    | cons p K ih =>
      rw [List.foldl_cons]
      rcases dropP_L p d with e | e
      · exact ih (h.dropP p (.inl ⟨rfl, e⟩))
      · exact ih (h.dropP p (.inr ⟨rfl, e⟩))
  obtain ⟨tv2, h2⟩ := hex
  exact { h2 with row := hrow }
theorem fit0 (w : World) : Fit w md0 nilS :=
  { row := .inl ⟨_, rfl, rfl⟩, n := Nat.zero_le _, m := Nat.zero_le _, r := Nat.zero_le _, t := (fun x h => nomatch h), tl := by decide, hi := by decide, lo := by decide, v0 := by decide, v1 := by decide, v2 := by decide, v3 := by decide, v4 := by decide }
abbrev zeroD : Value := .agg #[.bool false, .int .u64 0, .int .u64 0, .string ⟨#[]⟩, .string ⟨#[]⟩, .int .u32 0, .int .u32 0, .int .u32 0, .int .u32 0, .int .u32 0, .slice none 0 0, .string ⟨#[]⟩]
theorem lies12 {w : World} {g : Nat} {t : TypeId} {d : MD} {tv : Value} (h : Lies w g t (cellsD d tv)) : w.cell? ⟨g, 0, none⟩ = some (.bool d.six) ∧ w.cell? ⟨g, 1, none⟩ = some (.int .u64 (d.hi : Int)) ∧ w.cell? ⟨g, 2, none⟩ = some (.int .u64 (d.lo : Int)) ∧ w.cell? ⟨g, 3, none⟩ = some (.string d.n) ∧ w.cell? ⟨g, 4, none⟩ = some (.string d.m) ∧
    w.cell? ⟨g, 5, none⟩ = some (.int .u32 (d.v0 : Int)) ∧ w.cell? ⟨g, 6, none⟩ = some (.int .u32 (d.v1 : Int)) ∧ w.cell? ⟨g, 7, none⟩ = some (.int .u32 (d.v2 : Int)) ∧ w.cell? ⟨g, 8, none⟩ = some (.int .u32 (d.v3 : Int)) ∧ w.cell? ⟨g, 9, none⟩ = some (.int .u32 (d.v4 : Int)) ∧ w.cell? ⟨g, 10, none⟩ = some tv ∧ w.cell? ⟨g, 11, none⟩ = some (.string d.r) :=
  ⟨h.cell 0, h.cell 1, h.cell 2, h.cell 3, h.cell 4, h.cell 5, h.cell 6, h.cell 7, h.cell 8, h.cell 9, h.cell 10, h.cell 11⟩
set_option maxHeartbeats 2000000 in
theorem parts_any {lo : Nat} (x : K5) (K : List Pt) (d : MD) (tv : Value) (w : World) (hk : IK lo w (kv x) K) (hf : Fit w d tv) :
    Calls Tryz.prog 102 #[kv x, dataV d tv] w (Told w (.int .i64 (partsK K d : Nat))) := by
  obtain ⟨Bs, hBs, hgo, hops⟩ := hk.ops
  obtain ⟨A, cap, rfl, _, _⟩ := hf.row.shape
  obtain ⟨tv, htv⟩ : ∃ tv, tv = Value.slice A d.L.length cap := ⟨_, rfl⟩
  rw [← htv] at hf ⊢
  obtain ⟨W, hW⟩ : ∃ W, W = ((w.alloc (.cells #[fv x.a0, fv x.a1, fv x.a2, fv x.a3, fv x.a4] 139)).alloc (.cells (cellsD d tv) 30)).alloc (.cells (cellsD d tv) 30) := ⟨_, rfl⟩
  have hb0 : Below w.heap.size w W := by rw [hW]; exact (((Below.refl _ _).alloc (Nat.le_refl _) _).alloc (by simp) _).alloc (by simp; omega) _
  have l0 : Lies W w.heap.size 139 #[fv x.a0, fv x.a1, fv x.a2, fv x.a3, fv x.a4] := by rw [hW]; exact ((Lies.new w _ _).alloc _).alloc _
  have l1 : Lies W (w.heap.size + 1) 30 (cellsD d tv) := by
    have := (Lies.new (w.alloc (.cells #[fv x.a0, fv x.a1, fv x.a2, fv x.a3, fv x.a4] 139)) 30 (cellsD d tv)).alloc (.cells (cellsD d tv) 30)
    rw [size_alloc] at this
    rw [hW]
    exact this
  have l2 : Lies W (w.heap.size + 1 + 1) 30 (cellsD d tv) := by
    have := Lies.new ((w.alloc (.cells #[fv x.a0, fv x.a1, fv x.a2, fv x.a3, fv x.a4] 139)).alloc (.cells (cellsD d tv) 30)) 30 (cellsD d tv)
    rw [size_alloc, size_alloc] at this
    rw [hW]
    exact this
  have hop := fun (wx : World) (hb : Below w.heap.size w wx) => hops wx hb.size fun j _ hj => hb.block j hj
  have HD := Lib.hid (((hop W hb0).drop (w.heap.size + 1 + 1) d tv (fun hx => by have := (hBs _ hx).2; omega) l2).calls)
  have HC := Lib.hid fun wx (hb : Below w.heap.size w wx) => (((hop wx hb).check d tv (hf.next hb)).calls)
  have HG : Hid (∀ w4 tv', W.grownBy w4 (some (w.heap.size + 1 + 1)) → Lies w4 (w.heap.size + 1 + 1) 30 (cellsD (dropK K d) tv') → ((tv' = tv ∧ (dropK K d).L = d.L) ∨ (tv' = nilS ∧ (dropK K d).L = [])) →
    Below w.heap.size w w4 ∧ Lies w4 w.heap.size 139 #[fv x.a0, fv x.a1, fv x.a2, fv x.a3, fv x.a4] ∧ Lies w4 (w.heap.size + 1) 30 (cellsD d tv) ∧ Calls Tryz.prog 126 #[dataV (dropK K d) tv', zeroD] w4 (Told w4 (.bool (sameD (dropK K d) md0)))) := Lib.hid fun w4 tv' hg hl ho => by
      have hb4 := hb0.grown hg hb0.size (fun j hj => by injection hj with hj; omega)
      exact ⟨hb4, l0.grown hg (fun e => by injection e with e; omega), l1.grown hg (fun e => by injection e with e; omega), Same_any (dropK K d) md0 tv' nilS w4 ((hf.next hb4).drop K ho) (fit0 w4)⟩
  have c0 := l0.cell 0
  have g0 := hgo.1
  have g1 := hgo.2.1
  have HP : Hid (partsK K d = if sameD (dropK K d) md0 then chkK K d else 2) := Lib.hid rfl
  obtain ⟨P, hP⟩ : ∃ P, partsK K d = P := ⟨_, rfl⟩
  obtain ⟨C, hC⟩ : ∃ C, chkK K d = C := ⟨_, rfl⟩
  rw [hP] at HP ⊢
  rw [hC] at HP HC
  clear hP hC hk hf hops hop hb0 l0 l1 l2 hgo hBs
  unfold Goes at g0 g1
  cases hsm : sameD (dropK K d) md0
  · rw [hsm] at HG HP
    clear hsm
    subst htv
    unfold dataV cellsD
    go_enter Tryz.func102, Tryz.ntmps102
    go_upto_region 2 with (fail)
    rw [← hW]
    clear hW
    go_wp2_with (first | ((with_reducible refine HD.out.mono ?_); rintro e w4 ⟨⟨u, rfl⟩, hg4, tv', hl4, ho4⟩; obtain ⟨hb4, k0, k1, hsame⟩ := HG.out w4 tv' hg4 hl4 ho4; obtain ⟨z0, z1, z2, z3, z4, z5, z6, z7, z8, z9, z10, z11⟩ := lies12 hl4; have HS4 := Lib.hid hsame; have HB4 := Lib.hid hb4; clear hg4 hl4 ho4 hb4 k0 k1 hsame) | (go_at_call 126; (with_reducible refine HS4.out.mono ?_); rintro e w5 ⟨rfl, hb5⟩; have HB5 := Lib.hid hb5; clear hb5))
    go_ret
    rw [HP.out]
    exact ⟨rfl, HB4.out.trans (HB5.out.mono HB4.out.size)⟩
  · rw [hsm] at HG HP
    clear hsm
    subst htv
    unfold dataV cellsD
    go_enter Tryz.func102, Tryz.ntmps102
    go_upto_region 2 with (fail)
    rw [← hW]
    clear hW
    go_wp2_with (first | ((with_reducible refine HD.out.mono ?_); rintro e w4 ⟨⟨u, rfl⟩, hg4, tv', hl4, ho4⟩; obtain ⟨hb4, k0, k1, hsame⟩ := HG.out w4 tv' hg4 hl4 ho4; obtain ⟨z0, z1, z2, z3, z4, z5, z6, z7, z8, z9, z10, z11⟩ := lies12 hl4; have HS4 := Lib.hid hsame; have HB4 := Lib.hid hb4; have HK0 := Lib.hid k0; have HK1 := Lib.hid k1; clear hg4 hl4 ho4 hb4 k0 k1 hsame) | (go_at_call 126; (with_reducible refine HS4.out.mono ?_); rintro e w5 ⟨rfl, hb5⟩; have HB5 := Lib.hid (HB4.out.trans (hb5.mono HB4.out.size)); have m1 := (Lies.next HK0.out hb5).cell 1; obtain ⟨y0, y1, y2, y3, y4, y5, y6, y7, y8, y9, y10, y11⟩ := lies12 (Lies.next HK1.out hb5); clear hb5) | ((with_reducible refine (HC.out _ HB5.out).mono ?_); rintro e w6 ⟨rfl, hb6⟩; have HB6 := Lib.hid hb6; clear hb6))
    go_ret
    rw [HP.out]
    exact ⟨rfl, HB5.out.trans (HB6.out.mono HB5.out.size)⟩
end Go.Proofs.YtodedbokeodmkaaGreat
namespace Go.Proofs.YtodedbokeodmkaaGreat
open Go.RowKit Go.Maps
set_option linter.unusedVariables false
set_option maxRecDepth 100000

theorem parts_zero {K : List Pt} {d : MD} (h : partsK K d = 0) : chkK K d = 0 := by
  unfold partsK at h
  split at h
  · exact h
  · cases h
/-- The boxes of a kind and of data. -/
theorem boxKD (w : World) (x : K5) (d : MD) (tv : Value) : Lies ((w.alloc (.cells #[fv x.a0, fv x.a1, fv x.a2, fv x.a3, fv x.a4] 139)).alloc (.cells (cellsD d tv) 30)) w.heap.size 139 #[fv x.a0, fv x.a1, fv x.a2, fv x.a3, fv x.a4] ∧
    Lies ((w.alloc (.cells #[fv x.a0, fv x.a1, fv x.a2, fv x.a3, fv x.a4] 139)).alloc (.cells (cellsD d tv) 30)) (w.heap.size + 1) 30 (cellsD d tv) ∧ Below w.heap.size w ((w.alloc (.cells #[fv x.a0, fv x.a1, fv x.a2, fv x.a3, fv x.a4] 139)).alloc (.cells (cellsD d tv) 30)) := by
  refine ⟨(Lies.new w _ _).alloc _, ?_, ((Below.refl _ _).alloc (Nat.le_refl _) _).alloc (by simp) _⟩
  have := Lies.new (w.alloc (.cells #[fv x.a0, fv x.a1, fv x.a2, fv x.a3, fv x.a4] 139)) 30 (cellsD d tv)
  rwa [size_alloc] at this
set_option maxHeartbeats 2000000 in
theorem all_any {lo : Nat} (x : K5) (K : List Pt) (d : MD) (tv : Value) (w : World) (hk : IK lo w (kv x) K) (hf : Fit w d tv) :
    Calls Tryz.prog 76 #[kv x, dataV d tv] w (Told w (.int .i64 (allK K d : Nat))) := by
  obtain ⟨Bs, hBs, hgo, hops⟩ := hk.ops
  obtain ⟨A, cap, htv, _, _⟩ := hf.row.shape
  have htv' : ∃ n, tv = Value.slice A n cap := ⟨_, htv⟩
  clear htv
  obtain ⟨n, htv⟩ := htv'
  obtain ⟨l0, l1, hb0⟩ := boxKD w x d tv
  have hP : ∀ wx, Below w.heap.size w wx → Calls Tryz.prog 102 #[kv x, dataV d tv] wx (Told wx (.int .i64 (partsK K d : Nat))) := fun wx hb => parts_any x K d tv wx (hk.next (CG.of_below hb)) (hf.next hb)
  have HP := Lib.hid (hP _ hb0)
  have HB0 := Lib.hid hb0
  have HL : Hid (∀ w1, Below w.heap.size w w1 → _ → _) := Lib.hid fun w1 (hb : Below w.heap.size w w1) (h : Below ((w.alloc (.cells #[fv x.a0, fv x.a1, fv x.a2, fv x.a3, fv x.a4] 139)).alloc (.cells (cellsD d tv) 30)).heap.size ((w.alloc (.cells #[fv x.a0, fv x.a1, fv x.a2, fv x.a3, fv x.a4] 139)).alloc (.cells (cellsD d tv) 30)) w1) => And.intro (l0.next h) (lies12 (l1.next h))
  have g2 := hgo.2.2.1
  unfold Goes at g2
  by_cases h0 : partsK K d = 0
  · have hch := parts_zero h0
    have HC := Lib.hid fun wx (hb : Below w.heap.size w wx) => (((hops wx hb.size fun j _ hj => hb.block j hj).size d tv (hf.next hb) hch).calls)
    rw [h0] at HP
    by_cases h1 : 65535 < sizeK K d
    · have HV : Hid (allK K d = 3) := Lib.hid (by unfold allK; rw [if_neg (fun hn => hn h0), if_pos h1])
      obtain ⟨q, hq⟩ : ∃ q, sizeK K d = q := ⟨_, rfl⟩
      rw [hq] at HC h1
      have hd : decide ((65535 : Int) < (q : Int)) = true := by rw [decide_eq_true_iff]; omega
      clear hq h0 h1 hch hk hf hP hops hb0 l0 l1 hgo hBs
      subst htv
      unfold dataV cellsD
      go_enter Tryz.func76, Tryz.ntmps76
      go_wp2_with (first | (go_at_call 102; (with_reducible refine HP.out.mono ?_); rintro e w1 ⟨rfl, hb1⟩; have hb2 := HB0.out.trans (hb1.mono HB0.out.size); obtain ⟨k0, y0, y1, y2, y3, y4, y5, y6, y7, y8, y9, y10, y11⟩ := HL.out w1 hb2 hb1; have m2 := k0.cell 2; have HB1 := Lib.hid hb2; clear hb1 hb2 k0) | ((with_reducible refine (HC.out _ HB1.out).mono ?_); rintro e w6 ⟨rfl, hb6⟩; have HB6 := Lib.hid hb6; clear hb6))
      go_ret
      rw [HV.out]
      exact ⟨rfl, HB1.out.trans (HB6.out.mono HB1.out.size)⟩
    · have HV : Hid (allK K d = 0) := Lib.hid (by unfold allK; rw [if_neg (fun hn => hn h0), if_neg h1])
      obtain ⟨q, hq⟩ : ∃ q, sizeK K d = q := ⟨_, rfl⟩
      rw [hq] at HC h1
      have hd : decide ((65535 : Int) < (q : Int)) = false := by rw [decide_eq_false_iff_not]; omega
      clear hq h0 h1 hch hk hf hP hops hb0 l0 l1 hgo hBs
      subst htv
      unfold dataV cellsD
      go_enter Tryz.func76, Tryz.ntmps76
      go_wp2_with (first | (go_at_call 102; (with_reducible refine HP.out.mono ?_); rintro e w1 ⟨rfl, hb1⟩; have hb2 := HB0.out.trans (hb1.mono HB0.out.size); obtain ⟨k0, y0, y1, y2, y3, y4, y5, y6, y7, y8, y9, y10, y11⟩ := HL.out w1 hb2 hb1; have m2 := k0.cell 2; have HB1 := Lib.hid hb2; clear hb1 hb2 k0) | ((with_reducible refine (HC.out _ HB1.out).mono ?_); rintro e w6 ⟨rfl, hb6⟩; have HB6 := Lib.hid hb6; clear hb6))
      go_ret
      rw [HV.out]
      exact ⟨rfl, HB1.out.trans (HB6.out.mono HB1.out.size)⟩
  · have HV : Hid (allK K d = partsK K d) := Lib.hid (by unfold allK; rw [if_pos h0])
    have hne : (((partsK K d : Nat) : Int) != 0) = true := by rw [bne_iff_ne]; omega
    obtain ⟨q, hq⟩ : ∃ q, partsK K d = q := ⟨_, rfl⟩
    rw [hq] at HP HV hne
    clear hq h0 hk hf hP hops hb0 l0 l1 hgo hBs
    subst htv
    unfold dataV cellsD
    go_enter Tryz.func76, Tryz.ntmps76
    go_wp2_with (go_at_call 102; (with_reducible refine HP.out.mono ?_); rintro e w1 ⟨rfl, hb1⟩; have HB1 := Lib.hid (HB0.out.trans (hb1.mono HB0.out.size)); clear hb1)
    go_ret
    rw [HV.out]
    exact ⟨rfl, HB1.out⟩
set_option maxHeartbeats 2000000 in
theorem Check_anyD (t : Int) (d : MD) (tv : Value) (w : World) (hf : Fit w d tv) : Calls Tryz.prog 40 #[.int .i64 t, dataV d tv] w (Told w (.int .i64 (checkD t d : Nat))) := by
  have hb0 := boxD w d tv
  have HB0 := Lib.hid hb0
  obtain ⟨A, cap, htv, _, _⟩ := hf.row.shape
  have htv' : ∃ n, tv = Value.slice A n cap := ⟨_, htv⟩
  clear htv
  obtain ⟨n, htv⟩ := htv'
  cases ht : isT t
  · have HK := Lib.hid (kindOf_no t (w.alloc (.cells (cellsD d tv) 30)) ht)
    have HV : Hid (checkD t d = 2) := Lib.hid (by unfold checkD; rw [ht]; rfl)
    clear ht hf hb0
    subst htv
    unfold dataV cellsD
    go_enter Tryz.func40, Tryz.ntmps40
    go_wp2_with (go_at_call 75; (with_reducible refine HK.out.mono ?_); rintro e w1 ⟨rfl, hb1⟩; have HB1 := Lib.hid (HB0.out.trans (hb1.mono HB0.out.size)); clear hb1)
    go_ret
    rw [HV.out]
    exact ⟨rfl, HB1.out.alloc HB1.out.size _⟩
  · have HK := Lib.hid (kindOf_yes t (w.alloc (.cells (cellsD d tv) 30)) ht)
    have HV : Hid (checkD t d = allK (kindK t) d) := Lib.hid (by unfold checkD; rw [ht]; rfl)
    have hl : Lies (w.alloc (.cells (cellsD d tv) 30)) w.heap.size 30 (cellsD d tv) := Lies.new w _ _
    have HA := Lib.hid fun w1 x (hk : IK (w.alloc (.cells (cellsD d tv) 30)).heap.size w1 (kv x) (kindK t)) (hb : Below (w.alloc (.cells (cellsD d tv) 30)).heap.size (w.alloc (.cells (cellsD d tv) 30)) w1) =>
      And.intro (lies12 ((hl.next hb).alloc (.cells #[fv x.a0, fv x.a1, fv x.a2, fv x.a3, fv x.a4] 139)))
        (all_any x (kindK t) d tv (w1.alloc (.cells #[fv x.a0, fv x.a1, fv x.a2, fv x.a3, fv x.a4] 139)) (hk.next (CG.alloc _ _)) (((hf.next hb0).next hb).next ((Below.refl _ _).alloc (Nat.le_refl _) _)))
    clear ht hf hb0 hl
    obtain ⟨q, hq⟩ : ∃ q, allK (kindK t) d = q := ⟨_, rfl⟩
    rw [hq] at HA HV
    clear hq
    subst htv
    unfold dataV cellsD
    go_enter Tryz.func40, Tryz.ntmps40
    go_wp2_with (first | (go_at_call 75; (with_reducible refine HK.out.mono ?_); rintro e w1 ⟨x, rfl, hik, hb1⟩; obtain ⟨⟨y0, y1, y2, y3, y4, y5, y6, y7, y8, y9, y10, y11⟩, hall⟩ := HA.out w1 x hik hb1; have HAll := Lib.hid hall; have HB1 := Lib.hid ((HB0.out.trans (hb1.mono HB0.out.size)).alloc (Nat.le_trans HB0.out.size hb1.size) (.cells #[fv x.a0, fv x.a1, fv x.a2, fv x.a3, fv x.a4] 139)); clear hb1 hik hall) | (go_at_call 76; (with_reducible refine HAll.out.mono ?_); rintro e w2 ⟨rfl, hb2⟩; have HB2 := Lib.hid hb2; clear hb2))
    go_ret
    rw [HV.out]
    exact ⟨rfl, HB1.out.trans (HB2.out.mono HB1.out.size)⟩
end Go.Proofs.YtodedbokeodmkaaGreat
namespace Go.Proofs.YtodedbokeodmkaaGreat
open Go.RowKit Go.Maps
set_option linter.unusedVariables false
set_option maxRecDepth 100000

set_option maxHeartbeats 2000000 in
theorem Size_anyD (t : Int) (d : MD) (tv : Value) (w : World) (hf : Fit w d tv) : Calls Tryz.prog 70 #[.int .i64 t, dataV d tv] w (Told w (.int .i64 (sizeD t d : Nat))) := by
  have hb0 := boxD w d tv
  have HB0 := Lib.hid hb0
  obtain ⟨A, cap, htv, _, _⟩ := hf.row.shape
  have htv' : ∃ n, tv = Value.slice A n cap := ⟨_, htv⟩
  clear htv
  obtain ⟨n, htv⟩ := htv'
  cases ht : isT t
  · have HK := Lib.hid (kindOf_no t (w.alloc (.cells (cellsD d tv) 30)) ht)
    have HV : Hid (sizeD t d = 0) := Lib.hid (by unfold sizeD; rw [ht]; rfl)
    clear ht hf hb0
    subst htv
    unfold dataV cellsD
    go_enter Tryz.func70, Tryz.ntmps70
    go_wp2_with (go_at_call 75; (with_reducible refine HK.out.mono ?_); rintro e w1 ⟨rfl, hb1⟩; have HB1 := Lib.hid (HB0.out.trans (hb1.mono HB0.out.size)); clear hb1)
    go_ret
    rw [HV.out]
    exact ⟨rfl, HB1.out.alloc HB1.out.size _⟩
  · have HK := Lib.hid (kindOf_yes t (w.alloc (.cells (cellsD d tv) 30)) ht)
    have hl : Lies (w.alloc (.cells (cellsD d tv) 30)) w.heap.size 30 (cellsD d tv) := Lies.new w _ _
    by_cases hz : partsK (kindK t) d = 0
    · have HV : Hid (sizeD t d = sizeK (kindK t) d) := Lib.hid (by unfold sizeD; rw [ht, if_pos rfl, if_neg (fun hn => hn hz)])
      have HA := Lib.hid fun w1 x (hk : IK (w.alloc (.cells (cellsD d tv) 30)).heap.size w1 (kv x) (kindK t)) (hb : Below (w.alloc (.cells (cellsD d tv) 30)).heap.size (w.alloc (.cells (cellsD d tv) 30)) w1) =>
        And.intro (lies12 ((hl.next hb).alloc (.cells #[fv x.a0, fv x.a1, fv x.a2, fv x.a3, fv x.a4] 139))) (And.intro
          (hz ▸ parts_any x (kindK t) d tv (w1.alloc (.cells #[fv x.a0, fv x.a1, fv x.a2, fv x.a3, fv x.a4] 139)) (hk.next (CG.alloc _ _)) (((hf.next hb0).next hb).next ((Below.refl _ _).alloc (Nat.le_refl _) _)))
          (And.intro (show Goes x.a2.id from let ⟨_, _, g, _⟩ := hk.ops; g.2.2.1) (show ∀ w2, Below (w1.alloc (.cells #[fv x.a0, fv x.a1, fv x.a2, fv x.a3, fv x.a4] 139)).heap.size (w1.alloc (.cells #[fv x.a0, fv x.a1, fv x.a2, fv x.a3, fv x.a4] 139)) w2 →
            Lies w2 w1.heap.size 139 #[fv x.a0, fv x.a1, fv x.a2, fv x.a3, fv x.a4] ∧ Lies w2 w.heap.size 30 (cellsD d tv) ∧ Calls Tryz.prog x.a2.id (#[dataV d tv] ++ x.a2.caps) w2 (Told w2 (.int .i64 (sizeK (kindK t) d : Nat))) from fun w2 hb2 => by
              obtain ⟨Bs, h1, h2, h3⟩ := hk.ops
              have hal : Below w1.heap.size w1 (w1.alloc (.cells #[fv x.a0, fv x.a1, fv x.a2, fv x.a3, fv x.a4] 139)) := (Below.refl _ _).alloc (Nat.le_refl _) _
              have hb3 : Below w1.heap.size w1 w2 := hal.trans (hb2.mono hal.size)
              exact ⟨(Lies.new w1 _ _).next hb2, (hl.next hb).next hb3, (((h3 w2 hb3.size fun j _ hj => hb3.block j hj).size d tv (((hf.next hb0).next hb).next hb3) (parts_zero hz)).calls)⟩)))
      obtain ⟨q, hq⟩ : ∃ q, sizeK (kindK t) d = q := ⟨_, rfl⟩
      rw [hq] at HA HV
      clear ht hf hb0 hl hq hz
      subst htv
      unfold dataV cellsD
      go_enter Tryz.func70, Tryz.ntmps70
      go_wp2_with (first | (go_at_call 75; (with_reducible refine HK.out.mono ?_); rintro e w1 ⟨x, rfl, hik, hb1⟩; obtain ⟨⟨y0, y1, y2, y3, y4, y5, y6, y7, y8, y9, y10, y11⟩, hpt, hgo, hnx⟩ := HA.out w1 x hik hb1; have HPt := Lib.hid hpt; have HNx := Lib.hid hnx; have HB1 := Lib.hid ((HB0.out.trans (hb1.mono HB0.out.size)).alloc (Nat.le_trans HB0.out.size hb1.size) (.cells #[fv x.a0, fv x.a1, fv x.a2, fv x.a3, fv x.a4] 139)); unfold Goes at hgo; clear hb1 hik hpt hnx) | (go_at_call 102; (with_reducible refine HPt.out.mono ?_); rintro e w2 ⟨rfl, hb2⟩; obtain ⟨k0, l1, hcs⟩ := HNx.out w2 hb2; have m2 := k0.cell 2; obtain ⟨z0, z1, z2, z3, z4, z5, z6, z7, z8, z9, z10, z11⟩ := lies12 l1; have HCs := Lib.hid hcs; have HB2 := Lib.hid hb2; clear hb2 k0 l1 hcs) | ((with_reducible refine HCs.out.mono ?_); rintro e w3 ⟨rfl, hb3⟩; have HB3 := Lib.hid hb3; clear hb3))
      go_ret
      rw [HV.out]
      exact ⟨rfl, HB1.out.trans ((HB2.out.trans (HB3.out.mono HB2.out.size)).mono HB1.out.size)⟩
    · have HV : Hid (sizeD t d = 0) := Lib.hid (by unfold sizeD; rw [ht, if_pos rfl, if_pos hz])
      have hne : (((partsK (kindK t) d : Nat) : Int) != 0) = true := by rw [bne_iff_ne]; omega
      have HA := Lib.hid fun w1 x (hk : IK (w.alloc (.cells (cellsD d tv) 30)).heap.size w1 (kv x) (kindK t)) (hb : Below (w.alloc (.cells (cellsD d tv) 30)).heap.size (w.alloc (.cells (cellsD d tv) 30)) w1) =>
        And.intro (lies12 ((hl.next hb).alloc (.cells #[fv x.a0, fv x.a1, fv x.a2, fv x.a3, fv x.a4] 139)))
          (parts_any x (kindK t) d tv (w1.alloc (.cells #[fv x.a0, fv x.a1, fv x.a2, fv x.a3, fv x.a4] 139)) (hk.next (CG.alloc _ _)) (((hf.next hb0).next hb).next ((Below.refl _ _).alloc (Nat.le_refl _) _)))
      obtain ⟨q, hq⟩ : ∃ q, partsK (kindK t) d = q := ⟨_, rfl⟩
      rw [hq] at HA hne
      clear ht hf hb0 hl hq hz
      subst htv
      unfold dataV cellsD
      go_enter Tryz.func70, Tryz.ntmps70
      go_wp2_with (first | (go_at_call 75; (with_reducible refine HK.out.mono ?_); rintro e w1 ⟨x, rfl, hik, hb1⟩; obtain ⟨⟨y0, y1, y2, y3, y4, y5, y6, y7, y8, y9, y10, y11⟩, hpt⟩ := HA.out w1 x hik hb1; have HPt := Lib.hid hpt; have HB1 := Lib.hid ((HB0.out.trans (hb1.mono HB0.out.size)).alloc (Nat.le_trans HB0.out.size hb1.size) (.cells #[fv x.a0, fv x.a1, fv x.a2, fv x.a3, fv x.a4] 139)); clear hb1 hik hpt) | (go_at_call 102; (with_reducible refine HPt.out.mono ?_); rintro e w2 ⟨rfl, hb2⟩; have HB2 := Lib.hid hb2; clear hb2))
      go_ret
      rw [HV.out]
      exact ⟨rfl, HB1.out.trans (HB2.out.mono HB1.out.size)⟩
set_option maxHeartbeats 2000000 in
theorem Put_anyD {base g M : Nat} {F : Nat → Prop} {s : PS} (t : Int) (d : MD) (tv : Value) (w : World) (hp : PK w base F g M s) (hs1 : s.f ≠ 1) (hf : Fit w d tv) (hbk : ∀ j, blk tv = some j → j < base) :
    Calls Tryz.prog 36 #[pp g, .int .i64 t, dataV d tv] w (Pkr w base F g M (putD M t d s).2 (.int .i64 ((putD M t d s).1 : Nat))) := by
  have hb0 := boxD w d tv
  have hpW := hp.next hb0
  have HE := Lib.hid (pErr_any hpW)
  have hne1 : (((s.f : Nat) : Int) == 1) = false := by rw [beq_eq_false_iff_ne]; omega
  have HK0 := Lib.hid (Kf.of_below (base := base) (F := F) hb0 hp.base_le)
  have HQ : Hid (∀ w1, Below (w.alloc (.cells (cellsD d tv) 30)).heap.size (w.alloc (.cells (cellsD d tv) 30)) w1 → ∀ v, Pkr w base F g M s v (.returned v) w1) := Lib.hid fun w1 hb1 v => ⟨rfl, F, hpW.next hb1, HK0.out.trans (Kf.of_below hb1 hpW.base_le)⟩
  obtain ⟨A, cap, htv, _, _⟩ := hf.row.shape
  have htv' : ∃ n, tv = Value.slice A n cap := ⟨_, htv⟩
  clear htv
  obtain ⟨n, htv⟩ := htv'
  cases ht : isT t
  · have HK := Lib.hid (kindOf_no t (w.alloc (.cells (cellsD d tv) 30)) ht)
    have HV : Hid (putD M t d s = (2, s)) := Lib.hid (by unfold putD; rw [ht]; rfl)
    clear ht hf hb0 hp hpW hs1 hbk HK0
    subst htv
    unfold dataV cellsD
    go_enter Tryz.func36, Tryz.ntmps36
    go_wp2_with (first | (go_at_call 38; (with_reducible refine HE.out.mono ?_); rintro e w0 ⟨rfl, rfl⟩) | (go_at_call 75; (with_reducible refine HK.out.mono ?_); rintro e w1 ⟨rfl, hb1⟩; have HB1 := Lib.hid (hb1.alloc hb1.size (.cells #[.nilFunc, .nilFunc, .nilFunc, .nilFunc, .nilFunc] 139)); clear hb1))
    go_ret
    rw [HV.out]
    exact HQ.out _ HB1.out _
  · have HK := Lib.hid (kindOf_yes t (w.alloc (.cells (cellsD d tv) 30)) ht)
    have hl : Lies (w.alloc (.cells (cellsD d tv) 30)) w.heap.size 30 (cellsD d tv) := Lies.new w _ _
    by_cases hz : allK (kindK t) d = 0
    · have hpz : partsK (kindK t) d = 0 := by
        unfold allK at hz
        split at hz
        · rename_i hn; exact absurd hz hn
        · rename_i hn; exact Decidable.not_not.1 hn
      have hsz : sizeK (kindK t) d ≤ 65535 := by
        unfold allK at hz
        rw [if_neg (fun hn => hn hpz)] at hz
        split at hz
        · cases hz
        · omega
      have HV : Hid (putD M t d s = putK M (kindK t) d s) := Lib.hid (by unfold putD; rw [ht, if_pos rfl, if_neg (fun hn => hn hz)])
      have HA := Lib.hid fun w1 x (hk : IK (w.alloc (.cells (cellsD d tv) 30)).heap.size w1 (kv x) (kindK t)) (hb : Below (w.alloc (.cells (cellsD d tv) 30)).heap.size (w.alloc (.cells (cellsD d tv) 30)) w1) =>
        And.intro (lies12 ((hl.next hb).alloc (.cells #[fv x.a0, fv x.a1, fv x.a2, fv x.a3, fv x.a4] 139))) (And.intro
          (hz ▸ all_any x (kindK t) d tv (w1.alloc (.cells #[fv x.a0, fv x.a1, fv x.a2, fv x.a3, fv x.a4] 139)) (hk.next (CG.alloc _ _)) (((hf.next hb0).next hb).next ((Below.refl _ _).alloc (Nat.le_refl _) _)))
          (And.intro (show Goes x.a3.id from let ⟨_, _, g, _⟩ := hk.ops; g.2.2.2.1) (show ∀ w2, Below (w1.alloc (.cells #[fv x.a0, fv x.a1, fv x.a2, fv x.a3, fv x.a4] 139)).heap.size (w1.alloc (.cells #[fv x.a0, fv x.a1, fv x.a2, fv x.a3, fv x.a4] 139)) w2 →
            Lies w2 w1.heap.size 139 #[fv x.a0, fv x.a1, fv x.a2, fv x.a3, fv x.a4] ∧ Lies w2 w.heap.size 30 (cellsD d tv) ∧ Calls Tryz.prog x.a3.id (#[pp g, dataV d tv] ++ x.a3.caps) w2 (fun e w3 => e = .returned (.int .i64 ((putK M (kindK t) d s).1 : Nat)) ∧ ∃ F', PK w3 base F' g M (putK M (kindK t) d s).2 ∧ Kf base F F' w w3) from fun w2 hb2 => by
              obtain ⟨Bs, h1, h2, h3⟩ := hk.ops
              have hal : Below w1.heap.size w1 (w1.alloc (.cells #[fv x.a0, fv x.a1, fv x.a2, fv x.a3, fv x.a4] 139)) := (Below.refl _ _).alloc (Nat.le_refl _) _
              have hb3 : Below w1.heap.size w1 w2 := hal.trans (hb2.mono hal.size)
              refine ⟨(Lies.new w1 _ _).next hb2, (hl.next hb).next hb3, ?_⟩
              have hp2 := (hpW.next hb).next hb3
              refine (((h3 w2 hb3.size fun j _ hj => hb3.block j hj).put base F g M s d tv (fun j hj hF => ?_) hp2 (((hf.next hb0).next hb).next hb3) hbk (parts_zero hpz) hsz).calls).mono ?_
              · have := (h1 j hj).1
                have := (hpW.lt hF).2
                omega
              · rintro e w3 ⟨rfl, F', h4, h5⟩
                exact ⟨rfl, F', h4, HK0.out.trans ((Kf.of_below hb hpW.base_le).trans ((Kf.of_below hb3 (hpW.next hb).base_le).trans h5))⟩)))
      obtain ⟨q, hq⟩ : ∃ q, putK M (kindK t) d s = q := ⟨_, rfl⟩
      rw [hq] at HA HV
      clear ht hf hb0 hl hq hz hpz hsz hp hpW hs1 hbk HK0 HQ
      subst htv
      unfold dataV cellsD
      go_enter Tryz.func36, Tryz.ntmps36
      go_wp2_with (first | (go_at_call 38; (with_reducible refine HE.out.mono ?_); rintro e w0 ⟨rfl, rfl⟩) | (go_at_call 75; (with_reducible refine HK.out.mono ?_); rintro e w1 ⟨x, rfl, hik, hb1⟩; obtain ⟨⟨y0, y1, y2, y3, y4, y5, y6, y7, y8, y9, y10, y11⟩, hpt, hgo, hnx⟩ := HA.out w1 x hik hb1; have HPt := Lib.hid hpt; have HNx := Lib.hid hnx; unfold Goes at hgo; clear hb1 hik hpt hnx) | (go_at_call 76; (with_reducible refine HPt.out.mono ?_); rintro e w2 ⟨rfl, hb2⟩; obtain ⟨k0, l1, hcs⟩ := HNx.out w2 hb2; have m3 := k0.cell 3; obtain ⟨z0, z1, z2, z3, z4, z5, z6, z7, z8, z9, z10, z11⟩ := lies12 l1; have HCs := Lib.hid hcs; clear hb2 k0 l1 hcs) | ((with_reducible refine HCs.out.mono ?_); rintro e w3 ⟨rfl, F', h4, h5⟩; have H4 := Lib.hid h4; have H5 := Lib.hid h5; clear h4 h5))
      go_ret
      rw [HV.out]
      exact ⟨rfl, F', H4.out, H5.out⟩
    · have HV : Hid (putD M t d s = (allK (kindK t) d, s)) := Lib.hid (by unfold putD; rw [ht, if_pos rfl, if_pos hz])
      have hne : (((allK (kindK t) d : Nat) : Int) != 0) = true := by rw [bne_iff_ne]; omega
      have HA := Lib.hid fun w1 x (hk : IK (w.alloc (.cells (cellsD d tv) 30)).heap.size w1 (kv x) (kindK t)) (hb : Below (w.alloc (.cells (cellsD d tv) 30)).heap.size (w.alloc (.cells (cellsD d tv) 30)) w1) =>
        And.intro (lies12 ((hl.next hb).alloc (.cells #[fv x.a0, fv x.a1, fv x.a2, fv x.a3, fv x.a4] 139)))
          (all_any x (kindK t) d tv (w1.alloc (.cells #[fv x.a0, fv x.a1, fv x.a2, fv x.a3, fv x.a4] 139)) (hk.next (CG.alloc _ _)) (((hf.next hb0).next hb).next ((Below.refl _ _).alloc (Nat.le_refl _) _)))
      obtain ⟨q, hq⟩ : ∃ q, allK (kindK t) d = q := ⟨_, rfl⟩
      rw [hq] at HA hne HV
      clear ht hf hb0 hl hq hz hp hpW hs1 hbk HK0
      subst htv
      unfold dataV cellsD
      go_enter Tryz.func36, Tryz.ntmps36
      go_wp2_with (first | (go_at_call 38; (with_reducible refine HE.out.mono ?_); rintro e w0 ⟨rfl, rfl⟩) | (go_at_call 75; (with_reducible refine HK.out.mono ?_); rintro e w1 ⟨x, rfl, hik, hb1⟩; obtain ⟨⟨y0, y1, y2, y3, y4, y5, y6, y7, y8, y9, y10, y11⟩, hpt⟩ := HA.out w1 x hik hb1; have HPt := Lib.hid hpt; have HB1 := Lib.hid (hb1.alloc hb1.size (.cells #[fv x.a0, fv x.a1, fv x.a2, fv x.a3, fv x.a4] 139)); clear hb1 hik hpt) | (go_at_call 76; (with_reducible refine HPt.out.mono ?_); rintro e w2 ⟨rfl, hb2⟩; have HB2 := Lib.hid hb2; clear hb2))
      go_ret
      rw [HV.out]
      exact HQ.out _ (HB1.out.trans (HB2.out.mono HB1.out.size)) _
end Go.Proofs.YtodedbokeodmkaaGreat
namespace Go.Proofs.YtodedbokeodmkaaGreat
open Go.RowKit
set_option linter.unusedVariables false

/-- Bounds of data. -/
structure MFit (b : Nat) (d : MD) : Prop where
  n : d.n.size ≤ 1099511627776
  m : d.m.size ≤ 1099511627776
  r : d.r.size ≤ 1099511627776
  t : ∀ x ∈ d.L, x.size ≤ 1099511627776
  tl : d.L.length ≤ b
  hi : d.hi < 18446744073709551616
  lo : d.lo < 18446744073709551616
  v0 : d.v0 < 4294967296
  v1 : d.v1 < 4294967296
  v2 : d.v2 < 4294967296
  v3 : d.v3 < 4294967296
  v4 : d.v4 < 4294967296
/-! ### Places -/
end Go.Proofs.YtodedbokeodmkaaGreat
namespace Go.Proofs.YtodedbokeodmkaaGreat
open Go.RowKit Go.Maps
set_option linter.unusedVariables false
set_option maxRecDepth 100000

/-! ### All data -/
theorem MFit.fit {w : World} {b : Nat} {d : MD} {tv : Value} (h : MFit b d) (hb : b ≤ 17592186044416) (hr : SRow w tv d.L) : Fit w d tv :=
  { row := hr, n := Nat.le_trans h.n (by unfold maxLen; decide), m := Nat.le_trans h.m (by unfold maxLen; decide), r := Nat.le_trans h.r (by unfold maxLen; decide), t := fun x hx => Nat.le_trans (h.t x hx) (by unfold maxLen; decide), tl := Nat.le_trans h.tl hb, hi := h.hi, lo := h.lo, v0 := h.v0, v1 := h.v1, v2 := h.v2, v3 := h.v3, v4 := h.v4 }
end Go.Proofs.YtodedbokeodmkaaGreat
namespace Go.Proofs.YtodedbokeodmkaaGreat
open Go.RowKit Go.Maps
set_option linter.unusedVariables false
set_option maxRecDepth 100000

end Go.Proofs.YtodedbokeodmkaaGreat
namespace Go.Proofs.YtodedbokeodmkaaGreat
open Go.RowKit Go.Maps
set_option linter.unusedVariables false
set_option maxRecDepth 100000

end Go.Proofs.YtodedbokeodmkaaGreat
