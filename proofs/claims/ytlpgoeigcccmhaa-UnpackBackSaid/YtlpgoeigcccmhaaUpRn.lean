/-
  A name put by the document's own packer: the walk of its Name. Conditions: as each theorem names them.
-/
import Derived.Test.YtlpgoeigcccmhaaUpRk
import Derived.Test.YtlpgoeigcccmhaaNmRefK
import Derived.Deep.RegionHeld3
namespace Go.Proofs.Ytlpgoeigcccmhaa
open Go.RowKit
set_option linter.unusedVariables false

theorem bs_cons' {R : ByteArray} (h : 0 < R.size) : ∃ t, bs R = R[0] :: t ∧ t.length + 1 = R.size := by
  have h1 := drop_at R 0 h
  rw [List.drop_zero] at h1
  refine ⟨_, h1, ?_⟩
  have := congrArg List.length h1
  rw [bs_length, List.length_cons] at this
  omega
theorem cells_two (w : World) (x y : Value) (t : TypeId) : ∀ j u, [x, y][j]? = some u → (w.alloc (.cells #[x, y] t)).cell? ((⟨w.heap.size, 0, none⟩ : Addr).add j) = some u := by
  intro j u hj
  have e : (⟨w.heap.size, 0, none⟩ : Addr).add j = ⟨w.heap.size, j, none⟩ := by unfold Addr.add; split <;> simp_all
  rw [e, (Lies.new w t #[x, y]).cell j, ← hj]
  simp
theorem kf_drewN {base m : Nat} {F F' : Nat → Prop} {w w' : World} (h : Kf base F F' (w.drewN m) w') : Kf base F F' w w' :=
  ⟨⟨h.below.os, h.below.tape, h.below.output, h.below.size, h.below.block⟩, h.rest, h.sub⟩
section
variable {w : World} {base : Nat} {F : Nat → Prop} {gp gw : Nat} {vm : Value} {S : ByteArray} {ms : List (ByteArray × Nat)}
theorem rpName_bad (h : RPx w base F gp gw vm 65535 S ms) (n : ByteArray) (hs : n.size ≤ maxLen) (hc : chkN (bs n) ≠ 0) :
    Calls Try.prog 29 #[rp_ gp, .string n] w fun e w' => e = .returned (.int .i64 (chkN (bs n))) ∧ w = w' := by
  have HC := Lib.hid fun wx => rnCheck_any n wx hs
  have hc0 : w.cell? ⟨gp, 0, none⟩ = some (.pointer (some ⟨gw, 0, none⟩)) := h.lies.cell 0
  have hc2 : w.cell? ⟨gw, 2, none⟩ = some (.int .i64 0) := h.wr.cell 2
  have hne : ((chkN (bs n) : Int) != 0) = true := by rw [bne_iff_ne]; omega
  clear h hc
  go_enter Try.func29, Try.ntmps29
  go_wp2_with (go_at_call 27; (with_reducible refine (HC.out _).mono ?_); rintro e w' ⟨rfl, rfl⟩)
  go_ret
  exact ⟨rfl, rfl⟩
/-- What Name does with a name that may be. -/
def RNamed (w : World) (base : Nat) (F : Nat → Prop) (gp gw : Nat) (S n : ByteArray) (ms : List (ByteArray × Nat)) (e : Ending) (w' : World) : Prop :=
  e = .returned (.int .i64 0) ∧ ∃ F' vm' S' ms', RPx w' base F' gp gw vm' 65535 S' ms' ∧ PutR (bs S) (bs n) (bs S') ms' ∧ ms'.length ≤ ms.length + 16384 ∧ Kf base F F' w w'
/-- The relation of its loop. -/
def NmRel (w : World) (base : Nat) (F : Nat → Prop) (gp gw : Nat) (S n : ByteArray) (ms : List (ByteArray × Nat)) (k : Nat) (v : Value) (wr : World) : Prop :=
  ∃ r S' nw mm F' vm', mm = ms ++ nw ∧ v = .string r ∧ r.size = k ∧ RPx wr base F' gp gw vm' 65535 S' mm ∧ Mid (bs S) (bs n) ms nw (bs S') (bs r) ∧ mm.length ≤ ms.length + S'.size ∧ Kf base F F' w wr
theorem mark_info : (Try.prog.info? 89).map (fun i => (i.zero, i.size, i.bytes)) = some (some (.agg #[.string ⟨#[]⟩, .int .i64 0]), 2, 24) := by kernel_rfl
theorem own_mark {w1 : World} {v : Value} {mm : List (ByteArray × Nat)} {r : ByteArray} {a : Nat} (h : w1.ownsRow base 89 2 v (mm.length + 1) (cellsM mm ++ [.string r, .int .i64 a])) : OwnM w1 base v (mm ++ [(r, a)]) := by
  unfold OwnM
  rw [cellsM_snoc, List.length_append]
  exact h
set_option maxHeartbeats 4000000 in
set_option maxRecDepth 100000 in
theorem rpName_ok (h : RPx w base F gp gw vm 65535 S ms) (n : ByteArray) (hc : chkN (bs n) = 0) (hl : S.size + n.size + 1 ≤ 16384) (hml : ms.length ≤ 1000000) (hg : GM (bs S) ms) :
    Calls Try.prog 29 #[rp_ gp, .string n] w (RNamed w base F gp gw S n ms) := by
  have hnl : n.size ≤ 254 := by have := (chkN_iff.1 hc).1; rw [bs_length] at this; exact this
  have HC := Lib.hid fun wx => rnCheck_any n wx (by unfold maxLen; omega)
  rw [hc] at HC
  have hc0 : w.cell? ⟨gp, 0, none⟩ = some (.pointer (some ⟨gw, 0, none⟩)) := h.lies.cell 0
  have hc2 : w.cell? ⟨gw, 2, none⟩ = some (.int .i64 0) := h.wr.cell 2
  have HR0 : Hid (NmRel w base F gp gw S n ms n.size (.string n) w) := Lib.hid ⟨n, S, [], ms, F, vm, by simp, rfl, rfl, h, Mid.start hc, by simp, Kf.refl _ _ _⟩
  have HGM := Lib.hid hg
  obtain ⟨i0, hi, hz0, hz1, hz2⟩ := info_parts mark_info
  clear h hc hg
  go_enter Try.func29, Try.ntmps29
  go_wp2_with (go_at_call 27; (with_reducible refine (HC.out _).mono ?_); rintro e w' ⟨rfl, rfl⟩)
  clear hc0 hc2
  go_loopg [1] n.size (fun k v wr => NmRel w base F gp gw S n ms k v wr)
  case atStart => exact HR0.out
  case round =>
    clear HR0
    obtain ⟨r, S', nw, mm, F', vm', hmm, rfl, hrk, hx, hmid, hmsl, hk⟩ := hrel
    obtain ⟨A, cap, rfl, hcap, hmx, _⟩ := hx.mrk.shape
    unfold maxLen at hmx
    have HMM := Lib.hid hmm
    have HX := Lib.hid hx
    have HMid := Lib.hid hmid
    have HK := Lib.hid hk
    have c0 : wr.cell? ⟨gp, 0, none⟩ = some (.pointer (some ⟨gw, 0, none⟩)) := hx.lies.cell 0
    have c1 : wr.cell? ⟨gp, 1, none⟩ = some (.slice A mm.length cap) := hx.lies.cell 1
    have d0 : wr.cell? ⟨gw, 0, none⟩ = some (.string S') := hx.wr.cell 0
    have hlen := hmid.len
    simp only [bs_length] at hlen
    by_cases h0 : r.size = 0
    · have hr0 : bs r = [] := List.eq_nil_of_length_eq_zero (by rw [bs_length]; exact h0)
      have e1 : r.toList = [] := by rw [bs_toList, hr0]
      have e2 : r.toList.isEmpty = true := by rw [e1]; rfl
      have HPut := Lib.hid (fPut_any ⟨#[0]⟩ hx.wr (by omega) (by decide) (by omega) (by decide))
      have hput : putW 65535 (bs S') 0 (bs (⟨#[0]⟩ : ByteArray)) = ⟨0, bs S' ++ [0], 0⟩ := putW_ok (by rw [bs_length, bs_length]; show S'.size + 1 ≤ _; omega)
      rw [hput] at HPut
      rw [hr0] at hmid
      have HFin := Lib.hid (hmid.nought HGM.out)
      clear hx hmid hk c1 hrk h0 hr0 hput hmm
      go_wp2_with (go_at_call 54; (with_reducible refine HPut.out.mono ?_); rintro e w2 ⟨rfl, hw2, hg2⟩; have hX2 := HX.out.write hw2 hg2; have HX2 := Lib.hid hX2.1; have HK2 := Lib.hid (HK.out.trans hX2.2); clear hw2 hg2 hX2)
      go_ret
      exact ⟨rfl, F', _, _, _, HX2.out, by rw [bs_mk, HMM.out]; exact HFin.out, by omega, HK2.out⟩
    · have hpos : 0 < r.size := by omega
      have hrne : bs r ≠ [] := fun e => by have := congrArg List.length e; rw [bs_length, List.length_nil] at this; omega
      obtain ⟨c, t, hct, hc1, hc2, hc3, hmid'⟩ := hmid.step hrne rfl
      have e1 : ¬ r.toList = [] := by rw [bs_toList]; exact hrne
      have e2 : r.toList.isEmpty = false := by rw [bs_toList, hct]; rfl
      have e3 : (!r.toList.isEmpty) = true := by rw [e2]; rfl
      have hm16 : ∀ m ∈ mm, m.2 < 16384 := fun m hm => by
        rw [hmm] at hm
        rcases List.mem_append.1 hm with hm | hm
        · have := (HGM.out m hm).1
          rw [bs_length] at this
          omega
        · have := (hmid.new m hm).2.1
          rw [bs_length] at this
          omega
      have HKn := Lib.hid (known_any hx hm16 r)
      rcases hkn : knownM mm r with _ | a
      · rw [hkn, show knV none = .int .i64 (-1) from rfl] at HKn
        have hr0 : r[0] = c := by
          obtain ⟨t', h1, _⟩ := bs_cons' hpos
          rw [hct] at h1
          injection h1 with h1
          exact h1.symm
        have hrl : r.size = t.length + 1 := by rw [← bs_length, hct]; simp
        have hc8 := c.toNat_lt
        obtain ⟨x1, hx1⟩ : ∃ x1, r.extract 0 (1 + c.toNat) = x1 := ⟨_, rfl⟩
        obtain ⟨y1, hy1⟩ : ∃ y1, r.extract (1 + c.toNat) r.size = y1 := ⟨_, rfl⟩
        have hx1b : bs x1 = c :: t.take c.toNat := by rw [← hx1, bs_extract, hct, Nat.sub_zero, Nat.add_comm]; rfl
        have hy1b : bs y1 = t.drop c.toNat := by
          rw [← hy1, bs_extract, hct, Nat.add_comm, List.drop_succ_cons, List.take_of_length_le]
          rw [List.length_drop]; omega
        have hx1s : x1.size = 1 + c.toNat := by rw [← bs_length, hx1b, List.length_cons, List.length_take]; omega
        have hy1s : y1.size = t.length - c.toNat := by rw [← bs_length, hy1b, List.length_drop]
        have hq1 : (0 : Int) ≤ 1 + (c.toNat : Int) := by omega
        have hq2 : (1 + (c.toNat : Int)).toNat = 1 + c.toNat := by omega
        have hq3 : 1 + (c.toNat : Int) ≤ (r.size : Int) := by omega
        have hq4 : IntKind.i64.wrap (1 + (c.toNat : Int)) = 1 + (c.toNat : Int) := IntWalk.i64_in _ (by omega)
        have HPut : Hid (∀ wx, WF wx gw 65535 S' 0 → Calls Try.prog 54 #[rp_ gw, .string x1] wx (Wfr wx gw 65535 ⟨0, bs S' ++ bs x1, 0⟩)) := Lib.hid fun wx hwx => by
          have := fPut_any x1 hwx (by omega) (by decide) (by omega) (by omega)
          rw [putW_ok (by rw [bs_length, bs_length]; omega)] at this
          exact this
        obtain ⟨S2, hS2⟩ : ∃ S2 : ByteArray, (⟨(bs S' ++ bs x1).toArray⟩ : ByteArray) = S2 := ⟨_, rfl⟩
        have hS2b : bs S2 = bs S' ++ bs x1 := by rw [← hS2, bs_mk]
        have hS2s : S2.size = S'.size + x1.size := by rw [← bs_length, hS2b, List.length_append, bs_length, bs_length]
        have HS2 := Lib.hid hS2
        rw [← hy1b, ← hx1b, ← hS2b, bs_length] at hmid'
        have HMid2 := Lib.hid hmid'
        have hK1 := Lib.hid hrk
        have HS2s := Lib.hid (show S'.size < S2.size ∧ S2.size ≤ 16384 by omega)
        have hm1 : mm.length + 1 ≤ maxLen := by unfold maxLen; omega
        have hm2 : (mm.length + 1) * 24 ≤ 140737488355328 := by omega
        have hcells : ∀ u ∈ [Value.string r, Value.int .i64 (S'.size : Int)], u.oneCell' = true := fun u hu => by
          rcases List.mem_cons.1 hu with rfl | hu
          · rfl
          · rw [List.mem_singleton.1 hu]; rfl
        have hyr : y1.size < gk := by omega
        clear hx hmid hk hmm hrk h0 hrne hct hm16 hkn hmid' hx1b hy1b hS2 hS2b hrl hx1s hy1s hS2s hlen
        go_wp2_with (go_at_call 52; (with_reducible refine HKn.out.mono ?_); rintro e w' ⟨rfl, rfl⟩)
        go_region_held3 (fun w' => w'.cell? ⟨gp, 0, none⟩ = some (.pointer (some ⟨gw, 0, none⟩))) (first | go_keep | exact HX2.out.lies.cell 0) (first | (go_at_call 54; (with_reducible refine (HPut.out _ ?_).mono ?_); exact HX.out.wr; rintro e w2 ⟨rfl, hw2, hg2⟩; have hX2 := (HX.out.drewN 1).write (w' := w2) hw2 hg2; rw [HS2.out] at hX2; have HX2 := Lib.hid hX2.1; have HK2 := Lib.hid hX2.2; clear hw2 hg2 hX2))
        all_goals
          have c2 : w2.cell? ⟨gp, 1, none⟩ = some (.slice A mm.length cap) := HX2.out.lies.cell 1
          have hbl2 : base ≤ (w2.alloc (.cells #[.string r, .int .i64 S'.size] 89)).heap.size := le_alloc HX2.out.base_le _
          go_wp2_with (first | (at_builtin; refine wpList_append_own_at _ rfl (.tmp 71) (.tmp 75) 54 rfl base 89 i0 (.agg #[.string ⟨#[]⟩, .int .i64 0]) 2 24 Try.underlying54 hi hz0 hz1 hz2 rfl (by decide) (.slice A mm.length cap) mm.length (cellsM mm) rfl (World.ownsRow.alloc HX2.out.mrk _) ⟨w2.heap.size, 0, none⟩ 1 1 [.string r, .int .i64 S'.size] rfl rfl (cells_two _ _ _ _) hcells hm1 hm2 hbl2 ?_; intro v5 w5 hown5 hg5 hnil5 hob5; have ho5 : OwnM w5 base v5 (mm ++ [(r, S'.size)]) := own_mark hown5; have hmk := HX2.out.marked ho5 (grown_alloc hg5) (hob5.imp id fun e k hk => by rw [e] at hk; injection hk with hk; simp at hk; omega); obtain ⟨A5, cap5, rfl, _⟩ := ho5.shape; have HX3 := Lib.hid hmk.1; have HK3 := Lib.hid hmk.2; have hL5 := HX2.out.lies.grown (grown_alloc hg5) (fun e => (HX2.out.ne_m e.symm).1 rfl); have c5 := hL5.cell 1; have f5 := hL5.free 1; clear hown5 hg5 hnil5 hob5 ho5 hmk hL5))
          go_roundg y1.size
          case measure => exact hyr
          case rel =>
            have e : (mm ++ [(r, S'.size)]).length = mm.length + 1 := by simp
            rw [e] at HX3 HK3
            exact ⟨y1, S2, nw ++ [(r, S'.size)], mm ++ [(r, S'.size)], _, _, by rw [HMM.out, List.append_assoc], rfl, rfl, HX3.out, HMid2.out, by rw [e]; have := HS2s.out; omega, HK.out.trans ((kf_drewN HK2.out).trans HK3.out)⟩
      · rw [hkn, show knV (some a) = .int .i64 a from rfl] at HKn
        have ha : a < 16384 := hm16 _ (knownM_some hkn)
        obtain ⟨v, hv⟩ : ∃ v : Nat, (49152 : Int) + (a : Int) = (v : Int) := ⟨49152 + a, by omega⟩
        have hva : 49152 + a = v := by omega
        have hz : decide ((0 : Int) ≤ (a : Int)) = true := by simp
        have HNum := Lib.hid (fNumberW_any v 2 hx.wr (by omega) (by omega) (by decide) (by omega))
        have hroom : room v 2 = true := by
          unfold room
          rw [show isW 2 = true from rfl]
          simp
          omega
        rw [numW_put hroom, putW_ok (by rw [bs_length, octs_length]; show S'.size + 2 ≤ 65535; omega)] at HNum
        have hfin := hmid.point HGM.out hrne rfl (by rw [← hmm]; exact hkn) ha
        rw [hva] at hfin
        have HFin := Lib.hid hfin
        clear hx hmid hk hmm c1 d0 hrk h0 hrne hct hm16 hkn hmid' hfin hva hc1 hc2 hc3 hroom
        go_wp2_with (first | (go_at_call 52; (with_reducible refine HKn.out.mono ?_); rintro e w' ⟨rfl, rfl⟩) | (go_at_call 53; (with_reducible refine HNum.out.mono ?_); rintro e w2 ⟨rfl, hw2, hg2⟩; have hX2 := HX.out.write hw2 hg2; have HX2 := Lib.hid hX2.1; have HK2 := Lib.hid (HK.out.trans hX2.2); clear hw2 hg2 hX2))
        go_ret
        exact ⟨rfl, F', _, _, _, HX2.out, by rw [bs_mk, HMM.out]; exact HFin.out, by omega, HK2.out⟩
end
end Go.Proofs.Ytlpgoeigcccmhaa
