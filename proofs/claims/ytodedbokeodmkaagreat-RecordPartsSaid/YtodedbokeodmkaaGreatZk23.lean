/-
  What a packer's Name and Plain answer: the walks. Conditions: as each theorem names them.
-/
import Derived.Test.YtodedbokeodmkaaGreatZk22
namespace Go.Proofs.YtodedbokeodmkaaGreat
open Go.RowKit Go.Maps
set_option linter.unusedVariables false
set_option maxRecDepth 100000

def strLen : Value → Nat
  | .string s => s.size
  | _ => 0
section
variable {ops : Array Oper} {rest : List Oper} {o : Oper} {a : Act} {Q : Exit → Act → World → Prop}
theorem wpList_look_yes (w : World) (hg : o.guard = none) (mm x : Operand) (hop : o.op = Op.lookup 70 mm x true) (b n : Nat) (m : List UInt8 → Option Nat) (hm : a.eval mm = .map (some b)) (h : MapIs w b n m)
    (s : ByteArray) (hx : a.eval x = .string s) (hs : s.size ≤ maxLen) (c : Nat) (hr : m (bs s) = some c)
    (hK : wpList Tryz.prog ops Q rest (a.put o.dst (.tuple #[.int .i64 c, .bool true])) w) : wpList Tryz.prog ops Q (o :: rest) a w :=
  wpList_look w hg mm x hop b n m hm h s hx hs (some c) hr hK
theorem wpList_look_no (w : World) (hg : o.guard = none) (mm x : Operand) (hop : o.op = Op.lookup 70 mm x true) (b n : Nat) (m : List UInt8 → Option Nat) (hm : a.eval mm = .map (some b)) (h : MapIs w b n m)
    (s : ByteArray) (hx : a.eval x = .string s) (hs : s.size ≤ maxLen) (hr : m (bs s) = none)
    (hK : wpList Tryz.prog ops Q rest (a.put o.dst (.tuple #[.int .i64 0, .bool false])) w) : wpList Tryz.prog ops Q (o :: rest) a w :=
  wpList_look w hg mm x hop b n m hm h s hx hs none hr hK
end

section
variable {w : World} {base g M : Nat} {F : Nat → Prop} {s : PS}
theorem PKx.wputx {gw gm n : Nat} {sv : Value} (h : PKx w base F g gw gm n sv M s) (x : ByteArray) (hs : x.size ≤ 1099511627776) :
    Calls Tryz.prog 106 #[.pointer (some ⟨gw, 0, none⟩), .string x] w fun e w' => e = .returned (.int .i64 (putS M s (bs x)).1) ∧ ∃ F', PKx w' base F' g gw gm n sv M (putS M s (bs x)).2 ∧ Kf base F F' w w' := by
  have h1 := h.inv.le
  have h2 := h.inv.most
  refine (wPut_any x h.wr h.bw h1 (by omega) (by omega) hs).mono ?_
  rintro e w' ⟨rfl, hw, hk⟩
  obtain ⟨a, b⟩ := h.writer hw hk (putW_grow ..) (h.inv.put (bs x))
  exact ⟨rfl, _, a, b⟩
theorem nameS_err (x : List UInt8) (h : refN s x ≠ 0) : nameS M s x = (refN s x, s) ∧ plainS M s x = (refN s x, s) := by
  by_cases hf : s.f = 0
  · have h' : chkN x ≠ 0 := by simpa [refN, hf] using h
    simp [nameS, plainS, refN, hf, h']
  · simp [nameS, plainS, refN, hf]
theorem nameS_run (x : List UInt8) (h : refN s x = 0) : nameS M s x = nameF M (x.length + 1) x s ∧ plainS M s x = plainF M (x.length + 1) x s ∧ chkN x = 0 ∧ s.f = 0 := by
  by_cases hf : s.f = 0
  · have h' : chkN x = 0 := by simpa [refN, hf] using h
    simp [nameS, plainS, hf, h']
  · simp [refN, hf] at h
def NmRel (w : World) (base : Nat) (F : Nat → Prop) (g M : Nat) (K0 : Nat × PS) (v : Value) (wr : World) : Prop :=
  ∃ (r : ByteArray) (k : Nat) (s' : PS) (F' : Nat → Prop), v = .string r ∧ r.size < k ∧ Labs (bs r) ∧ r.size ≤ 254 ∧ PK wr base F' g M s' ∧ Kf base F F' w wr ∧ nameF M k (bs r) s' = K0
def PnRel (w : World) (base : Nat) (F : Nat → Prop) (g M : Nat) (K0 : Nat × PS) (v : Value) (wr : World) : Prop :=
  ∃ (r : ByteArray) (k : Nat) (s' : PS) (F' : Nat → Prop), v = .string r ∧ r.size < k ∧ Labs (bs r) ∧ r.size ≤ 254 ∧ PK wr base F' g M s' ∧ Kf base F F' w wr ∧ plainF M k (bs r) s' = K0
theorem bs_nil_size {r : ByteArray} (h : r.size = 0) : bs r = [] := List.eq_nil_of_length_eq_zero (by rw [bs_length]; exact h)
theorem bs_ne {r : ByteArray} (h : 0 < r.size) : bs r ≠ [] := fun e => by
  have := bs_length r
  rw [e] at this
  simp at this
  omega

set_option maxHeartbeats 1000000 in
theorem pPlain_any (h : PK w base F g M s) (x : ByteArray) (hs : x.size ≤ maxLen) :
    Calls Tryz.prog 200 #[pp g, .string x] w (Pkr w base F g M (plainS M s (bs x)).2 (.int .i64 (plainS M s (bs x)).1)) := by
  have HR := Lib.hid (prefusal_any h x hs)
  have hbl := h.base_le
  have HP := Lib.hid h
  clear h
  by_cases hz : refN s (bs x) = 0
  · obtain ⟨_, hv, hc, _⟩ := nameS_run (M := M) (bs x) hz
    rw [hv]
    obtain ⟨K0, hK0⟩ : ∃ K0, plainF M ((bs x).length + 1) (bs x) s = K0 := ⟨_, rfl⟩
    rw [hK0]
    have hx254 := (chkN_iff.1 hc).1
    rw [bs_length] at hK0 hx254
    have HL0 := Lib.hid (labs_of_chk hc)
    have HK0 := Lib.hid hK0
    rw [hz] at HR
    clear hz hv hc hK0
    go_enter Tryz.func200, Tryz.ntmps200
    go_wp2_with (go_at_call 103; (with_reducible refine HR.out.mono ?_); rintro e w1 ⟨rfl, hb1⟩; have HB1 := Lib.hid hb1; clear hb1)
    go_loopw [6] (fun v wr => PnRel w base F g M K0 v wr) (fun v _ => strLen v)
    case atStart => exact ⟨x, x.size + 1, s, F, rfl, by omega, HL0.out, hx254, HP.out.next HB1.out, Kf.of_below HB1.out hbl, HK0.out⟩
    case round =>
      obtain ⟨r, k, s', F', rfl, hk, hlb, hr254, hp, hkf, hre⟩ := hrel
      obtain ⟨k, rfl⟩ : ∃ j, k = j + 1 := ⟨k - 1, by omega⟩
      obtain ⟨gw, gm, n, sv, hx⟩ := hp
      have hcw := hx.cw
      have HX := Lib.hid hx
      have HKF := Lib.hid hkf
      clear hx hkf
      rcases Nat.eq_zero_or_pos r.size with h0 | h0
      · have e1 := empty_yes h0
        rw [bs_nil_size h0, plainF_nil] at hre
        have HPut : Hid (Calls Tryz.prog 106 #[.pointer (some ⟨gw, 0, none⟩), .string ⟨#[0]⟩] wr (Pkr wr base F' g M K0.2 (.int .i64 K0.1))) := Lib.hid (by
          have := HX.out.wput ⟨#[0]⟩ (by decide)
          rw [show bs ⟨#[0]⟩ = [0] from rfl, hre] at this
          exact this)
        clear hlb hre h0 hk
        go_wp2_with (go_at_call 106; (with_reducible refine HPut.out.mono ?_); rintro e w2 ⟨rfl, F2, hp2, hk2⟩; have HP2 := Lib.hid hp2; have HK2 := Lib.hid hk2; clear hp2 hk2)
        go_ret
        exact ⟨rfl, _, HP2.out, HKF.out.trans HK2.out⟩
      · obtain ⟨e1, e2⟩ := empty_no h0
        obtain ⟨c, t, hct, hc1, hc2, hc3, hlb'⟩ := hlb.step (bs_ne h0)
        have HLB := Lib.hid hlb'
        have hrl := rest_lt (bs_ne h0)
        obtain ⟨x1, hx1⟩ : ∃ x1 : ByteArray, bs x1 = headN (bs r) := ⟨⟨(headN (bs r)).toArray⟩, bs_mk _⟩
        obtain ⟨y1, hy1⟩ : ∃ y1 : ByteArray, bs y1 = restN (bs r) := ⟨⟨(restN (bs r)).toArray⟩, bs_mk _⟩
        have HC := Lib.hid (pcut_any r wr c t hct hc3 (by omega) x1 y1 hx1 hy1)
        rw [← hy1, bs_length, bs_length] at hrl
        rw [← hy1] at HLB
        have hx1s : x1.size ≤ 1099511627776 := by
          have := congrArg List.length hx1
          rw [bs_length] at this
          have h2 : (headN (bs r)).length ≤ (bs r).length := by unfold headN; rw [List.length_take]; exact Nat.min_le_right _ _
          rw [bs_length] at h2
          omega
        have HPut := Lib.hid fun w1 hb1 => (HX.out.next (w' := w1) hb1).wput x1 hx1s
        rw [hx1] at HPut
        by_cases hz : (putS M s' (headN (bs r))).1 = 0
        · rw [plainF_next (bs_ne h0) hz, ← hy1] at hre
          obtain ⟨q, hq⟩ : ∃ q, putS M s' (headN (bs r)) = q := ⟨_, rfl⟩
          rw [hq] at HPut hz hre
          rw [hz] at HPut
          have HRE := Lib.hid hre
          clear hre hq hz hct hlb hlb' hx1 hy1 hc1 hc2 hc3
          go_wp2_with (first | (go_at_call 105; (with_reducible refine HC.out.mono ?_); rintro e w2 ⟨rfl, hb2⟩; have HB2 := Lib.hid hb2; have hcw2 := (HX.out.next hb2).cw; clear hb2) | (go_at_call 106; (with_reducible refine (HPut.out _ HB2.out).mono ?_); rintro e w3 ⟨rfl, F3, hp3, hk3⟩; have HP3 := Lib.hid hp3; have HK3 := Lib.hid hk3; clear hp3 hk3))
          go_roundw
          case rel => exact ⟨y1, k, q.2, F3, rfl, by omega, HLB.out, by omega, HP3.out, HKF.out.trans ((Kf.of_below HB2.out HX.out.base_le).trans HK3.out), HRE.out⟩
          case measure => exact hrl
        · rw [plainF_long (bs_ne h0) hz] at hre
          rw [hre] at HPut hz
          have hne : ((K0.1 : Int) != 0) = true := by rw [bne_iff_ne]; omega
          clear hre hz hct hlb hlb' hx1 hy1 hc1 hc2 hc3
          go_wp2_with (first | (go_at_call 105; (with_reducible refine HC.out.mono ?_); rintro e w2 ⟨rfl, hb2⟩; have HB2 := Lib.hid hb2; have hcw2 := (HX.out.next hb2).cw; clear hb2) | (go_at_call 106; (with_reducible refine (HPut.out _ HB2.out).mono ?_); rintro e w3 ⟨rfl, F3, hp3, hk3⟩; have HP3 := Lib.hid hp3; have HK3 := Lib.hid hk3; clear hp3 hk3))
          go_ret
          exact ⟨rfl, _, HP3.out, HKF.out.trans ((Kf.of_below HB2.out HX.out.base_le).trans HK3.out)⟩
  · rw [(nameS_err (M := M) (bs x) hz).2]
    have hne : ((refN s (bs x) : Int) != 0) = true := by rw [bne_iff_ne]; omega
    clear hz
    go_enter Tryz.func200, Tryz.ntmps200
    go_wp2_with (go_at_call 103; (with_reducible refine HR.out.mono ?_); rintro e w1 ⟨rfl, hb1⟩; have HB1 := Lib.hid hb1; clear hb1)
    go_ret
    exact ⟨rfl, F, HP.out.next HB1.out, Kf.of_below HB1.out hbl⟩
end
end Go.Proofs.YtodedbokeodmkaaGreat
