/-
  header.Put: the walk. The header's ID is one that its type bears.
-/
import Derived.Test.YtjedfgflkhchiaaHdWd
namespace Go.Proofs.Ytjedfgflkhchiaa
open Go.RowKit
set_option linter.unusedVariables false

theorem six_0 (a b : Nat) (c d e f : Nat) (w : World) : (Instr.index 45 (.agg (wcs a b c d e f)) (.int .i64 0)).run Try.prog w = .ok (.int .u32 a) w := by kernel_rfl
theorem six_1 (a b : Nat) (c d e f : Nat) (w : World) : (Instr.index 45 (.agg (wcs a b c d e f)) (.int .i64 1)).run Try.prog w = .ok (.int .u32 b) w := by kernel_rfl
theorem six_2 (a b : Nat) (c d e f : Nat) (w : World) : (Instr.index 45 (.agg (wcs a b c d e f)) (.int .i64 2)).run Try.prog w = .ok (.int .u32 c) w := by kernel_rfl
theorem six_3 (a b : Nat) (c d e f : Nat) (w : World) : (Instr.index 45 (.agg (wcs a b c d e f)) (.int .i64 3)).run Try.prog w = .ok (.int .u32 d) w := by kernel_rfl
theorem six_4 (a b : Nat) (c d e f : Nat) (w : World) : (Instr.index 45 (.agg (wcs a b c d e f)) (.int .i64 4)).run Try.prog w = .ok (.int .u32 e) w := by kernel_rfl
theorem six_5 (a b : Nat) (c d e f : Nat) (w : World) : (Instr.index 45 (.agg (wcs a b c d e f)) (.int .i64 5)).run Try.prog w = .ok (.int .u32 f) w := by kernel_rfl
/-- The octets of the first k words. -/
def ocK (h : Hd) (k : Nat) : List UInt8 := ((wds h).take k).flatMap fun v => octs v 2
theorem wds_lt {h : Hd} (m : h.may) (hid : h.id < 65536) (k v : Nat) (hk : (wds h)[k]? = some v) : v < 65536 := by
  have h1 := fW_lt m 7
  obtain ⟨_, _, ⟨_, _⟩, ⟨_, _⟩, ⟨_, _⟩, ⟨_, _⟩⟩ := m
  have hv : v ∈ wds h := List.mem_of_getElem? hk
  simp only [wds, List.mem_cons, List.not_mem_nil, or_false] at hv
  rcases hv with rfl | rfl | rfl | rfl | rfl | rfl <;> first | exact hid | exact h1 | omega
theorem ocK_step {h : Hd} {k : Nat} (hk : k < (wds h).length) : ocK h (k + 1) = ocK h k ++ octs ((wds h)[k]) 2 := by
  unfold ocK
  rw [List.take_succ_eq_append_getElem hk, List.flatMap_append]
  simp
theorem ocK_len (h : Hd) : ∀ k, k ≤ 6 → (ocK h k).length = 2 * k := by
  intro k
  induction k with
  | zero => intro _; rfl
  | succ k ih => intro hk; rw [ocK_step (by simp [wds]; omega), List.length_append, octs_length, ih (by omega)]; omega
theorem ocK_all (h : Hd) : ocK h 6 = ocH h := by simp [ocK, wds, ocH]
theorem numW_two {l : List UInt8} {v : Nat} (hv : v < 65536) (hl : l.length + 2 ≤ 12) : numW 12 l 0 v 2 = ⟨0, l ++ octs v 2, 0⟩ := by
  unfold numW
  rw [if_neg (by omega), if_neg (by simp [room, isW, hv])]
  exact putW_ok (by rw [octs_length]; exact hl)
/-- The relation of Put's loop. -/
structure PtRel (h : Hd) (w wr : World) (g k : Nat) : Prop where
  row : WR wr g g 12 (ocK h k) 0
  below : Below w.heap.size w wr
  ge : w.heap.size ≤ g
theorem PtRel.step {h : Hd} {w wr w' : World} {g k v : Nat} (r : PtRel h w wr g k) (hk : k < 6) (hx : (wds h)[k]? = some v) (hW : WR w' g g 12 (ocK h k ++ octs v 2) 0) (hk' : Kp g g wr w') : PtRel h w w' g (k + 1) := by
  obtain ⟨h1, h2⟩ := List.getElem?_eq_some_iff.1 hx
  refine ⟨?_, r.below.trans (hk'.below.mono r.ge), r.ge⟩
  rw [ocK_step h1, h2]
  exact hW
theorem num_two {g v : Nat} {l : List UInt8} {w : World} (h : WR w g g 12 l 0) (hv : v < 65536) (hl : l.length + 2 ≤ 12) :
    Calls Try.prog 23 #[.pointer (some ⟨g, 0, none⟩), .int .u32 v, .int .i64 2] w (Wtr w g g 12 (l ++ octs v 2) 0 (.int .i64 0)) := by
  have := wNumber_any v 2 h (by omega) (Nat.le_refl _) (by omega) (by decide) (by omega)
  rw [numW_two hv hl] at this
  exact this
set_option maxHeartbeats 2000000 in
theorem Put_any (h : Hd) (hid : h.id < 65536) (w : World) :
    Calls Try.prog 11 #[hv h] w fun e w' => e = .returned (.tuple #[.string ⟨(ptV h).toArray⟩, .int .i64 (chkH h)]) ∧ Below w.heap.size w w' := by
  have HK := Lib.hid (Check_any h)
  rcases hm : mayB h with _ | _
  · have HE : Hid (ptV h = []) := Lib.hid (by unfold ptV; rw [hm]; rfl)
    rw [chkH_bad hm] at HK ⊢
    unfold hv at HK ⊢
    go_enter Try.func11, Try.ntmps11
    go_wp2_with (go_at_call 13; refine (HK.out _).mono ?_; rintro e w1 ⟨rfl, hb⟩; have HB := Lib.hid hb; clear hb)
    go_ret2
    exact ⟨by rw [HE.out]; rfl, ((Below.refl _ _).alloc (Nat.le_refl _) _).trans (HB.out.mono (by simp))⟩
  · have m := mayB_yes.1 hm
    have HE : Hid (ptV h = ocH h) := Lib.hid (by unfold ptV; rw [hm]; rfl)
    have HW := Lib.hid (wordsOf_any h m hid)
    have HL := Lib.hid (fun k v hk => wds_lt m hid k v hk)
    rw [chkH_ok m] at HK ⊢
    have HNW := Lib.hid (fun wx => NewWriter_any 12 wx (by decide))
    obtain ⟨f, c0, c1, c2, c3, hwd, hwc⟩ : ∃ f c0 c1 c2 c3, wds h = [h.id, f, c0, c1, c2, c3] ∧ wcs h.id (fwd h) h.n0.toNat h.n1.toNat h.n2.toNat h.n3.toNat = wcs h.id f c0 c1 c2 c3 := ⟨_, _, _, _, _, rfl, rfl⟩
    rw [hwc] at HW
    have HWD := Lib.hid hwd
    clear hwd hwc
    have I0 := six_0 h.id f c0 c1 c2 c3
    have I1 := six_1 h.id f c0 c1 c2 c3
    have I2 := six_2 h.id f c0 c1 c2 c3
    have I3 := six_3 h.id f c0 c1 c2 c3
    have I4 := six_4 h.id f c0 c1 c2 c3
    have I5 := six_5 h.id f c0 c1 c2 c3
    clear m hm hid
    unfold hv at HK HW ⊢
    go_enter Try.func11, Try.ntmps11
    -- LOOP
    go_wp2_with (first | (go_at_call 13; refine (HK.out _).mono ?_; rintro e w1 ⟨rfl, hb⟩; have HB := Lib.hid (((Below.refl w.heap.size w).alloc (Nat.le_refl _) _).trans (hb.mono (by simp))); have HL1 := Lib.hid ((Lies.new w 26 (hcs h)).next hb); clear hb) | (go_at_call 21; refine (HNW.out _).mono ?_; rintro e w2 ⟨rfl, hwr, _, hb⟩; have HB2 := Lib.hid hb; have HWR := Lib.hid hwr; have hl2 := HL1.out.next hb; clear hb hwr) | (refine wpList_load_row rfl _ _ rfl _ rfl _ (hcs h) (0, 0) _ hl2 Try.underlying26 rfl (by kernel_rfl) ?_) | (go_at_call 22; refine (HW.out _).mono ?_; rintro e w3 ⟨rfl, hb⟩; have HB3 := Lib.hid hb; clear hb))
    have HR0 : Hid (PtRel h w w3 w1.heap.size 0) := Lib.hid ⟨HWR.out.next HB3.out, HB.out.trans ((HB2.out.trans (HB3.out.mono HB2.out.size)).mono HB.out.size), HB.out.size⟩
    clear HB HB2 HB3 HWR hl2 HL1 HK HW HNW
    obtain ⟨g, hg⟩ : ∃ g, g = w1.heap.size := ⟨_, rfl⟩
    rw [← hg] at HR0 ⊢
    clear hg
    go_loopw [17] (fun i wr => ∃ k : Nat, i = .int .i64 k ∧ k ≤ 6 ∧ PtRel h w wr g k) (fun i _ => 6 - (intOf i).toNat)
    case atStart => exact ⟨0, rfl, by omega, HR0.out⟩
    case round =>
      clear HR0
      obtain ⟨k, rfl, hk, hr⟩ := hrel
      have HR := Lib.hid hr
      clear hr
      rcases Nat.lt_or_ge k 6 with hlt | hge
      · obtain rfl | rfl | rfl | rfl | rfl | rfl : k = 0 ∨ k = 1 ∨ k = 2 ∨ k = 3 ∨ k = 4 ∨ k = 5 := by omega
        · have HX : Hid ((wds h)[0]? = some h.id) := Lib.hid (by rw [HWD.out]; rfl)
          have HN := Lib.hid (num_two (v := h.id) HR.out.row (HL.out _ _ HX.out) (by rw [ocK_len h 0 (by omega)]; omega))
          go_wp2_with (go_at_call 23; (with_reducible refine HN.out.mono ?_); rintro e w' ⟨rfl, hwr, hkp⟩; have HWR := Lib.hid hwr; have HKP := Lib.hid hkp; clear hwr hkp)
          go_roundw
          case rel => exact ⟨0 + 1, rfl, by omega, HR.out.step (by omega) HX.out HWR.out HKP.out⟩
          case measure => simp [intOf]
        · have HX : Hid ((wds h)[1]? = some f) := Lib.hid (by rw [HWD.out]; rfl)
          have HN := Lib.hid (num_two (v := f) HR.out.row (HL.out _ _ HX.out) (by rw [ocK_len h 1 (by omega)]; omega))
          go_wp2_with (go_at_call 23; (with_reducible refine HN.out.mono ?_); rintro e w' ⟨rfl, hwr, hkp⟩; have HWR := Lib.hid hwr; have HKP := Lib.hid hkp; clear hwr hkp)
          go_roundw
          case rel => exact ⟨1 + 1, rfl, by omega, HR.out.step (by omega) HX.out HWR.out HKP.out⟩
          case measure => simp [intOf]
        · have HX : Hid ((wds h)[2]? = some c0) := Lib.hid (by rw [HWD.out]; rfl)
          have HN := Lib.hid (num_two (v := c0) HR.out.row (HL.out _ _ HX.out) (by rw [ocK_len h 2 (by omega)]; omega))
          go_wp2_with (go_at_call 23; (with_reducible refine HN.out.mono ?_); rintro e w' ⟨rfl, hwr, hkp⟩; have HWR := Lib.hid hwr; have HKP := Lib.hid hkp; clear hwr hkp)
          go_roundw
          case rel => exact ⟨2 + 1, rfl, by omega, HR.out.step (by omega) HX.out HWR.out HKP.out⟩
          case measure => simp [intOf]
        · have HX : Hid ((wds h)[3]? = some c1) := Lib.hid (by rw [HWD.out]; rfl)
          have HN := Lib.hid (num_two (v := c1) HR.out.row (HL.out _ _ HX.out) (by rw [ocK_len h 3 (by omega)]; omega))
          go_wp2_with (go_at_call 23; (with_reducible refine HN.out.mono ?_); rintro e w' ⟨rfl, hwr, hkp⟩; have HWR := Lib.hid hwr; have HKP := Lib.hid hkp; clear hwr hkp)
          go_roundw
          case rel => exact ⟨3 + 1, rfl, by omega, HR.out.step (by omega) HX.out HWR.out HKP.out⟩
          case measure => simp [intOf]
        · have HX : Hid ((wds h)[4]? = some c2) := Lib.hid (by rw [HWD.out]; rfl)
          have HN := Lib.hid (num_two (v := c2) HR.out.row (HL.out _ _ HX.out) (by rw [ocK_len h 4 (by omega)]; omega))
          go_wp2_with (go_at_call 23; (with_reducible refine HN.out.mono ?_); rintro e w' ⟨rfl, hwr, hkp⟩; have HWR := Lib.hid hwr; have HKP := Lib.hid hkp; clear hwr hkp)
          go_roundw
          case rel => exact ⟨4 + 1, rfl, by omega, HR.out.step (by omega) HX.out HWR.out HKP.out⟩
          case measure => simp [intOf]
        · have HX : Hid ((wds h)[5]? = some c3) := Lib.hid (by rw [HWD.out]; rfl)
          have HN := Lib.hid (num_two (v := c3) HR.out.row (HL.out _ _ HX.out) (by rw [ocK_len h 5 (by omega)]; omega))
          go_wp2_with (go_at_call 23; (with_reducible refine HN.out.mono ?_); rintro e w' ⟨rfl, hwr, hkp⟩; have HWR := Lib.hid hwr; have HKP := Lib.hid hkp; clear hwr hkp)
          go_roundw
          case rel => exact ⟨5 + 1, rfl, by omega, HR.out.step (by omega) HX.out HWR.out HKP.out⟩
          case measure => simp [intOf]
      · obtain rfl : k = 6 := by omega
        have HT := Lib.hid (wText_any HR.out.row)
        rw [ocK_all] at HT
        go_wp2_with (go_at_call 24; refine HT.out.mono ?_; rintro e w' ⟨rfl, rfl⟩)
        go_ret2
        exact ⟨by rw [HE.out]; rfl, HR.out.below⟩
end Go.Proofs.Ytjedfgflkhchiaa
