/-
  The document's own answer for headers: Put: the walk. The header's ID is one that its type bears.
-/
import Derived.Test.YtjedfgflkhchiaaHdRefA
import Derived.Test.YtjedfgflkhchiaaOcRefW
import Derived.Test.YtjedfgflkhchiaaQui
import Derived.Deep.DeepCutAuto
namespace Go.Proofs.Ytjedfgflkhchiaa
open Go.RowKit
set_option linter.unusedVariables false

theorem wrap32 (x : Int) (n : Nat) (h : x = n) (hn : n < 4294967296) : IntKind.u32.wrap x = n := by
  subst h
  exact IntWalk.u32_in _ (by omega)
/-- What holds behind k words. -/
structure FpRel (h : Hd) (w wr : World) (g k : Nat) : Prop where
  wf : WF wr g 12 ⟨(ocK h k).toArray⟩ 0
  hd : Lies wr w.heap.size 26 (hcs h)
  below : Below w.heap.size w wr
  ge : w.heap.size < g
theorem FpRel.num {h : Hd} {w wr : World} {g k v : Nat} (r : FpRel h w wr g k) (hk : k < 6) (hx : (wds h)[k]? = some v) (hv : v < 65536) :
    Calls Try.prog 28 #[.pointer (some ⟨g, 0, none⟩), .int .u32 v, .int .i64 2] wr fun e w' => e = .returned (.int .i64 0) ∧ FpRel h w w' g (k + 1) := by
  have hl := ocK_len h k (by omega)
  have hs : (⟨(ocK h k).toArray⟩ : ByteArray).size = 2 * k := by rw [tosize, hl]
  have h1 := fNumberW_any v 2 r.wf (by omega) (by omega) (by decide) (by omega)
  rw [bs_mk, numW_two hv (by omega)] at h1
  refine h1.mono fun e w' hh => ?_
  obtain ⟨he, hW, hg⟩ := hh
  obtain ⟨p1, p2⟩ := List.getElem?_eq_some_iff.1 hx
  refine ⟨he, ?_, r.hd.grown hg (by have := r.ge; simp; omega), r.below.grown hg r.below.size (fun j hj => by injection hj with hj; have := r.ge; omega), r.ge⟩
  rw [ocK_step p1, p2]
  exact hW
set_option maxHeartbeats 1000000 in
theorem fPut_no (h : Hd) (w : World) (hm : mayB h = false) :
    Calls Try.prog 14 #[hv h] w fun e w' => e = .returned (.tuple #[.string ⟨#[]⟩, .int .i64 2]) ∧ Below w.heap.size w w' := by
  have HK := Lib.hid (fCheck_any h)
  rw [chkH_bad hm] at HK
  unfold hv at HK ⊢
  go_enter Try.func14, Try.ntmps14
  go_wp2_with (go_at_call 16; refine (HK.out _).mono ?_; rintro e w1 ⟨rfl, hb⟩; have HB := Lib.hid hb; clear hb)
  go_ret2
  exact ⟨rfl, ((Below.refl _ _).alloc (Nat.le_refl _) _).trans (HB.out.mono (by simp))⟩
set_option maxHeartbeats 2000000 in
theorem fPut_yes (h : Hd) (hid : h.id < 65536) (w : World) (hm : mayB h = true) :
    Calls Try.prog 14 #[hv h] w fun e w' => e = .returned (.tuple #[.string ⟨(ocH h).toArray⟩, .int .i64 0]) ∧ Below w.heap.size w w' := by
  have HK := Lib.hid (fCheck_any h)
  have m := mayB_yes.1 hm
  rw [chkH_ok m] at HK
  have HLn := Lib.hid (Lies.new w 26 (hcs h))
  obtain ⟨g0, hg0⟩ : ∃ g, g = fl h.re 32768 := ⟨_, rfl⟩
  have F0 : Hid (∀ wx : World, Calls Try.prog 26 #[.bool h.re, .int .u64 15] wx fun e w' => e = .returned (.int .u32 g0) ∧ wx = w') := Lib.hid (fun wx => by rw [hg0]; exact flag_any h.re 15 wx (by omega))
  have k0 : g0 ≤ 32768 := by rw [hg0]; exact fl_le _ _
  obtain ⟨g1, hg1⟩ : ∃ g, g = fl h.aa 1024 := ⟨_, rfl⟩
  have F1 : Hid (∀ wx : World, Calls Try.prog 26 #[.bool h.aa, .int .u64 10] wx fun e w' => e = .returned (.int .u32 g1) ∧ wx = w') := Lib.hid (fun wx => by rw [hg1]; exact flag_any h.aa 10 wx (by omega))
  have k1 : g1 ≤ 1024 := by rw [hg1]; exact fl_le _ _
  obtain ⟨g2, hg2⟩ : ∃ g, g = fl h.tc 512 := ⟨_, rfl⟩
  have F2 : Hid (∀ wx : World, Calls Try.prog 26 #[.bool h.tc, .int .u64 9] wx fun e w' => e = .returned (.int .u32 g2) ∧ wx = w') := Lib.hid (fun wx => by rw [hg2]; exact flag_any h.tc 9 wx (by omega))
  have k2 : g2 ≤ 512 := by rw [hg2]; exact fl_le _ _
  obtain ⟨g3, hg3⟩ : ∃ g, g = fl h.rd 256 := ⟨_, rfl⟩
  have F3 : Hid (∀ wx : World, Calls Try.prog 26 #[.bool h.rd, .int .u64 8] wx fun e w' => e = .returned (.int .u32 g3) ∧ wx = w') := Lib.hid (fun wx => by rw [hg3]; exact flag_any h.rd 8 wx (by omega))
  have k3 : g3 ≤ 256 := by rw [hg3]; exact fl_le _ _
  obtain ⟨g4, hg4⟩ : ∃ g, g = fl h.ra 128 := ⟨_, rfl⟩
  have F4 : Hid (∀ wx : World, Calls Try.prog 26 #[.bool h.ra, .int .u64 7] wx fun e w' => e = .returned (.int .u32 g4) ∧ wx = w') := Lib.hid (fun wx => by rw [hg4]; exact flag_any h.ra 7 wx (by omega))
  have k4 : g4 ≤ 128 := by rw [hg4]; exact fl_le _ _
  obtain ⟨g5, hg5⟩ : ∃ g, g = fl h.ad 32 := ⟨_, rfl⟩
  have F5 : Hid (∀ wx : World, Calls Try.prog 26 #[.bool h.ad, .int .u64 5] wx fun e w' => e = .returned (.int .u32 g5) ∧ wx = w') := Lib.hid (fun wx => by rw [hg5]; exact flag_any h.ad 5 wx (by omega))
  have k5 : g5 ≤ 32 := by rw [hg5]; exact fl_le _ _
  obtain ⟨g6, hg6⟩ : ∃ g, g = fl h.cd 16 := ⟨_, rfl⟩
  have F6 : Hid (∀ wx : World, Calls Try.prog 26 #[.bool h.cd, .int .u64 4] wx fun e w' => e = .returned (.int .u32 g6) ∧ wx = w') := Lib.hid (fun wx => by rw [hg6]; exact flag_any h.cd 4 wx (by omega))
  have k6 : g6 ≤ 16 := by rw [hg6]; exact fl_le _ _
  have hfw : fwd h = g0 + 2048 * h.op.toNat + g1 + g2 + g3 + g4 + g5 + g6 + h.rc.toNat := by rw [hg0, hg1, hg2, hg3, hg4, hg5, hg6]; rfl
  have hlt : fwd h < 65536 := fW_lt m 7
  obtain ⟨⟨o1, o2⟩, ⟨r1, r2⟩, ⟨n0, m0⟩, ⟨n1, m1⟩, ⟨n2, m2⟩, ⟨n3, m3⟩⟩ := m
  obtain ⟨F, hF⟩ : ∃ F, F = fwd h := ⟨_, rfl⟩
  rw [← hF] at hfw hlt
  obtain ⟨oq, hoq⟩ : ∃ x, x = 2048 * h.op.toNat := ⟨_, rfl⟩
  obtain ⟨s1, hs1⟩ : ∃ s, s = g0 + oq := ⟨_, rfl⟩
  obtain ⟨s2, hs2⟩ : ∃ s, s = s1 + g1 := ⟨_, rfl⟩
  obtain ⟨s3, hs3⟩ : ∃ s, s = s2 + g2 := ⟨_, rfl⟩
  obtain ⟨s4, hs4⟩ : ∃ s, s = s3 + g3 := ⟨_, rfl⟩
  obtain ⟨s5, hs5⟩ : ∃ s, s = s4 + g4 := ⟨_, rfl⟩
  obtain ⟨s6, hs6⟩ : ∃ s, s = s5 + g5 := ⟨_, rfl⟩
  obtain ⟨s7, hs7⟩ : ∃ s, s = s6 + g6 := ⟨_, rfl⟩
  have W0 : IntKind.u32.wrap (h.op * 2 ^ 11) = oq := wrap32 _ _ (by omega) (by omega)
  have Wc : IntKind.u32.wrap h.op = h.op := IntWalk.u32_in _ (by omega)
  have Wd : IntKind.u32.wrap h.rc = h.rc := IntWalk.u32_in _ (by omega)
  have W1 : IntKind.u32.wrap ((g0 : Int) + oq) = s1 := wrap32 _ _ (by omega) (by omega)
  have W2 : IntKind.u32.wrap ((s1 : Int) + g1) = s2 := wrap32 _ _ (by omega) (by omega)
  have W3 : IntKind.u32.wrap ((s2 : Int) + g2) = s3 := wrap32 _ _ (by omega) (by omega)
  have W4 : IntKind.u32.wrap ((s3 : Int) + g3) = s4 := wrap32 _ _ (by omega) (by omega)
  have W5 : IntKind.u32.wrap ((s4 : Int) + g4) = s5 := wrap32 _ _ (by omega) (by omega)
  have W6 : IntKind.u32.wrap ((s5 : Int) + g5) = s6 := wrap32 _ _ (by omega) (by omega)
  have W7 : IntKind.u32.wrap ((s6 : Int) + g6) = s7 := wrap32 _ _ (by omega) (by omega)
  have W8 : IntKind.u32.wrap ((s7 : Int) + h.rc) = F := wrap32 _ _ (by omega) (by omega)
  have HF := Lib.hid hF
  have HFL := Lib.hid hlt
  have hE5 : ((((g0 : Int) + h.op * 2048 + g1 + g2 + g3 + g4 + g5 + g6) % 4294967296 + h.rc) % 4294967296) = F := by omega
  have HE5 := Lib.hid hE5
  clear hE5
  obtain ⟨c0, hc0⟩ := Int.eq_ofNat_of_zero_le n0
  obtain ⟨c1, hc1⟩ := Int.eq_ofNat_of_zero_le n1
  obtain ⟨c2, hc2⟩ := Int.eq_ofNat_of_zero_le n2
  obtain ⟨c3, hc3⟩ := Int.eq_ofNat_of_zero_le n3
  have HWD : Hid (wds h = [h.id, F, c0, c1, c2, c3]) := Lib.hid (by unfold wds; rw [hc0, hc1, hc2, hc3, ← hF]; rfl)
  have HCC := Lib.hid (And.intro hc0 (And.intro hc1 (And.intro hc2 hc3)))
  have v0 : c0 < 65536 := by omega
  have v1 : c1 < 65536 := by omega
  have v2 : c2 < 65536 := by omega
  have v3 : c3 < 65536 := by omega
  clear hc0 hc1 hc2 hc3
  have HNW := Lib.hid (fun wx => fNewWriter_any 12 wx (by decide))
  clear hF hfw hlt hoq hs1 hs2 hs3 hs4 hs5 hs6 hs7 hg0 hg1 hg2 hg3 hg4 hg5 hg6 hm k0 k1 k2 k3 k4 k5 k6
  unfold hv at HK ⊢
  go_enter Try.func14, Try.ntmps14
  go_wp2_with (go_at_call 16; refine (HK.out _).mono ?_; rintro e w1 ⟨rfl, hb⟩; have HA1 := Lib.hid (HLn.out.next hb); have HB1 := Lib.hid (((Below.refl w.heap.size w).alloc (Nat.le_refl _) _).trans (hb.mono (by simp))); clear hb)
  obtain ⟨Ix, f, i0, hf0, hCn', hstep'⟩ : ∃ (Ix : Type) (f : Ix → World) (i0 : Ix), w1.drew = f i0 ∧ (∀ n, Below w1.heap.size w1 (f n)) ∧ (∀ n w'', Below (f n).heap.size (f n) w'' → ∃ m, w'' = f m) := ⟨{w' // Below w1.heap.size w1 w'}, Subtype.val, ⟨w1.drew, ⟨rfl, rfl, rfl, Nat.le_refl _, fun _ _ => rfl⟩⟩, rfl, fun n => n.2, fun n w'' h => ⟨⟨w'', next n.2 h⟩, rfl⟩⟩
  have HCn := Lib.hid hCn'
  clear hCn' hstep'
  haveI : Nonempty Ix := ⟨i0⟩
  have hx1 : ∀ n, (f n).cell? ⟨w.heap.size, 1, none⟩ = some (.bool h.re) := fun n => (HA1.out.next (HCn.out n)).cell 1
  have hx2 : ∀ n, (f n).cell? ⟨w.heap.size, 2, none⟩ = some (.int .i64 h.op) := fun n => (HA1.out.next (HCn.out n)).cell 2
  have hx3 : ∀ n, (f n).cell? ⟨w.heap.size, 3, none⟩ = some (.bool h.aa) := fun n => (HA1.out.next (HCn.out n)).cell 3
  have hx4 : ∀ n, (f n).cell? ⟨w.heap.size, 4, none⟩ = some (.bool h.tc) := fun n => (HA1.out.next (HCn.out n)).cell 4
  have hx5 : ∀ n, (f n).cell? ⟨w.heap.size, 5, none⟩ = some (.bool h.rd) := fun n => (HA1.out.next (HCn.out n)).cell 5
  have hx6 : ∀ n, (f n).cell? ⟨w.heap.size, 6, none⟩ = some (.bool h.ra) := fun n => (HA1.out.next (HCn.out n)).cell 6
  have hx7 : ∀ n, (f n).cell? ⟨w.heap.size, 7, none⟩ = some (.bool h.ad) := fun n => (HA1.out.next (HCn.out n)).cell 7
  have hx8 : ∀ n, (f n).cell? ⟨w.heap.size, 8, none⟩ = some (.bool h.cd) := fun n => (HA1.out.next (HCn.out n)).cell 8
  have hx9 : ∀ n, (f n).cell? ⟨w.heap.size, 9, none⟩ = some (.int .i64 h.rc) := fun n => (HA1.out.next (HCn.out n)).cell 9
  have V0 : Hid (∀ n, Calls Try.prog 26 #[.bool h.re, .int .u64 15] (f n) fun e w'' => e = .returned (.int .u32 g0) ∧ ∃ m, w'' = f m) := Lib.hid (fun n => (F0.out _).mono (fun _ _ h => ⟨h.1, n, h.2.symm⟩))
  have V1 : Hid (∀ n, Calls Try.prog 26 #[.bool h.aa, .int .u64 10] (f n) fun e w'' => e = .returned (.int .u32 g1) ∧ ∃ m, w'' = f m) := Lib.hid (fun n => (F1.out _).mono (fun _ _ h => ⟨h.1, n, h.2.symm⟩))
  have V2 : Hid (∀ n, Calls Try.prog 26 #[.bool h.tc, .int .u64 9] (f n) fun e w'' => e = .returned (.int .u32 g2) ∧ ∃ m, w'' = f m) := Lib.hid (fun n => (F2.out _).mono (fun _ _ h => ⟨h.1, n, h.2.symm⟩))
  have V3 : Hid (∀ n, Calls Try.prog 26 #[.bool h.rd, .int .u64 8] (f n) fun e w'' => e = .returned (.int .u32 g3) ∧ ∃ m, w'' = f m) := Lib.hid (fun n => (F3.out _).mono (fun _ _ h => ⟨h.1, n, h.2.symm⟩))
  have V4 : Hid (∀ n, Calls Try.prog 26 #[.bool h.ra, .int .u64 7] (f n) fun e w'' => e = .returned (.int .u32 g4) ∧ ∃ m, w'' = f m) := Lib.hid (fun n => (F4.out _).mono (fun _ _ h => ⟨h.1, n, h.2.symm⟩))
  have V5 : Hid (∀ n, Calls Try.prog 26 #[.bool h.ad, .int .u64 5] (f n) fun e w'' => e = .returned (.int .u32 g5) ∧ ∃ m, w'' = f m) := Lib.hid (fun n => (F5.out _).mono (fun _ _ h => ⟨h.1, n, h.2.symm⟩))
  have V6 : Hid (∀ n, Calls Try.prog 26 #[.bool h.cd, .int .u64 4] (f n) fun e w'' => e = .returned (.int .u32 g6) ∧ ∃ m, w'' = f m) := Lib.hid (fun n => (F6.out _).mono (fun _ _ h => ⟨h.1, n, h.2.symm⟩))
  refine wp_region_class f (by kernel_rfl) (lexB_of (by kernel_rfl) (by as_aux_lemma => kernel_rfl)) i0 hf0 ?_
  clear hf0
  repeat (go_big_quiet_step (first | (with_reducible exact V0.out _) | (with_reducible exact V1.out _) | (with_reducible exact V2.out _) | (with_reducible exact V3.out _) | (with_reducible exact V4.out _) | (with_reducible exact V5.out _) | (with_reducible exact V6.out _)))
  refine wpQuiet_nil ?_
  intro _ hw'
  obtain ⟨nE, hw''⟩ := hw'
  subst hw''
  have hb2 := next HB1.out (HCn.out nE)
  have hl2 := HA1.out.next (HCn.out nE)
  obtain ⟨w2, hw2⟩ : ∃ w2, w2 = f nE := ⟨_, rfl⟩
  rw [← hw2] at hb2 hl2 ⊢
  have HB2 := Lib.hid hb2
  have HA2 := Lib.hid hl2
  clear hb2 hl2 hw2 hx1 hx2 hx3 hx4 hx5 hx6 hx7 hx8 hx9 W0 W1 W2 W3 W4 W5 W6 W7 W8
  go_wp2_with fail
  rw [HE5.out]
  refine (HNW.out _).mono ?_
  rintro e w3 ⟨rfl, hwf, hb⟩
  have HR0 : Hid (FpRel h w w3 w2.heap.size 0) := Lib.hid ⟨hwf, HA2.out.next hb, HB2.out.trans (hb.mono HB2.out.size), HA2.out.lt⟩
  clear hwf hb
  obtain ⟨g, hg⟩ : ∃ g, g = w2.heap.size := ⟨_, rfl⟩
  rw [← hg] at HR0 ⊢
  clear hg
  have y0 : w3.cell? ⟨w.heap.size, 0, none⟩ = some (.int .u16 h.id) := HR0.out.hd.cell 0
  go_wp2_with fail
  have HN := Lib.hid (HR0.out.num (by omega) (v := h.id) (by rw [HWD.out]; rfl) hid)
  (with_reducible refine HN.out.mono ?_)
  rintro e w4 ⟨rfl, hr⟩
  have HR1 := Lib.hid hr
  clear hr y0
  go_wp2_with fail
  have HN := Lib.hid (HR1.out.num (by omega) (v := F) (by rw [HWD.out]; rfl) HFL.out)
  (with_reducible refine HN.out.mono ?_)
  rintro e w5 ⟨rfl, hr⟩
  have HR2 := Lib.hid hr
  clear hr
  go_wp2
  go_loopw [7] (fun x wr => ∃ k : Nat, x = .int .i64 k ∧ k ≤ 4 ∧ FpRel h w wr g (2 + k)) (fun x _ => 4 - (intOf x).toNat)
  case atStart => exact ⟨0, rfl, by omega, HR2.out⟩
  case round =>
    clear HR2
    obtain ⟨k, rfl, hk, hr⟩ := hrel
    have HR := Lib.hid hr
    clear hr
    rcases Nat.lt_or_ge k 4 with hlt | hge
    · obtain rfl | rfl | rfl | rfl : k = 0 ∨ k = 1 ∨ k = 2 ∨ k = 3 := by omega
      · have y0 : wr.cell? ⟨w.heap.size, 10, none⟩ = some (.int .i64 c0) := by
          have := HR.out.hd.cell 10
          rw [this]
          show some (Value.int .i64 h.n0) = _
          rw [HCC.out.1]
        go_wp2_with fail
        have HN := Lib.hid (HR.out.num (by omega) (v := c0) (by rw [HWD.out]; rfl) v0)
        (with_reducible refine HN.out.mono ?_)
        rintro e w6 ⟨rfl, hr⟩
        have HRn := Lib.hid hr
        clear hr y0
        go_wp2
        go_roundw
        case rel => exact ⟨0 + 1, rfl, by omega, HRn.out⟩
        case measure => simp [intOf]
      · have y0 : wr.cell? ⟨w.heap.size, 11, none⟩ = some (.int .i64 c1) := by
          have := HR.out.hd.cell 11
          rw [this]
          show some (Value.int .i64 h.n1) = _
          rw [HCC.out.2.1]
        go_wp2_with fail
        have HN := Lib.hid (HR.out.num (by omega) (v := c1) (by rw [HWD.out]; rfl) v1)
        (with_reducible refine HN.out.mono ?_)
        rintro e w6 ⟨rfl, hr⟩
        have HRn := Lib.hid hr
        clear hr y0
        go_wp2
        go_roundw
        case rel => exact ⟨1 + 1, rfl, by omega, HRn.out⟩
        case measure => simp [intOf]
      · have y0 : wr.cell? ⟨w.heap.size, 12, none⟩ = some (.int .i64 c2) := by
          have := HR.out.hd.cell 12
          rw [this]
          show some (Value.int .i64 h.n2) = _
          rw [HCC.out.2.2.1]
        go_wp2_with fail
        have HN := Lib.hid (HR.out.num (by omega) (v := c2) (by rw [HWD.out]; rfl) v2)
        (with_reducible refine HN.out.mono ?_)
        rintro e w6 ⟨rfl, hr⟩
        have HRn := Lib.hid hr
        clear hr y0
        go_wp2
        go_roundw
        case rel => exact ⟨2 + 1, rfl, by omega, HRn.out⟩
        case measure => simp [intOf]
      · have y0 : wr.cell? ⟨w.heap.size, 13, none⟩ = some (.int .i64 c3) := by
          have := HR.out.hd.cell 13
          rw [this]
          show some (Value.int .i64 h.n3) = _
          rw [HCC.out.2.2.2]
        go_wp2_with fail
        have HN := Lib.hid (HR.out.num (by omega) (v := c3) (by rw [HWD.out]; rfl) v3)
        (with_reducible refine HN.out.mono ?_)
        rintro e w6 ⟨rfl, hr⟩
        have HRn := Lib.hid hr
        clear hr y0
        go_wp2
        go_roundw
        case rel => exact ⟨3 + 1, rfl, by omega, HRn.out⟩
        case measure => simp [intOf]
    · obtain rfl : k = 4 := by omega
      have hS : (⟨(ocK h (2 + 4)).toArray⟩ : ByteArray) = ⟨(ocH h).toArray⟩ := by rw [show 2 + 4 = 6 from rfl, ocK_all]
      have y0 : wr.cell? ⟨g, 0, none⟩ = some (.string ⟨(ocH h).toArray⟩) := by rw [← hS]; exact HR.out.wf.cell 0
      clear hS
      go_wp2
      go_ret2
      exact ⟨rfl, HR.out.below⟩
theorem fPut_all (h : Hd) (hid : h.id < 65536) (w : World) :
    Calls Try.prog 14 #[hv h] w fun e w' => e = .returned (.tuple #[.string ⟨(ptV h).toArray⟩, .int .i64 (chkH h)]) ∧ Below w.heap.size w w' := by
  rcases hm : mayB h with _ | _
  · rw [chkH_bad hm, show ptV h = [] by unfold ptV; rw [hm]; rfl]
    exact fPut_no h w hm
  · rw [chkH_ok (mayB_yes.1 hm), show ptV h = ocH h by unfold ptV; rw [hm]; rfl]
    exact fPut_yes h hid w hm
end Go.Proofs.Ytjedfgflkhchiaa
