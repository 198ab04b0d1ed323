/-
  The walk of the law RangesNest. Conditions: the laid tables' cells and errors (Ground), the numbers such as their types bear.
-/
import Derived.Test.YtjadghmanpkgoaaGreatDoorRgUse
import Derived.Test.YtjadghmanpkgoaaGreatDoorBx
import Derived.Deep.DeepCutAuto
import Derived.Deep.RegionHeld3
namespace Go.Proofs.YtjadghmanpkgoaaGreatDoor
open Go.RowKit
set_option linter.unusedVariables false

theorem u32_natN {z : Int} (h : (Lit.int IntKind.u32 z).wf = true) : ∃ n : Nat, z = n ∧ n < 4294967296 := by
  simp only [Lit.wf, Bool.and_eq_true, decide_eq_true_eq] at h
  have h2 : IntKind.u32.min = 0 := by decide
  have h3 : IntKind.u32.max = 4294967295 := by decide
  exact ⟨z.toNat, by omega, by omega⟩
theorem cl_shift {k x : Nat} (hk : k ≤ 32) (hx : x < 4294967296) : IntKind.u64.wrap ((x : Int) / 2 ^ k * 2 ^ k) = ((cl k x : Nat) : Int) := by
  have h1 := cl_le k x
  unfold cl at h1 ⊢
  rw [IntKind.wrap_u64, show (x : Int) / 2 ^ k * 2 ^ k = ((x / 2 ^ k * 2 ^ k : Nat) : Int) by simp]
  omega
/-- The two numbers of bits, the lesser first. -/
def NsCut (w : World) (v1 v2 : Value) (wc : World) : Prop := ∃ M N : Nat, v1 = .int .i64 (M : Int) ∧ v2 = .int .i64 (N : Int) ∧ M ≤ N ∧ N ≤ 32 ∧ Below w.heap.size w wc
theorem ns_cells {w wr : World} {g b N : Nat} {t : TypeId} {B : List (Nat × TypeId × Array Value)} (r : Bx w wr ((g, t, #[.bool false, .int .u64 0, .int .u64 (b : Int), .int .i64 (N : Int)]) :: B)) : wr.cell? ⟨g, 0, none⟩ = some (.bool false) ∧ wr.cell? ⟨g, 1, none⟩ = some (.int .u64 0) ∧ wr.cell? ⟨g, 2, none⟩ = some (.int .u64 (b : Int)) ∧ wr.cell? ⟨g, 3, none⟩ = some (.int .i64 (N : Int)) :=
  have h := r.at List.mem_cons_self
  ⟨h.cell 0, h.cell 1, h.cell 2, h.cell 3⟩
set_option maxHeartbeats 4000000 in
set_option maxRecDepth 100000 in
theorem RangesNest_walk (a0 a1 a2 a3 : Int) (v0 : (Lit.int IntKind.u32 a0).wf = true) (v1 : (Lit.int IntKind.i64 a1).wf = true) (v2 : (Lit.int IntKind.i64 a2).wf = true) (v3 : (Lit.int IntKind.i64 a3).wf = true) (w : World) (hG : Ground w) :
    Calls Tryz.prog 11 #[.int .u32 a0, .int .i64 a1, .int .i64 a2, .int .i64 a3] w fun e w' => e = .returned (.bool true) ∧ Below w.heap.size w w' := by
  obtain ⟨lo, rfl, hlo⟩ := u32_natN v0
  clear v0 v1 v2 v3
  have HG := Lib.hid (fun wx (hb : Below w.heap.size w wx) => hG.next hb)
  have GL := Lib.hid lives5
  have HW := Lib.hid (Below.refl w.heap.size w)
  clear hG
  have r1 := pick_range (i := a1) (n := 33) (by decide)
  have r2 := pick_range (i := a2) (n := 33) (by decide)
  have GP1 := gPk (i := a1) (n := 33) (by decide) (by decide)
  have GP2 := gPk (i := a2) (n := 33) (by decide) (by decide)
  obtain ⟨p, hp⟩ : ∃ p : Nat, pick a1 33 = p := ⟨(pick a1 33).toNat, by omega⟩
  obtain ⟨q, hq⟩ : ∃ q : Nat, pick a2 33 = q := ⟨(pick a2 33).toNat, by omega⟩
  rw [hp] at GP1 r1
  rw [hq] at GP2 r2
  have H1 := Lib.hid GP1
  have H2 := Lib.hid GP2
  have hp32 : p ≤ 32 := by omega
  have hq32 : q ≤ 32 := by omega
  clear GP1 GP2 hp hq r1 r2
  go_enter Tryz.func11, Tryz.ntmps11
  go_upto_if 22 with (first | (go_at_call 32; (with_reducible refine (GL.out.go _ (HG.out _ HW.out)).mono ?_); rintro e w1 ⟨rfl, hb⟩; replace HW := Lib.hid (next HW.out hb); clear hb) | (go_at_call 54; (first | (with_reducible refine (H1.out.go _ (HG.out _ HW.out)).mono ?_) | (with_reducible refine (H2.out.go _ (HG.out _ HW.out)).mono ?_)); rintro e w1 ⟨rfl, hb⟩; replace HW := Lib.hid (next HW.out hb); clear hb) | fail)
  go_cut [1, 2] (fun v1 v2 wc => NsCut w v1 v2 wc)
  case first =>
    by_cases hpq : p ≤ q
    · have hd : decide ((q : Int) < (p : Int)) = false := by simp; omega
      have hd2 : decide (q < p) = false := by simp; omega
      have hd3 : ¬ q < p := by omega
      have HM := Lib.hid hpq
      clear hpq
      go_wp2
      go_meet
      case rel => exact ⟨p, q, rfl, rfl, HM.out, hq32, HW.out⟩
    · have hd : decide ((q : Int) < (p : Int)) = true := by simp; omega
      have hd2 : decide (q < p) = true := by simp; omega
      have hd3 : q < p := by omega
      have HM := Lib.hid (show q ≤ p by omega)
      clear hpq
      go_wp2
      go_meet
      case rel => exact ⟨q, p, rfl, rfl, HM.out, hp32, HW.out⟩
  case rest =>
    clear HW H1 H2 hp32 hq32
    obtain ⟨wa, rfl⟩ : ∃ wa, wa = wc := ⟨_, rfl⟩
    obtain ⟨M, N, rfl, rfl, hMN, hN, hwc⟩ := hcut
    obtain ⟨k, hk⟩ : ∃ k : Nat, k = 32 - M := ⟨_, rfl⟩
    obtain ⟨l, hl⟩ : ∃ l : Nat, l = 32 - N := ⟨_, rfl⟩
    have ek : (32 : Int) - (M : Int) = (k : Int) := by omega
    have el : (32 : Int) - (N : Int) = (l : Int) := by omega
    have hk32 : (k : Int) ≤ 32 := by omega
    have hl32 : (l : Int) ≤ 32 := by omega
    have hk0 : (0 : Int) ≤ (k : Int) := by omega
    have hl0 : (0 : Int) ≤ (l : Int) := by omega
    have sk := cl_shift (k := k) (x := lo) (by omega) hlo
    have sl := cl_shift (k := l) (x := lo) (by omega) hlo
    have uk : IntKind.u64.wrap (k : Int) = (k : Int) := IntWalk.u64_in _ (by omega)
    have ul : IntKind.u64.wrap (l : Int) = (l : Int) := IntWalk.u64_in _ (by omega)
    obtain ⟨n1, n2, n3⟩ := nest hlo (show M ≤ 32 by omega)
    obtain ⟨m1, m2, _⟩ := nest hlo hN
    obtain ⟨t1, t2, t3⟩ := nest_two hlo hMN hN
    rw [← hk] at n1 n2 n3 t1 t2 t3
    rw [← hl] at m1 m2 t1 t2 t3
    have ha : cl k lo < 18446744073709551616 := by have := cl_le k lo; omega
    have hb : cl l lo < 18446744073709551616 := by have := cl_le l lo; omega
    obtain ⟨a, hae⟩ : ∃ a, a = cl k lo := ⟨_, rfl⟩
    obtain ⟨b, hbe⟩ : ∃ b, b = cl l lo := ⟨_, rfl⟩
    rw [← hae] at sk n1 n2 n3 t1 t2 t3 ha
    rw [← hbe] at sl m1 m2 t1 t2 t3 hb
    clear hk hl hae hbe
    have fa : fitA (false, 0, a) := ⟨(by decide : (0 : Nat) < 18446744073709551616), ha⟩
    have fb : fitA (false, 0, b) := ⟨(by decide : (0 : Nat) < 18446744073709551616), hb⟩
    have fl : fitA (false, 0, lo) := ⟨(by decide : (0 : Nat) < 18446744073709551616), (show lo < 18446744073709551616 by omega)⟩
    have ft : fitA (true, 0, lo) := ⟨(by decide : (0 : Nat) < 18446744073709551616), (show lo < 18446744073709551616 by omega)⟩
    have hz := size_pos m1
    obtain ⟨z, hzz⟩ : ∃ z, z = sizeR (false, 0, b) (N : Int) := ⟨_, rfl⟩
    obtain ⟨y, hyy⟩ : ∃ y, y = sizeR (false, 0, a) (M : Int) := ⟨_, rfl⟩
    have hpr := pick_range (i := a3) (n := (z : Int)) (by omega)
    obtain ⟨j, hj⟩ : ∃ j : Nat, pick a3 (z : Int) = j := ⟨(pick a3 (z : Int)).toNat, by omega⟩
    have hjz : j < sizeR (false, 0, b) (N : Int) := by omega
    obtain ⟨q1, q2, q3, q4, _⟩ := place fb m1 hjz
    have hsx : hasR (false, 0, b) (N : Int) (false, 0, b + j) = true := (hasR_iff m1).2 ⟨q3, q4⟩
    have hwx : hasR (false, 0, a) (M : Int) (false, 0, b + j) = true := (has_place fb n1 m1 hMN hjz).trans t1
    obtain ⟨x, hx⟩ : ∃ x, x = b + j := ⟨_, rfl⟩
    have hat := at_place fb m1 hjz
    simp only at hat q2 hsx hwx
    rw [← hx] at hat q2 hsx hwx
    have C1 := Lib.hid (show GG 47 #[.agg #[.bool false, .int .u64 0, .int .u64 (a : Int), .int .i64 (M : Int)]] (.int .i64 0) from gCr (six := false) (hi := 0) (lo := a) (n := (M : Int)) (c := 0) fa n1)
    have C2 := Lib.hid (show GG 47 #[.agg #[.bool false, .int .u64 0, .int .u64 (b : Int), .int .i64 (N : Int)]] (.int .i64 0) from gCr (six := false) (hi := 0) (lo := b) (n := (N : Int)) (c := 0) fb m1)
    have E1 := Lib.hid (show GG 40 #[.agg #[.bool false, .int .u64 0, .int .u64 (a : Int), .int .i64 (M : Int)], .agg #[.bool false, .int .u64 0, .int .u64 (lo : Int)]] (.bool true) from gHr (six := false) (hi := 0) (lo := a) (n := (M : Int)) (s := false) (ah := 0) (al := lo) fa fl n2)
    have E2 := Lib.hid (show GG 40 #[.agg #[.bool false, .int .u64 0, .int .u64 (b : Int), .int .i64 (N : Int)], .agg #[.bool false, .int .u64 0, .int .u64 (lo : Int)]] (.bool true) from gHr (six := false) (hi := 0) (lo := b) (n := (N : Int)) (s := false) (ah := 0) (al := lo) fb fl m2)
    have E3 := Lib.hid (show GG 40 #[.agg #[.bool false, .int .u64 0, .int .u64 (b : Int), .int .i64 (N : Int)], .agg #[.bool false, .int .u64 0, .int .u64 (x : Int)]] (.bool true) from gHr (six := false) (hi := 0) (lo := b) (n := (N : Int)) (s := false) (ah := 0) (al := x) fb q2 hsx)
    have E4 := Lib.hid (show GG 40 #[.agg #[.bool false, .int .u64 0, .int .u64 (a : Int), .int .i64 (M : Int)], .agg #[.bool false, .int .u64 0, .int .u64 (x : Int)]] (.bool true) from gHr (six := false) (hi := 0) (lo := a) (n := (M : Int)) (s := false) (ah := 0) (al := x) fa q2 hwx)
    have E5 := Lib.hid (show GG 40 #[.agg #[.bool false, .int .u64 0, .int .u64 (a : Int), .int .i64 (M : Int)], .agg #[.bool true, .int .u64 0, .int .u64 (lo : Int)]] (.bool false) from gHr (six := false) (hi := 0) (lo := a) (n := (M : Int)) (s := true) (ah := 0) (al := lo) fa ft n3)
    have T1 := Lib.hid (show GG 39 #[.agg #[.bool false, .int .u64 0, .int .u64 (a : Int), .int .i64 (M : Int)], .agg #[.bool false, .int .u64 0, .int .u64 (b : Int), .int .i64 (N : Int)]] (.bool true) from gMr (six := false) (hi := 0) (lo := a) (n := (M : Int)) (s := false) (ah := 0) (al := b) (m := (N : Int)) fa fb ((meet_has n1 m1 hMN).1.trans t1))
    have Z1 := Lib.hid (show GG 38 #[.agg #[.bool false, .int .u64 0, .int .u64 (a : Int), .int .i64 (M : Int)]] (.int .i64 (y : Int)) from gSr (six := false) (hi := 0) (lo := a) (n := (M : Int)) fa hyy.symm)
    have Z2 := Lib.hid (show GG 38 #[.agg #[.bool false, .int .u64 0, .int .u64 (b : Int), .int .i64 (N : Int)]] (.int .i64 (z : Int)) from gSr (six := false) (hi := 0) (lo := b) (n := (N : Int)) fb hzz.symm)
    obtain ⟨c, hc⟩ : ∃ c, c = cmpA (false, 0, a) (false, 0, b) := ⟨_, rfl⟩
    have K1 := Lib.hid (show GG 29 #[.agg #[.bool false, .int .u64 0, .int .u64 (a : Int)], .agg #[.bool false, .int .u64 0, .int .u64 (b : Int)]] (.int .i64 c) from gCm (a := (false, 0, a)) (b := (false, 0, b)) fa fb hc.symm)
    have GP := gPk (i := a3) (n := (z : Int)) (by omega) (by omega)
    rw [hj] at GP
    have P1 := Lib.hid GP
    have A1 := Lib.hid (show GG 37 #[.agg #[.bool false, .int .u64 0, .int .u64 (b : Int), .int .i64 (N : Int)], .int .i64 (j : Int)] (.tuple #[.agg #[.bool false, .int .u64 0, .int .u64 (x : Int)], .bool true]) from gAr (six := false) (hi := 0) (lo := b) (n := (N : Int)) (i := (j : Int)) (s := false) (ah := 0) (al := x) (is := true) fb hat)
    have hzy : ¬ y < z := by omega
    have hzyI : decide ((z : Int) ≤ (y : Int)) = true := by simp; omega
    have hzyN : decide (z ≤ y) = true := by simp; omega
    have hcI : decide (c ≤ 0) = true := by rw [hc]; exact decide_eq_true t3
    have HW := Lib.hid hwc
    have HWs := Lib.hid hwc.size
    clear hwc fa fb fl ft n1 n2 n3 m1 m2 t1 t2 t3 hz hzz hyy hpr hj hjz q1 q2 q3 q4 hsx hwx hx hat ha hb hc GP hMN hN
    have HB : Hid (Bx w (((wa.alloc (.cells #[.bool false, .int .u64 0, .int .u64 (lo : Int)] 24)).alloc (.cells #[.bool false, .int .u64 0, .int .u64 (a : Int), .int .i64 (M : Int)] 49)).alloc (.cells #[.bool false, .int .u64 0, .int .u64 (b : Int), .int .i64 (N : Int)] 49)) [(wa.heap.size + 1 + 1, 49, #[.bool false, .int .u64 0, .int .u64 (b : Int), .int .i64 (N : Int)]), (wa.heap.size + 1, 49, #[.bool false, .int .u64 0, .int .u64 (a : Int), .int .i64 (M : Int)]), (wa.heap.size, 24, #[.bool false, .int .u64 0, .int .u64 (lo : Int)])]) := Lib.hid (by
      have h1 := (Bx.mk (B := []) HW.out (fun x hx => nomatch hx)).more 24 #[.bool false, .int .u64 0, .int .u64 (lo : Int)]
      have h2 := h1.more 49 #[.bool false, .int .u64 0, .int .u64 (a : Int), .int .i64 (M : Int)]
      have h3 := h2.more 49 #[.bool false, .int .u64 0, .int .u64 (b : Int), .int .i64 (N : Int)]
      simpa using h3)
    go_upto_region 9 with (fail)
    obtain ⟨w5, hw5⟩ : ∃ w5, w5 = ((wa.alloc (.cells #[.bool false, .int .u64 0, .int .u64 (lo : Int)] 24)).alloc (.cells #[.bool false, .int .u64 0, .int .u64 (a : Int), .int .i64 (M : Int)] 49)).alloc (.cells #[.bool false, .int .u64 0, .int .u64 (b : Int), .int .i64 (N : Int)] 49) := ⟨_, rfl⟩
    rw [← hw5] at HB ⊢
    clear hw5 HW
    have HS := Lib.hid HB.out
    have HLT := Lib.hid (show ∀ x ∈ ([(wa.heap.size + 1 + 1, 49, #[.bool false, .int .u64 0, .int .u64 (b : Int), .int .i64 (N : Int)]), (wa.heap.size + 1, 49, #[.bool false, .int .u64 0, .int .u64 (a : Int), .int .i64 (M : Int)]), (wa.heap.size, 24, #[.bool false, .int .u64 0, .int .u64 (lo : Int)])] : List (Nat × TypeId × Array Value)), w.heap.size ≤ x.1 from fun x hx => by
      have := HWs.out
      simp only [List.mem_cons, List.not_mem_nil, or_false] at hx
      rcases hx with rfl | rfl | rfl
      all_goals (simp only; omega))
    clear HB
    go_cut [12, 13] (fun v8 v9 wd => ∃ gx, v8 = .pointer (some ⟨gx, 0, none⟩) ∧ v9 = .bool true ∧ Bx w wd ((gx, 24, #[.bool false, .int .u64 0, .int .u64 (x : Int)]) :: [(wa.heap.size + 1 + 1, 49, #[.bool false, .int .u64 0, .int .u64 (b : Int), .int .i64 (N : Int)]), (wa.heap.size + 1, 49, #[.bool false, .int .u64 0, .int .u64 (a : Int), .int .i64 (M : Int)]), (wa.heap.size, 24, #[.bool false, .int .u64 0, .int .u64 (lo : Int)])]))
    case first =>
      go_region_held3 (fun w' => w'.cell? ⟨wa.heap.size + 1 + 1, 0, none⟩ = some (.bool false) ∧ w'.cell? ⟨wa.heap.size + 1 + 1, 1, none⟩ = some (.int .u64 0) ∧ w'.cell? ⟨wa.heap.size + 1 + 1, 2, none⟩ = some (.int .u64 (b : Int)) ∧ w'.cell? ⟨wa.heap.size + 1 + 1, 3, none⟩ = some (.int .i64 (N : Int))) (first | with_reducible exact ns_cells HS.out | with_reducible exact ns_cells HS.out.drew | with_reducible exact ns_cells (HS.out.alloc _) | with_reducible exact ns_cells (HS.out.drew.alloc _) | with_reducible exact ns_cells (HS.out.alloc _).drew | with_reducible exact ns_cells (((HS.out.put HA2.out HA3.out 0 _).put HA2.out HA3.out 1 _).put HA2.out HA3.out 2 _) | go_keep) (first | (go_at_call 38; (first | ((with_reducible refine (Z2.out.go _ (HG.out _ HS.out.bel)).mono ?_); rintro e w1 ⟨rfl, hb⟩; (try replace HA := Lib.hid (Lies.next HA.out hb)); replace HS := Lib.hid (HS.out.next hb)) | ((with_reducible refine (Z2.out.go _ (HG.out _ HS.out.drew.bel)).mono ?_); rintro e w1 ⟨rfl, hb⟩; (try replace HA := Lib.hid (Lies.next HA.out hb)); replace HS := Lib.hid (HS.out.drew.next hb)) | ((with_reducible refine (Z2.out.go _ (HG.out _ (HS.out.alloc _).bel)).mono ?_); rintro e w1 ⟨rfl, hb⟩; have HA := Lib.hid (Lies.next (Lies.new _ _ _) hb); have HA2 := Lib.hid HS.out.ltall; have HA3 := Lib.hid HS.out.bel.size; replace HS := Lib.hid ((HS.out.alloc _).next hb)) | ((with_reducible refine (Z2.out.go _ (HG.out _ (HS.out.drew.alloc _).bel)).mono ?_); rintro e w1 ⟨rfl, hb⟩; have HA := Lib.hid (Lies.next (Lies.new _ _ _) hb); have HA2 := Lib.hid HS.out.drew.ltall; have HA3 := Lib.hid HS.out.drew.bel.size; replace HS := Lib.hid ((HS.out.drew.alloc _).next hb)) | ((with_reducible refine (Z2.out.go _ (HG.out _ (HS.out.alloc _).drew.bel)).mono ?_); rintro e w1 ⟨rfl, hb⟩; have HA := Lib.hid (Lies.next (Lies.drew (Lies.new _ _ _)) hb); have HA2 := Lib.hid HS.out.ltall; have HA3 := Lib.hid HS.out.bel.size; replace HS := Lib.hid ((HS.out.alloc _).drew.next hb))); clear hb) | (go_at_call 54; (first | ((with_reducible refine (P1.out.go _ (HG.out _ HS.out.bel)).mono ?_); rintro e w1 ⟨rfl, hb⟩; (try replace HA := Lib.hid (Lies.next HA.out hb)); replace HS := Lib.hid (HS.out.next hb)) | ((with_reducible refine (P1.out.go _ (HG.out _ HS.out.drew.bel)).mono ?_); rintro e w1 ⟨rfl, hb⟩; (try replace HA := Lib.hid (Lies.next HA.out hb)); replace HS := Lib.hid (HS.out.drew.next hb)) | ((with_reducible refine (P1.out.go _ (HG.out _ (HS.out.alloc _).bel)).mono ?_); rintro e w1 ⟨rfl, hb⟩; have HA := Lib.hid (Lies.next (Lies.new _ _ _) hb); have HA2 := Lib.hid HS.out.ltall; have HA3 := Lib.hid HS.out.bel.size; replace HS := Lib.hid ((HS.out.alloc _).next hb)) | ((with_reducible refine (P1.out.go _ (HG.out _ (HS.out.drew.alloc _).bel)).mono ?_); rintro e w1 ⟨rfl, hb⟩; have HA := Lib.hid (Lies.next (Lies.new _ _ _) hb); have HA2 := Lib.hid HS.out.drew.ltall; have HA3 := Lib.hid HS.out.drew.bel.size; replace HS := Lib.hid ((HS.out.drew.alloc _).next hb)) | ((with_reducible refine (P1.out.go _ (HG.out _ (HS.out.alloc _).drew.bel)).mono ?_); rintro e w1 ⟨rfl, hb⟩; have HA := Lib.hid (Lies.next (Lies.drew (Lies.new _ _ _)) hb); have HA2 := Lib.hid HS.out.ltall; have HA3 := Lib.hid HS.out.bel.size; replace HS := Lib.hid ((HS.out.alloc _).drew.next hb))); clear hb) | (go_at_call 37; (first | ((with_reducible refine (A1.out.go _ (HG.out _ HS.out.bel)).mono ?_); rintro e w1 ⟨rfl, hb⟩; (try replace HA := Lib.hid (Lies.next HA.out hb)); replace HS := Lib.hid (HS.out.next hb)) | ((with_reducible refine (A1.out.go _ (HG.out _ HS.out.drew.bel)).mono ?_); rintro e w1 ⟨rfl, hb⟩; (try replace HA := Lib.hid (Lies.next HA.out hb)); replace HS := Lib.hid (HS.out.drew.next hb)) | ((with_reducible refine (A1.out.go _ (HG.out _ (HS.out.alloc _).bel)).mono ?_); rintro e w1 ⟨rfl, hb⟩; have HA := Lib.hid (Lies.next (Lies.new _ _ _) hb); have HA2 := Lib.hid HS.out.ltall; have HA3 := Lib.hid HS.out.bel.size; replace HS := Lib.hid ((HS.out.alloc _).next hb)) | ((with_reducible refine (A1.out.go _ (HG.out _ (HS.out.drew.alloc _).bel)).mono ?_); rintro e w1 ⟨rfl, hb⟩; have HA := Lib.hid (Lies.next (Lies.new _ _ _) hb); have HA2 := Lib.hid HS.out.drew.ltall; have HA3 := Lib.hid HS.out.drew.bel.size; replace HS := Lib.hid ((HS.out.drew.alloc _).next hb)) | ((with_reducible refine (A1.out.go _ (HG.out _ (HS.out.alloc _).drew.bel)).mono ?_); rintro e w1 ⟨rfl, hb⟩; have HA := Lib.hid (Lies.next (Lies.drew (Lies.new _ _ _)) hb); have HA2 := Lib.hid HS.out.ltall; have HA3 := Lib.hid HS.out.bel.size; replace HS := Lib.hid ((HS.out.alloc _).drew.next hb))); clear hb; (try (have hA' : AdB _ _ false 0 0 := HA.out; obtain ⟨_, hf0, hf1, hf2⟩ := hA'.facts; clear hA'))) | fail)
      all_goals
        go_wp2
        go_meet
        case rel => first | exact ⟨_, rfl, rfl, HS.out.more _ _⟩ | exact ⟨_, rfl, rfl, (((HS.out.put HA2.out HA3.out 0 _).put HA2.out HA3.out 1 _).put HA2.out HA3.out 2 _).add (AdB.put HA.out _ _ _)⟩
    case rest =>
      obtain ⟨gx, rfl, rfl, hS⟩ := hcut
      clear HS
      have HS := Lib.hid hS
      clear hS
      go_upto_region 10 with (fail)
      obtain ⟨Ix, f, i0, hf0, hCn', hstep'⟩ := class_of wc
      have HCn := Lib.hid hCn'
      have Hstep := Lib.hid hstep'
      clear hCn' hstep'
      haveI : Nonempty Ix := ⟨i0⟩
      have HF := Lib.hid (fun n => HS.out.next (HCn.out n))
      have x0 : ∀ m, (f m).cell? ⟨gx, 0, none⟩ = some (.bool false) := fun m => Lies.cell ((HF.out m).at List.mem_cons_self) 0
      have x1 : ∀ m, (f m).cell? ⟨gx, 1, none⟩ = some (.int .u64 0) := fun m => Lies.cell ((HF.out m).at List.mem_cons_self) 1
      have x2 : ∀ m, (f m).cell? ⟨gx, 2, none⟩ = some (.int .u64 (x : Int)) := fun m => Lies.cell ((HF.out m).at List.mem_cons_self) 2
      have s0 : ∀ m, (f m).cell? ⟨wa.heap.size + 1 + 1, 0, none⟩ = some (.bool false) := fun m => Lies.cell ((HF.out m).at (List.mem_cons_of_mem _ List.mem_cons_self)) 0
      have s1 : ∀ m, (f m).cell? ⟨wa.heap.size + 1 + 1, 1, none⟩ = some (.int .u64 0) := fun m => Lies.cell ((HF.out m).at (List.mem_cons_of_mem _ List.mem_cons_self)) 1
      have s2 : ∀ m, (f m).cell? ⟨wa.heap.size + 1 + 1, 2, none⟩ = some (.int .u64 (b : Int)) := fun m => Lies.cell ((HF.out m).at (List.mem_cons_of_mem _ List.mem_cons_self)) 2
      have s3 : ∀ m, (f m).cell? ⟨wa.heap.size + 1 + 1, 3, none⟩ = some (.int .i64 (N : Int)) := fun m => Lies.cell ((HF.out m).at (List.mem_cons_of_mem _ List.mem_cons_self)) 3
      have t0 : ∀ m, (f m).cell? ⟨wa.heap.size + 1, 0, none⟩ = some (.bool false) := fun m => Lies.cell ((HF.out m).at (List.mem_cons_of_mem _ (List.mem_cons_of_mem _ List.mem_cons_self))) 0
      have t1 : ∀ m, (f m).cell? ⟨wa.heap.size + 1, 1, none⟩ = some (.int .u64 0) := fun m => Lies.cell ((HF.out m).at (List.mem_cons_of_mem _ (List.mem_cons_of_mem _ List.mem_cons_self))) 1
      have t2 : ∀ m, (f m).cell? ⟨wa.heap.size + 1, 2, none⟩ = some (.int .u64 (a : Int)) := fun m => Lies.cell ((HF.out m).at (List.mem_cons_of_mem _ (List.mem_cons_of_mem _ List.mem_cons_self))) 2
      have t3 : ∀ m, (f m).cell? ⟨wa.heap.size + 1, 3, none⟩ = some (.int .i64 (M : Int)) := fun m => Lies.cell ((HF.out m).at (List.mem_cons_of_mem _ (List.mem_cons_of_mem _ List.mem_cons_self))) 3
      have u0 : ∀ m, (f m).cell? ⟨wa.heap.size, 0, none⟩ = some (.bool false) := fun m => Lies.cell ((HF.out m).at (List.mem_cons_of_mem _ (List.mem_cons_of_mem _ (List.mem_cons_of_mem _ List.mem_cons_self)))) 0
      have u1 : ∀ m, (f m).cell? ⟨wa.heap.size, 1, none⟩ = some (.int .u64 0) := fun m => Lies.cell ((HF.out m).at (List.mem_cons_of_mem _ (List.mem_cons_of_mem _ (List.mem_cons_of_mem _ List.mem_cons_self)))) 1
      have u2 : ∀ m, (f m).cell? ⟨wa.heap.size, 2, none⟩ = some (.int .u64 (lo : Int)) := fun m => Lies.cell ((HF.out m).at (List.mem_cons_of_mem _ (List.mem_cons_of_mem _ (List.mem_cons_of_mem _ List.mem_cons_self)))) 2
      have V0 := Lib.hid (class_go C1.out (HG.out _ HS.out.bel) HCn.out Hstep.out)
      have V1 := Lib.hid (class_go C2.out (HG.out _ HS.out.bel) HCn.out Hstep.out)
      have V2 := Lib.hid (class_go E1.out (HG.out _ HS.out.bel) HCn.out Hstep.out)
      have V3 := Lib.hid (class_go E2.out (HG.out _ HS.out.bel) HCn.out Hstep.out)
      have V4 := Lib.hid (class_go E3.out (HG.out _ HS.out.bel) HCn.out Hstep.out)
      have V5 := Lib.hid (class_go E4.out (HG.out _ HS.out.bel) HCn.out Hstep.out)
      have V6 := Lib.hid (class_go E5.out (HG.out _ HS.out.bel) HCn.out Hstep.out)
      have V7 := Lib.hid (class_go T1.out (HG.out _ HS.out.bel) HCn.out Hstep.out)
      have V8 := Lib.hid (class_go Z1.out (HG.out _ HS.out.bel) HCn.out Hstep.out)
      have V9 := Lib.hid (class_go Z2.out (HG.out _ HS.out.bel) HCn.out Hstep.out)
      have V10 := Lib.hid (class_go K1.out (HG.out _ HS.out.bel) HCn.out Hstep.out)
      refine wp_region_class f (by kernel_rfl) (lexB_of (by kernel_rfl) (by as_aux_lemma => kernel_rfl)) i0 hf0 ?_
      clear hf0
      repeat (go_big_quiet_step (first | (with_reducible exact V0.out _) | (with_reducible exact V1.out _) | (with_reducible exact V2.out _) | (with_reducible exact V3.out _) | (with_reducible exact V4.out _) | (with_reducible exact V5.out _) | (with_reducible exact V6.out _) | (with_reducible exact V7.out _) | (with_reducible exact V8.out _) | (with_reducible exact V9.out _) | (with_reducible exact V10.out _)))
      all_goals
        refine wpQuiet_nil ?_
        intro _ hw'
        obtain ⟨nE, hw''⟩ := hw'
        subst hw''
        have hbE := (HF.out nE).bel
        go_wp2
        go_ret
        exact ⟨rfl, hbE⟩
end Go.Proofs.YtjadghmanpkgoaaGreatDoor
