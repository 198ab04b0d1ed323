/-
  The walk of the law RangesMeet. Conditions: the laid tables' cells and errors (Ground), the addresses' numbers such as their types bear.
-/
import Derived.Test.YtjadghmanpkgoaaGreatDoorRgUse
import Derived.Deep.DeepCutAuto
import Derived.Deep.RegionHeld3
namespace Go.Proofs.YtjadghmanpkgoaaGreatDoor
open Go.RowKit
set_option linter.unusedVariables false

/-- Two ranges lie in the law's boxes, the one with fewer bits first. -/
def MtCut (w wc : World) : Prop := ∃ (sA : Bool) (hA lA m : Nat) (sB : Bool) (hB lB n : Nat), fitA (sA, hA, lA) ∧ fitA (sB, hB, lB) ∧ chkR (sA, hA, lA) m = 0 ∧ chkR (sB, hB, lB) n = 0 ∧ m ≤ n ∧ RR2 w wc sA hA lA m sB hB lB n
theorem RR2.bel {w wr : World} {six : Bool} {hi lo : Nat} {n : Int} {s : Bool} {ah al : Nat} {m : Int} (r : RR2 w wr six hi lo n s ah al m) : Below w.heap.size w wr := r.2.2
theorem RR2.drew {w wr : World} {six : Bool} {hi lo : Nat} {n : Int} {s : Bool} {ah al : Nat} {m : Int} (r : RR2 w wr six hi lo n s ah al m) : RR2 w wr.drew six hi lo n s ah al m := r.next (below_dN (Below.refl _ _) 1)
theorem RR2.alloc {w wr : World} {six : Bool} {hi lo : Nat} {n : Int} {s : Bool} {ah al : Nat} {m : Int} (r : RR2 w wr six hi lo n s ah al m) (o : Obj) : RR2 w (wr.alloc o) six hi lo n s ah al m := r.next ((Below.refl _ _).alloc (Nat.le_refl _) o)
theorem RR2.newA {w wr w' : World} {six : Bool} {hi lo : Nat} {n : Int} {s : Bool} {ah al : Nat} {m : Int} (r : RR2 w wr six hi lo n s ah al m) (hb : Below (wr.alloc (.cells #[.bool false, .int .u64 0, .int .u64 0] 24)).heap.size (wr.alloc (.cells #[.bool false, .int .u64 0, .int .u64 0] 24)) w') : AdB w' wr.heap.size false 0 0 := (Lies.new wr _ _).next hb
theorem RR2.newA2 {w wr w' : World} {six : Bool} {hi lo : Nat} {n : Int} {s : Bool} {ah al : Nat} {m : Int} (r : RR2 w wr six hi lo n s ah al m) (hb : Below (wr.alloc (.cells #[.bool false, .int .u64 0, .int .u64 0] 24)).drew.heap.size (wr.alloc (.cells #[.bool false, .int .u64 0, .int .u64 0] 24)).drew w') : AdB w' wr.heap.size false 0 0 := (Lies.new wr _ _).drew.next hb
theorem RR2.two {w wr : World} {six : Bool} {hi lo : Nat} {n : Int} {s : Bool} {ah al : Nat} {m : Int} (r : RR2 w wr six hi lo n s ah al m) : w.heap.size + 2 ≤ wr.heap.size := by
  have := Lies.lt r.2.1
  omega
theorem RR2.put {w wr : World} {six : Bool} {hi lo : Nat} {n : Int} {s : Bool} {ah al : Nat} {m : Int} (r : RR2 w wr six hi lo n s ah al m) {g : Nat} (hg : w.heap.size + 2 ≤ g) (x y z : Value) : RR2 w (((wr.setCell ⟨g, 0, none⟩ x).setCell ⟨g, 1, none⟩ y).setCell ⟨g, 2, none⟩ z) six hi lo n s ah al m := by
  obtain ⟨r1, r2, r3⟩ := r
  have e1 : w.heap.size ≠ g := by omega
  have e2 : w.heap.size + 1 ≠ g := by omega
  refine ⟨?_, ?_, put3 r3 (by omega) _ _ _⟩
  · unfold Lies at *
    rw [heap_setCell_other _ _ _ _ e1, heap_setCell_other _ _ _ _ e1, heap_setCell_other _ _ _ _ e1]
    exact r1
  · unfold Lies at *
    rw [heap_setCell_other _ _ _ _ e2, heap_setCell_other _ _ _ _ e2, heap_setCell_other _ _ _ _ e2]
    exact r2
theorem RR2.swap {w wr : World} {six : Bool} {hi lo : Nat} {n : Int} {s : Bool} {ah al : Nat} {m : Int} (r : RR2 w wr six hi lo n s ah al m) :
    RR2 w ((((((((wr.setCell ⟨w.heap.size, 0, none⟩ (.bool s)).setCell ⟨w.heap.size, 1, none⟩ (.int .u64 (ah : Int))).setCell ⟨w.heap.size, 2, none⟩ (.int .u64 (al : Int))).setCell ⟨w.heap.size, 3, none⟩ (.int .i64 m)).setCell ⟨w.heap.size + 1, 0, none⟩ (.bool six)).setCell ⟨w.heap.size + 1, 1, none⟩ (.int .u64 (hi : Int))).setCell ⟨w.heap.size + 1, 2, none⟩ (.int .u64 (lo : Int))).setCell ⟨w.heap.size + 1, 3, none⟩ (.int .i64 n)) s ah al m six hi lo n := by
  obtain ⟨r1, r2, r3⟩ := r
  have x1 := RgB.put r1 s ah al m
  have x2 : RgB ((((wr.setCell ⟨w.heap.size, 0, none⟩ (.bool s)).setCell ⟨w.heap.size, 1, none⟩ (.int .u64 (ah : Int))).setCell ⟨w.heap.size, 2, none⟩ (.int .u64 (al : Int))).setCell ⟨w.heap.size, 3, none⟩ (.int .i64 m)) (w.heap.size + 1) s ah al m := by
    unfold RgB Lies at *
    rw [heap_setCell_other _ _ _ _ (by simp), heap_setCell_other _ _ _ _ (by simp), heap_setCell_other _ _ _ _ (by simp), heap_setCell_other _ _ _ _ (by simp)]
    exact r2
  have x3 := RgB.put x2 six hi lo n
  refine ⟨?_, x3, put4 (put4 r3 (Nat.le_refl _) _ _ _ _) (Nat.le_succ _) _ _ _ _⟩
  unfold RgB Lies at *
  rw [heap_setCell_other _ _ _ _ (by simp), heap_setCell_other _ _ _ _ (by simp), heap_setCell_other _ _ _ _ (by simp), heap_setCell_other _ _ _ _ (by simp)]
  exact x1
set_option maxHeartbeats 4000000 in
set_option maxRecDepth 100000 in
theorem RangesMeet_walk (s0 : Bool) (h0 l0 : Nat) (n0 : Int) (s1 : Bool) (h1 l1 : Nat) (n1 : Int) (i : Int) (f0 : h0 < 18446744073709551616) (g0 : l0 < 18446744073709551616) (k0 : (Lit.int IntKind.i64 n0).wf = true) (f1 : h1 < 18446744073709551616) (g1 : l1 < 18446744073709551616) (k1 : (Lit.int IntKind.i64 n1).wf = true) (w2 : (Lit.int IntKind.i64 i).wf = true) (w : World) (hG : Ground w) :
    Calls Tryz.prog 9 #[.agg #[.bool s0, .int .u64 (h0 : Int), .int .u64 (l0 : Int), .int .i64 n0], .agg #[.bool s1, .int .u64 (h1 : Int), .int .u64 (l1 : Int), .int .i64 n1], .int .i64 i] w fun e w' => e = .returned (.bool true) ∧ Below w.heap.size w w' := by
  have HG := Lib.hid (fun wx (hb : Below w.heap.size w wx) => hG.next hb)
  have HS : Hid (RR2 w ((w.alloc (.cells #[.bool s0, .int .u64 (h0 : Int), .int .u64 (l0 : Int), .int .i64 n0] 49)).alloc (.cells #[.bool s1, .int .u64 (h1 : Int), .int .u64 (l1 : Int), .int .i64 n1] 49)) s0 h0 l0 n0 s1 h1 l1 n1) := Lib.hid RR2.start
  have hfa : fitA (s0, h0, l0) := ⟨f0, g0⟩
  have hfb : fitA (s1, h1, l1) := ⟨f1, g1⟩
  clear hG k0 k1 w2
  by_cases ca : chkR (s0, h0, l0) n0 = 0
  · have GA := Lib.hid (gCr hfa ca)
    by_cases cb : chkR (s1, h1, l1) n1 = 0
    · have GB := Lib.hid (gCr hfb cb)
      obtain ⟨m, rfl⟩ : ∃ m : Nat, n0 = m := (chkR_yes ca).2.imp fun _ x => x.1
      obtain ⟨n, rfl⟩ : ∃ n : Nat, n1 = n := (chkR_yes cb).2.imp fun _ x => x.1
      have HC := Lib.hid (And.intro hfa (And.intro hfb (And.intro ca cb)))
      clear ca cb hfa hfb f0 g0 f1 g1
      go_enter Tryz.func9, Tryz.ntmps9
      go_upto_if 28 with (first | (go_at_call 32; (with_reducible refine (lives5.go _ (HG.out _ HS.out.bel)).mono ?_); rintro e w1 ⟨rfl, hb⟩; replace HS := Lib.hid (HS.out.next hb); obtain ⟨⟨a0, a1, a2, a3⟩, b0, b1, b2, b3⟩ := HS.out.cells; clear hb) | (go_at_call 47; (first | (with_reducible refine (GA.out.go _ (HG.out _ HS.out.bel)).mono ?_) | (with_reducible refine (GB.out.go _ (HG.out _ HS.out.bel)).mono ?_)); rintro e w1 ⟨rfl, hb⟩; replace HS := Lib.hid (HS.out.next hb); obtain ⟨⟨a0, a1, a2, a3⟩, b0, b1, b2, b3⟩ := HS.out.cells; clear hb) | fail)
      go_cut [] (fun wc => MtCut w wc)
      case first =>
        by_cases hmn : m ≤ n
        · have hd : decide ((n : Int) < (m : Int)) = false := by simp; omega
          have hd2 : decide (n < m) = false := by simp; omega
          have hd3 : ¬ n < m := by omega
          have HM : Hid (MtCut w _) := Lib.hid ⟨_, _, _, _, _, _, _, _, HC.out.1, HC.out.2.1, HC.out.2.2.1, HC.out.2.2.2, hmn, HS.out⟩
          clear hmn
          go_wp2
          go_meet
          case rel => exact HM.out
        · have hd : decide ((n : Int) < (m : Int)) = true := by simp; omega
          have hd2 : decide (n < m) = true := by simp; omega
          have hd3 : n < m := by omega
          have HM : Hid (MtCut w _) := Lib.hid ⟨_, _, _, _, _, _, _, _, HC.out.2.1, HC.out.1, HC.out.2.2.2, HC.out.2.2.1, by omega, HS.out.swap⟩
          obtain ⟨_, q0, q1, q2, q3⟩ := (show RgB w1 w.heap.size s0 h0 l0 m from HS.out.1).facts
          obtain ⟨_, p0, p1, p2, p3⟩ := (show RgB w1 (w.heap.size + 1) s1 h1 l1 n from HS.out.2.1).facts
          clear hmn
          go_wp2
          go_meet
          case rel => exact HM.out
      case rest =>
        clear HS GA GB HC
        obtain ⟨sA, hA, lA, m, sB, hB, lB, n, fA, fB, cA, cB, hmn, hS⟩ := hcut
        have HS := Lib.hid hS
        clear hS
        have hz := size_pos cB
        obtain ⟨z, hzz⟩ : ∃ z, z = sizeR (sB, hB, lB) (n : Int) := ⟨_, rfl⟩
        have hpr := pick_range (i := i) (n := (z : Int)) (by omega)
        obtain ⟨j, hj⟩ : ∃ j : Nat, pick i (z : Int) = j := ⟨(pick i (z : Int)).toNat, by omega⟩
        have hjz : j < sizeR (sB, hB, lB) (n : Int) := by omega
        obtain ⟨M, hM⟩ : ∃ M, M = hasR (sA, hA, lA) (m : Int) (sB, hB, lB) := ⟨_, rfl⟩
        have hfx : fitA (sB, hB, lB + j) := (place fB cB hjz).2.1
        obtain ⟨x, hx⟩ : ∃ x, x = lB + j := ⟨_, rfl⟩
        have GM := Lib.hid (gMr (n := (m : Int)) (m := (n : Int)) (b := M) fA fB (by rw [hM]; exact (meet_has cA cB hmn).1))
        have GM2 := Lib.hid (gMr (n := (n : Int)) (m := (m : Int)) (b := M) fB fA (by rw [hM]; exact (meet_has cA cB hmn).2))
        have GM3 := Lib.hid (gMr (n := (m : Int)) (m := (m : Int)) (b := true) fA fA (meet_self cA))
        have GH := Lib.hid (gHr (n := (m : Int)) (b := M) fA fB hM.symm)
        have GH2 := Lib.hid (gHr (n := (m : Int)) (b := M) fA hfx (by rw [hM]; exact has_place fB cA cB hmn hjz))
        have GZ := Lib.hid (gSr (n := (n : Int)) (z := z) fB hzz.symm)
        have GP := Lib.hid (gPk (i := i) (n := (z : Int)) (by omega) (by omega))
        have GT := Lib.hid (gAr (n := (n : Int)) (i := (j : Int)) (is := true) fB (at_place fB cB hjz))
        simp only at GT
        rw [hj] at GP
        rw [← hx] at GH2 GT
        clear fA fB cA cB hmn hz hzz hpr hj hjz hM hfx hx
        obtain ⟨⟨a0, a1, a2, a3⟩, b0, b1, b2, b3⟩ := HS.out.cells
        go_upto_region 8 with (first | (go_at_call 39; (with_reducible refine (GM.out.go _ (HG.out _ HS.out.bel)).mono ?_); rintro e w1 ⟨rfl, hb⟩; replace HS := Lib.hid (HS.out.next hb); clear hb a0 a1 a2 a3 b0 b1 b2 b3; obtain ⟨⟨a0, a1, a2, a3⟩, b0, b1, b2, b3⟩ := HS.out.cells) | fail)
        clear a0 a1 a2 a3 b0 b1 b2 b3
        go_cut [8, 9] (fun v8 v9 wc => ∃ gx, v8 = .pointer (some ⟨gx, 0, none⟩) ∧ v9 = .bool true ∧ RR2 w wc sA hA lA m sB hB lB n ∧ AdB wc gx sB hB x)
        case first =>
          go_region_held3 (fun w' => w'.cell? ⟨w.heap.size + 1, 0, none⟩ = some (.bool sB) ∧ w'.cell? ⟨w.heap.size + 1, 1, none⟩ = some (.int .u64 (hB : Int)) ∧ w'.cell? ⟨w.heap.size + 1, 2, none⟩ = some (.int .u64 (lB : Int)) ∧ w'.cell? ⟨w.heap.size + 1, 3, none⟩ = some (.int .i64 (n : Int))) (first | with_reducible exact HS.out.cells.2 | with_reducible exact HS.out.drew.cells.2 | with_reducible exact (HS.out.alloc _).cells.2 | with_reducible exact (HS.out.drew.alloc _).cells.2 | with_reducible exact (HS.out.alloc _).drew.cells.2 | with_reducible exact (HS.out.put HA2.out _ _ _).cells.2 | go_keep) (first | (go_at_call 38; (first | ((with_reducible refine (GZ.out.go _ (HG.out _ HS.out.bel)).mono ?_); rintro e w1 ⟨rfl, hb⟩; (try replace HA := Lib.hid (Lies.next HA.out hb)); replace HS := Lib.hid (HS.out.next hb)) | ((with_reducible refine (GZ.out.go _ (HG.out _ HS.out.drew.bel)).mono ?_); rintro e w1 ⟨rfl, hb⟩; replace HS := Lib.hid (HS.out.drew.next hb)) | ((with_reducible refine (GZ.out.go _ (HG.out _ (HS.out.alloc _).bel)).mono ?_); rintro e w1 ⟨rfl, hb⟩; have HA := Lib.hid (HS.out.newA hb); have HA2 := Lib.hid HS.out.two; replace HS := Lib.hid ((HS.out.alloc _).next hb)) | ((with_reducible refine (GZ.out.go _ (HG.out _ (HS.out.drew.alloc _).bel)).mono ?_); rintro e w1 ⟨rfl, hb⟩; have HA := Lib.hid (HS.out.drew.newA hb); have HA2 := Lib.hid HS.out.drew.two; replace HS := Lib.hid ((HS.out.drew.alloc _).next hb)) | ((with_reducible refine (GZ.out.go _ (HG.out _ (HS.out.alloc _).drew.bel)).mono ?_); rintro e w1 ⟨rfl, hb⟩; have HA := Lib.hid (HS.out.newA2 hb); have HA2 := Lib.hid HS.out.two; replace HS := Lib.hid ((HS.out.alloc _).drew.next hb))); clear hb) | (go_at_call 54; (first | ((with_reducible refine (GP.out.go _ (HG.out _ HS.out.bel)).mono ?_); rintro e w1 ⟨rfl, hb⟩; (try replace HA := Lib.hid (Lies.next HA.out hb)); replace HS := Lib.hid (HS.out.next hb)) | ((with_reducible refine (GP.out.go _ (HG.out _ HS.out.drew.bel)).mono ?_); rintro e w1 ⟨rfl, hb⟩; replace HS := Lib.hid (HS.out.drew.next hb)) | ((with_reducible refine (GP.out.go _ (HG.out _ (HS.out.alloc _).bel)).mono ?_); rintro e w1 ⟨rfl, hb⟩; have HA := Lib.hid (HS.out.newA hb); have HA2 := Lib.hid HS.out.two; replace HS := Lib.hid ((HS.out.alloc _).next hb)) | ((with_reducible refine (GP.out.go _ (HG.out _ (HS.out.drew.alloc _).bel)).mono ?_); rintro e w1 ⟨rfl, hb⟩; have HA := Lib.hid (HS.out.drew.newA hb); have HA2 := Lib.hid HS.out.drew.two; replace HS := Lib.hid ((HS.out.drew.alloc _).next hb)) | ((with_reducible refine (GP.out.go _ (HG.out _ (HS.out.alloc _).drew.bel)).mono ?_); rintro e w1 ⟨rfl, hb⟩; have HA := Lib.hid (HS.out.newA2 hb); have HA2 := Lib.hid HS.out.two; replace HS := Lib.hid ((HS.out.alloc _).drew.next hb))); clear hb) | (go_at_call 37; (first | ((with_reducible refine (GT.out.go _ (HG.out _ HS.out.bel)).mono ?_); rintro e w1 ⟨rfl, hb⟩; (try replace HA := Lib.hid (Lies.next HA.out hb)); replace HS := Lib.hid (HS.out.next hb)) | ((with_reducible refine (GT.out.go _ (HG.out _ HS.out.drew.bel)).mono ?_); rintro e w1 ⟨rfl, hb⟩; replace HS := Lib.hid (HS.out.drew.next hb)) | ((with_reducible refine (GT.out.go _ (HG.out _ (HS.out.alloc _).bel)).mono ?_); rintro e w1 ⟨rfl, hb⟩; have HA := Lib.hid (HS.out.newA hb); have HA2 := Lib.hid HS.out.two; replace HS := Lib.hid ((HS.out.alloc _).next hb)) | ((with_reducible refine (GT.out.go _ (HG.out _ (HS.out.drew.alloc _).bel)).mono ?_); rintro e w1 ⟨rfl, hb⟩; have HA := Lib.hid (HS.out.drew.newA hb); have HA2 := Lib.hid HS.out.drew.two; replace HS := Lib.hid ((HS.out.drew.alloc _).next hb)) | ((with_reducible refine (GT.out.go _ (HG.out _ (HS.out.alloc _).drew.bel)).mono ?_); rintro e w1 ⟨rfl, hb⟩; have HA := Lib.hid (HS.out.newA2 hb); have HA2 := Lib.hid HS.out.two; replace HS := Lib.hid ((HS.out.alloc _).drew.next hb))); clear hb; (try (have hA' : AdB _ _ false 0 0 := HA.out; obtain ⟨_, hf0, hf1, hf2⟩ := hA'.facts; clear hA'))) | fail)
          all_goals
            go_wp2
            go_meet
            case rel => first | exact ⟨_, rfl, rfl, HS.out.alloc _, Lies.new _ _ _⟩ | exact ⟨_, rfl, rfl, HS.out.put HA2.out _ _ _, AdB.put HA.out _ _ _⟩
        case rest =>
          obtain ⟨gx, rfl, rfl, hS, hX⟩ := hcut
          clear HS
          have HS := Lib.hid hS
          have HX := Lib.hid hX
          clear hS hX
          obtain ⟨⟨a0, a1, a2, a3⟩, b0, b1, b2, b3⟩ := HS.out.cells
          obtain ⟨⟨x0, x1, x2⟩, _⟩ := HX.out.facts
          go_wp2_with (first | (go_at_call 39; (first | (with_reducible refine (GM2.out.go _ (HG.out _ HS.out.bel)).mono ?_) | (with_reducible refine (GM3.out.go _ (HG.out _ HS.out.bel)).mono ?_)); rintro e w1 ⟨rfl, hb⟩; replace HS := Lib.hid (HS.out.next hb); replace HX := Lib.hid (Lies.next HX.out hb); clear hb a0 a1 a2 a3 b0 b1 b2 b3 x0 x1 x2; obtain ⟨⟨a0, a1, a2, a3⟩, b0, b1, b2, b3⟩ := HS.out.cells; obtain ⟨⟨x0, x1, x2⟩, _⟩ := (show AdB _ gx sB hB x from HX.out).facts) | (go_at_call 40; (first | (with_reducible refine (GH.out.go _ (HG.out _ HS.out.bel)).mono ?_) | (with_reducible refine (GH2.out.go _ (HG.out _ HS.out.bel)).mono ?_)); rintro e w1 ⟨rfl, hb⟩; replace HS := Lib.hid (HS.out.next hb); replace HX := Lib.hid (Lies.next HX.out hb); clear hb a0 a1 a2 a3 b0 b1 b2 b3 x0 x1 x2; obtain ⟨⟨a0, a1, a2, a3⟩, b0, b1, b2, b3⟩ := HS.out.cells; obtain ⟨⟨x0, x1, x2⟩, _⟩ := (show AdB _ gx sB hB x from HX.out).facts) | fail)
          go_ret
          exact ⟨rfl, HS.out.2.2⟩
    · obtain ⟨c, hc⟩ : ∃ c, c = chkR (s1, h1, l1) n1 := ⟨_, rfl⟩
      have GB := Lib.hid (gCr hfb hc.symm)
      have GM := Lib.hid (gMr (n := n0) hfa hfb (meet_bad (.inr cb)))
      rw [← hc] at cb
      have hcb : ((c : Int) != 0) = true := by rw [bne_iff_ne]; omega
      clear hc cb ca hfa hfb f0 g0 f1 g1
      go_enter Tryz.func9, Tryz.ntmps9
      go_wp2_with (first | (go_at_call 32; (with_reducible refine (lives5.go _ (HG.out _ HS.out.bel)).mono ?_); rintro e w1 ⟨rfl, hb⟩; replace HS := Lib.hid (HS.out.next hb); obtain ⟨⟨a0, a1, a2, a3⟩, b0, b1, b2, b3⟩ := HS.out.cells; clear hb) | (go_at_call 47; (first | (with_reducible refine (GA.out.go _ (HG.out _ HS.out.bel)).mono ?_) | (with_reducible refine (GB.out.go _ (HG.out _ HS.out.bel)).mono ?_)); rintro e w1 ⟨rfl, hb⟩; replace HS := Lib.hid (HS.out.next hb); obtain ⟨⟨a0, a1, a2, a3⟩, b0, b1, b2, b3⟩ := HS.out.cells; clear hb) | (go_at_call 39; (with_reducible refine (GM.out.go _ (HG.out _ HS.out.bel)).mono ?_); rintro e w1 ⟨rfl, hb⟩; replace HS := Lib.hid (HS.out.next hb); clear hb) | fail)
      go_ret
      exact ⟨rfl, HS.out.2.2⟩
  · obtain ⟨c, hc⟩ : ∃ c, c = chkR (s0, h0, l0) n0 := ⟨_, rfl⟩
    have GA := Lib.hid (gCr hfa hc.symm)
    have GM := Lib.hid (gMr hfa hfb (meet_bad (b := (s1, h1, l1)) (n := n1) (.inl ca)))
    rw [← hc] at ca
    have hcb : ((c : Int) != 0) = true := by rw [bne_iff_ne]; omega
    clear hc ca hfa hfb f0 g0 f1 g1
    go_enter Tryz.func9, Tryz.ntmps9
    go_wp2_with (first | (go_at_call 32; (with_reducible refine (lives5.go _ (HG.out _ HS.out.bel)).mono ?_); rintro e w1 ⟨rfl, hb⟩; replace HS := Lib.hid (HS.out.next hb); obtain ⟨⟨a0, a1, a2, a3⟩, b0, b1, b2, b3⟩ := HS.out.cells; clear hb) | (go_at_call 47; (with_reducible refine (GA.out.go _ (HG.out _ HS.out.bel)).mono ?_); rintro e w1 ⟨rfl, hb⟩; replace HS := Lib.hid (HS.out.next hb); obtain ⟨⟨a0, a1, a2, a3⟩, b0, b1, b2, b3⟩ := HS.out.cells; clear hb) | (go_at_call 39; (with_reducible refine (GM.out.go _ (HG.out _ HS.out.bel)).mono ?_); rintro e w1 ⟨rfl, hb⟩; replace HS := Lib.hid (HS.out.next hb); clear hb) | fail)
    go_ret
    exact ⟨rfl, HS.out.2.2⟩
end Go.Proofs.YtjadghmanpkgoaaGreatDoor
