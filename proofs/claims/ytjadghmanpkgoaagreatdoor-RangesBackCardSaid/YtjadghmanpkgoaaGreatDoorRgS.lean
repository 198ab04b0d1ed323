/-
  How many places a range has: the walk of ranges.Size. Conditions: the laid tables' cells (Ground), the addresses' numbers such as their types bear.
-/
import Derived.Test.YtjadghmanpkgoaaGreatDoorRgC
import Derived.Test.YtjadghmanpkgoaaGreatDoorAdTxt
import Derived.IntWalk
namespace Go.Proofs.YtjadghmanpkgoaaGreatDoor
open Go.RowKit
set_option linter.unusedVariables false

theorem tz_any (w : World) (hG : Ground w) :
    Calls Tryz.prog 96 #[.int .u64 65536] w fun e w' => e = .returned (.int .i64 16) ∧ w = w' := by
  have hc := hG.bruijn16
  have h1 : bits BinOp.and IntKind.u64 65536 (IntKind.u64.wrap (-65536)) = 65536 := by decide
  have h2 : IntKind.u64.wrap 18734790282533526896640 = 11345047718332006400 := by decide
  clear hG
  go_enter Tryz.func96, Tryz.ntmps96
  go_wp2
  go_ret
  exact ⟨rfl, rfl⟩
set_option maxHeartbeats 2000000 in
theorem rSize_any (six : Bool) (hi lo : Nat) (n : Int) (w : World) (hG : Ground w) (h1 : hi < 18446744073709551616) (h2 : lo < 18446744073709551616) :
    Calls Tryz.prog 38 #[.agg #[.bool six, .int .u64 (hi : Int), .int .u64 (lo : Int), .int .i64 n]] w fun e w' => e = .returned (.int .i64 (sizeR (six, hi, lo) n)) ∧ Below w.heap.size w w' := by
  have HM := Lib.hid (fun wx => mayBe_any six hi lo n wx h1 h2)
  have HW := Lib.hid (fun wx => width_any six hi lo wx)
  have HR := Lib.hid (Lies.new w 49 #[.bool six, .int .u64 (hi : Int), .int .u64 (lo : Int), .int .i64 n])
  have HG := Lib.hid hG
  by_cases e1 : chkR (six, hi, lo) n = 0
  · rw [decide_eq_true e1] at HM
    obtain ⟨b, hb, hn⟩ := chkR_ok e1
    subst hb
    obtain ⟨d, hd⟩ : ∃ d, d = widA six - b := ⟨_, rfl⟩
    have hd' : (widA six : Int) - b = d := by have : b ≤ widA six := hn; omega
    have hW128 : widA six ≤ 128 := by cases six <;> decide
    have hw1 : IntKind.i64.wrap ((widA six : Int) - b) = d := by rw [hd']; exact IntWalk.i64_in _ (by omega)
    have hw2 : wrap64 (d : Int) = d := by unfold wrap64; omega
    obtain ⟨k, hk⟩ : ∃ k, k = min d 16 := ⟨_, rfl⟩
    have hkI : min (d : Int) 16 = k := by omega
    have hk16 : k ≤ 16 := by omega
    have hk0I : (0 : Int) ≤ k := by omega
    have hk64 : (k : Int) ≤ 64 := by omega
    have hkT : ((k : Int)).toNat = k := by omega
    have HK2 : Hid (wrap64 ((2 : Int) ^ k) = ((2 ^ k : Nat) : Int)) := Lib.hid (by
      have e0 : (2 : Int) ^ k = ((2 ^ k : Nat) : Int) := (Int.natCast_pow 2 k).symm
      have hp : 2 ^ k ≤ 65536 := Nat.pow_le_pow_right (n := 2) (j := 16) (by omega) hk16
      rw [e0]
      generalize 2 ^ k = z at hp ⊢
      unfold wrap64
      omega)
    have HE : Hid (sizeR (six, hi, lo) (b : Int) = 2 ^ k) := Lib.hid (by unfold sizeR; rw [if_pos e1, Int.toNat_natCast, ← hd, ← hk])
    clear e1 hn hd hk hG h1 h2 hW128
    go_enter Tryz.func38, Tryz.ntmps38
    go_wp2_with (go_at_call 94; (with_reducible refine (HM.out _).mono ?_); rintro e w1 ⟨rfl, hb⟩; have HR1 := Lib.hid (HR.out.next hb); have HB1 := Lib.hid (((Below.refl w.heap.size w).alloc (Nat.le_refl _) _).trans (hb.mono (by simp))); clear hb)
    have HG1 := Lib.hid (HG.out.next HB1.out)
    obtain ⟨Ix, f, i0, hf0, hCn', hstep'⟩ : ∃ (Ix : Type) (f : Ix → World) (i0 : Ix), w1.drew = f i0 ∧ (∀ n, Below w1.heap.size w1 (f n)) ∧ (∀ n w'', Below (f n).heap.size (f n) w'' → ∃ m, w'' = f m) := ⟨{w' // Below w1.heap.size w1 w'}, Subtype.val, ⟨w1.drew, ⟨rfl, rfl, rfl, Nat.le_refl _, fun _ _ => rfl⟩⟩, rfl, fun n => n.2, fun n w'' h => ⟨⟨w'', next n.2 h⟩, rfl⟩⟩
    have HCn := Lib.hid hCn'
    have Hstep := Lib.hid hstep'
    clear hCn' hstep'
    haveI : Nonempty Ix := ⟨i0⟩
    have k0 : ∀ m, (f m).cell? ⟨w.heap.size, 0, none⟩ = some (.bool six) := fun m => (HR1.out.next (HCn.out m)).cell 0
    have k1 : ∀ m, (f m).cell? ⟨w.heap.size, 1, none⟩ = some (.int .u64 (hi : Int)) := fun m => (HR1.out.next (HCn.out m)).cell 1
    have k2 : ∀ m, (f m).cell? ⟨w.heap.size, 2, none⟩ = some (.int .u64 (lo : Int)) := fun m => (HR1.out.next (HCn.out m)).cell 2
    have k3 : ∀ m, (f m).cell? ⟨w.heap.size, 3, none⟩ = some (.int .i64 (b : Int)) := fun m => (HR1.out.next (HCn.out m)).cell 3
    have V0 := Lib.hid (fun n => (HW.out (f n)).mono (fun _ _ h => (⟨h.1, Hstep.out n _ h.2⟩ : _ ∧ ∃ m, _ = f m)))
    have V1 := Lib.hid (fun n => (tz_any (f n) (HG1.out.next (HCn.out n))).mono (fun _ _ h => (⟨h.1, n, h.2.symm⟩ : _ ∧ ∃ m, _ = f m)))
    refine wp_region_class f (by kernel_rfl) (lexB_of (by kernel_rfl) (by as_aux_lemma => kernel_rfl)) i0 hf0 ?_
    clear hf0
    repeat (go_big_quiet_step (first | (with_reducible exact V0.out _) | (with_reducible exact V1.out _)))
    all_goals
      refine wpQuiet_nil ?_
      intro _ hw'
      obtain ⟨nE, hw''⟩ := hw'
      subst hw''
      have hbE := next HB1.out (HCn.out nE)
      go_wp2
      go_ret
      exact ⟨by rw [HE.out, ← HK2.out]; rfl, hbE⟩
  · rw [decide_eq_false e1] at HM
    have HE : Hid (sizeR (six, hi, lo) n = 0) := Lib.hid (by unfold sizeR; rw [if_neg e1])
    clear e1 h1 h2 hG
    go_enter Tryz.func38, Tryz.ntmps38
    go_wp2_with (go_at_call 94; (with_reducible refine (HM.out _).mono ?_); rintro e w1 ⟨rfl, hb⟩; have HB1 := Lib.hid (((Below.refl w.heap.size w).alloc (Nat.le_refl _) _).trans (hb.mono (by simp))); clear hb)
    go_ret
    exact ⟨by rw [HE.out]; rfl, HB1.out⟩
end Go.Proofs.YtjadghmanpkgoaaGreatDoor
