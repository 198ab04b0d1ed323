/-
  Ranges' masks and heads: the walks of ranges.width, mask, head. Conditions: as each theorem names them.
-/
import Derived.Test.YtjadghmanpkgoaaGreatDoorRgDef
import Derived.Test.YtjadghmanpkgoaaGreatDoorAdCmp
import Derived.Deep.QuietTactic
import Derived.BigQuiet
namespace Go.Proofs.YtjadghmanpkgoaaGreatDoor
open Go.RowKit
set_option linter.unusedVariables false

theorem width_any (six : Bool) (hi lo : Nat) (w : World) :
    Calls Tryz.prog 95 #[.agg #[.bool six, .int .u64 (hi : Int), .int .u64 (lo : Int)]] w fun e w' => e = .returned (.int .i64 (widA six)) ∧ Below w.heap.size w w' := by
  cases six
  all_goals
    go_enter Tryz.func95, Tryz.ntmps95
    go_wp2
    go_ret
    exact ⟨rfl, (Below.refl _ _).alloc (Nat.le_refl _) _⟩
theorem wrap_mk (k : Nat) : IntKind.u64.wrap (18446744073709551615 * 2 ^ k) = ((mk k : Nat) : Int) := by
  rw [IntKind.wrap_u64]
  unfold mk
  rw [Int.natCast_emod, Int.natCast_mul, Int.natCast_pow]
  rfl
theorem mk64 : mk 64 = 0 := by decide
theorem mk0 : mk 0 = 18446744073709551615 := by decide
/-- What mask answers. -/
def Mask (w : World) (six : Bool) (n : Nat) (e : Ending) (w' : World) : Prop := e = .returned (.tuple #[.int .u64 (mk (kH six n)), .int .u64 (mk (kL six n))]) ∧ Below w.heap.size w w'
theorem mask_ret {w w' : World} {six : Bool} {n : Nat} {x y : Int} (hx : x = ((mk (kH six n) : Nat) : Int)) (hy : y = ((mk (kL six n) : Nat) : Int)) (hb : Below w.heap.size w w') : Mask w six n (.returned (.tuple #[.int .u64 x, .int .u64 y])) w' := by
  subst hx hy
  exact ⟨rfl, hb⟩
set_option maxHeartbeats 1000000 in
theorem mask_any (six : Bool) (hi lo n : Nat) (w : World) (hn : n ≤ widA six) :
    Calls Tryz.prog 139 #[.agg #[.bool six, .int .u64 (hi : Int), .int .u64 (lo : Int), .int .i64 (n : Int)]] w (Mask w six n) := by
  cases six
  · have hn' : n ≤ 32 := hn
    obtain ⟨k, hk⟩ : ∃ k : Nat, k = 32 - n := ⟨_, rfl⟩
    have e1 : (32 : Int) - (n : Int) = (k : Int) := by omega
    have HK : Hid (kH false n = 64 ∧ kL false n = k) := Lib.hid ⟨rfl, hk.symm⟩
    have h64 : (k : Int) ≤ 64 := by omega
    have h0 : (0 : Int) ≤ (k : Int) := by omega
    clear hn hk
    go_enter Tryz.func139, Tryz.ntmps139
    go_wp2
    go_quiet (fail)
    go_wp2
    go_ret2
    exact mask_ret (by rw [HK.out.1, mk64]; rfl) (by rw [HK.out.2]; exact wrap_mk k) (by first | exact below_dN ((Below.refl _ _).alloc (Nat.le_refl _) _) _ | exact (Below.refl _ _).alloc (Nat.le_refl _) _)
  · have hn' : n ≤ 128 := hn
    by_cases h : n ≤ 64
    · obtain ⟨k, hk⟩ : ∃ k : Nat, k = 64 - n := ⟨_, rfl⟩
      have e1 : (64 : Int) - (n : Int) = (k : Int) := by omega
      have HK : Hid (kH true n = k ∧ kL true n = 64) := Lib.hid ⟨by unfold kH; rw [if_pos rfl, hk], by unfold kL; rw [if_pos rfl, if_pos h]⟩
      have h64 : (k : Int) ≤ 64 := by omega
      have h0 : (0 : Int) ≤ (k : Int) := by omega
      have hn64 : (n : Int) ≤ 64 := by omega
      clear hn hk h
      go_enter Tryz.func139, Tryz.ntmps139
      go_wp2
      go_ret2
      exact mask_ret (by rw [HK.out.1]; exact wrap_mk k) (by rw [HK.out.2, mk64]; rfl) (by first | exact below_dN ((Below.refl _ _).alloc (Nat.le_refl _) _) _ | exact (Below.refl _ _).alloc (Nat.le_refl _) _)
    · obtain ⟨k, hk⟩ : ∃ k : Nat, k = 128 - n := ⟨_, rfl⟩
      have e1 : (128 : Int) - (n : Int) = (k : Int) := by omega
      have HK : Hid (kH true n = 0 ∧ kL true n = k) := Lib.hid ⟨by unfold kH; rw [if_pos rfl]; omega, by unfold kL; rw [if_pos rfl, if_neg h, hk]⟩
      have h64 : (k : Int) ≤ 64 := by omega
      have h0 : (0 : Int) ≤ (k : Int) := by omega
      have hn64 : ¬ (n : Int) ≤ 64 := by omega
      clear hn hk h
      go_enter Tryz.func139, Tryz.ntmps139
      go_wp2
      go_quiet (fail)
      go_wp2
      go_ret2
      exact mask_ret (by rw [HK.out.1, mk0]; rfl) (by rw [HK.out.2]; exact wrap_mk k) (by first | exact below_dN ((Below.refl _ _).alloc (Nat.le_refl _) _) _ | exact (Below.refl _ _).alloc (Nat.le_refl _) _)
theorem and_mk {k x : Nat} (h : k ≤ 64) (hx : x < 18446744073709551616) : bits BinOp.and IntKind.u64 (x : Int) (mk k : Int) = ((cl k x : Nat) : Int) := by
  rw [u64_and_nat x (mk k) hx (mk_lt k), mk_and h hx]
set_option maxHeartbeats 1000000 in
theorem head_any (six : Bool) (rh rl n : Nat) (s : Bool) (hi lo : Nat) (w : World) (hn : n ≤ widA six) (h1 : hi < 18446744073709551616) (h2 : lo < 18446744073709551616) :
    Calls Tryz.prog 97 #[.agg #[.bool six, .int .u64 (rh : Int), .int .u64 (rl : Int), .int .i64 (n : Int)], .agg #[.bool s, .int .u64 (hi : Int), .int .u64 (lo : Int)]] w fun e w' => e = .returned (av (headR six n (s, hi, lo))) ∧ Below w.heap.size w w' := by
  have HM := Lib.hid (fun wx => mask_any six rh rl n wx hn)
  unfold Mask at HM
  obtain ⟨mh, hmh⟩ : ∃ mh, mh = mk (kH six n) := ⟨_, rfl⟩
  obtain ⟨ml, hml⟩ : ∃ ml, ml = mk (kL six n) := ⟨_, rfl⟩
  have ha : bits BinOp.and IntKind.u64 (hi : Int) (mh : Int) = ((cl (kH six n) hi : Nat) : Int) := by rw [hmh]; exact and_mk (kH_le _ _) h1
  have hb : bits BinOp.and IntKind.u64 (lo : Int) (ml : Int) = ((cl (kL six n) lo : Nat) : Int) := by rw [hml]; exact and_mk kL_le h2
  rw [← hmh, ← hml] at HM
  have HE : Hid (headR six n (s, hi, lo) = (s, cl (kH six n) hi, cl (kL six n) lo)) := Lib.hid rfl
  obtain ⟨ch, hch⟩ : ∃ ch, ch = cl (kH six n) hi := ⟨_, rfl⟩
  obtain ⟨cL, hcL⟩ : ∃ cL, cL = cl (kL six n) lo := ⟨_, rfl⟩
  rw [← hch, ← hcL] at HE
  rw [← hch] at ha
  rw [← hcL] at hb
  have HK : Hid (∀ (o : Obj) (w1 : World), Below (((w.alloc o).alloc (.cells #[.bool s, .int .u64 (hi : Int), .int .u64 (lo : Int)] 24)).alloc (.cells #[.bool false, .int .u64 0, .int .u64 0] 24)).heap.size (((w.alloc o).alloc (.cells #[.bool s, .int .u64 (hi : Int), .int .u64 (lo : Int)] 24)).alloc (.cells #[.bool false, .int .u64 0, .int .u64 0] 24)) w1 → AdB w1 (w.heap.size + 1) s hi lo ∧ AdB w1 (w.heap.size + 2) false 0 0 ∧ Below w.heap.size w w1) := Lib.hid (fun o w1 hb => by
    have a1 := ((Lies.new (w.alloc o) 24 #[.bool s, .int .u64 (hi : Int), .int .u64 (lo : Int)]).alloc (.cells #[.bool false, .int .u64 0, .int .u64 0] 24)).next hb
    have a2 := (Lies.new ((w.alloc o).alloc (.cells #[.bool s, .int .u64 (hi : Int), .int .u64 (lo : Int)] 24)) 24 #[.bool false, .int .u64 0, .int .u64 0]).next hb
    rw [size1] at a1
    rw [size1, size1] at a2
    have b0 := (Below.refl w.heap.size w).alloc (Nat.le_refl _) o
    have b1 := b0.alloc b0.size (.cells #[.bool s, .int .u64 (hi : Int), .int .u64 (lo : Int)] 24)
    have b2 := b1.alloc b1.size (.cells #[.bool false, .int .u64 0, .int .u64 0] 24)
    exact ⟨a1, a2, next b2 hb⟩)
  clear hn h1 h2 hmh hml hch hcL
  go_enter Tryz.func97, Tryz.ntmps97
  go_wp2_with (go_at_call 139; (with_reducible refine (HM.out _).mono ?_); rintro e w1 ⟨rfl, hb1⟩; have HL := Lib.hid (HK.out _ _ hb1); obtain ⟨⟨ha0, ha1, ha2⟩, _⟩ := HL.out.1.facts; obtain ⟨⟨hc0, hc1, hc2⟩, hf0, hf1, hf2⟩ := HL.out.2.1.facts; clear hb1)
  rw [HE.out]
  refine bodyPost_ret (ret_ad rfl _ _ (w.heap.size + 2) (s, ch, cL) rfl (AdB.put HL.out.2.1 _ _ _)) rfl ?_
  exact ⟨rfl, put3 HL.out.2.2 (by omega) _ _ _⟩
end Go.Proofs.YtjadghmanpkgoaaGreatDoor
