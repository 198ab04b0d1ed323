/-
  Addresses compared, and added to: the walks of addr.Compare, Add. Conditions: as each theorem names them. A map whose keys are addresses: what a key reads as, what such a map tells, when it is asked and written. Conditions: as each theorem names them. Ranges' masks and heads: the walks of ranges.width, mask, head. Conditions: as each theorem names them.
-/
import Derived.Test.YthlabpbplikjbaaDoorZk20
import Derived.Shelf.Spec.BitsCarry
import Derived.Test.YthlabpbplikjbaaDoorZk2
import Derived.Test.YthlabpbplikjbaaDoorZk4
import Derived.Maps.Own
import Derived.Maps.OwnSet
import Derived.DeepKeys4
import Derived.Deep.QuietTactic
import Derived.BigQuiet
namespace Go.Proofs.YthlabpbplikjbaaDoor
open Go.RowKit
set_option linter.unusedVariables false

theorem add64_run (x y c : Nat) (hc : c ≤ 1) (w : World) :
    (callFunc 108 #[.int .u64 x, .int .u64 y, .int .u64 c]).run Tryd.prog w =
      .ok (.value (.tuple #[.int .u64 (((x + y + c) % 18446744073709551616 : Nat) : Int), .int .u64 (((x + y + c) / 18446744073709551616 : Nat) : Int)])) w := by
  rw [run_callFunc_extern Tryd.func108 (by kernel_rfl) (by kernel_rfl) (by kernel_rfl) (e := add64Entry) (by kernel_rfl), run_add64 x y c (by omega) (by omega) (by omega) (by omega)]
  simp only [Result.andThen]
  congr 5 <;> omega
/-- The carry of the lower half. -/
theorem carry_le {lo n : Nat} (h2 : lo < 18446744073709551616) (h3 : n < 18446744073709551616) : (lo + n) / 18446744073709551616 ≤ 1 := by omega
set_option maxHeartbeats 1000000 in
theorem aAdd_any (six : Bool) (hi lo n : Nat) (w : World) (h1 : hi < 18446744073709551616) (h2 : lo < 18446744073709551616) (h3 : n < 18446744073709551616) :
    Calls Tryd.prog 89 #[.agg #[.bool six, .int .u64 (hi : Int), .int .u64 (lo : Int)], .int .u64 n] w fun e w' => e = .returned (.tuple #[av (addA (six, hi, lo) n).1, .bool (addA (six, hi, lo) n).2]) ∧ Below w.heap.size w w' := by
  have HC := Lib.hid (fun wx => aCheck_any six hi lo wx h1 h2)
  have HB0 : Hid (∀ o p, Below w.heap.size w ((w.alloc o).alloc p)) := Lib.hid (fun o p => ((Below.refl _ _).alloc (Nat.le_refl _) o).alloc (le_alloc (Nat.le_refl _) _) p)
  rcases chkA_cases (six, hi, lo) with hc | hc
  · rw [hc] at HC
    obtain ⟨sl, hsl⟩ : ∃ sl, sl = (lo + n) % 18446744073709551616 := ⟨_, rfl⟩
    obtain ⟨c, hcr⟩ : ∃ c, c = (lo + n) / 18446744073709551616 := ⟨_, rfl⟩
    obtain ⟨sh, hsh⟩ : ∃ sh, sh = (hi + c) % 18446744073709551616 := ⟨_, rfl⟩
    obtain ⟨ov, hov⟩ : ∃ ov, ov = (hi + c) / 18446744073709551616 := ⟨_, rfl⟩
    have hA1 : ∀ wx : World, (callFunc 108 #[.int .u64 lo, .int .u64 n, .int .u64 0]).run Tryd.prog wx = .ok (.value (.tuple #[.int .u64 sl, .int .u64 c])) wx := fun wx => by
      have := add64_run lo n 0 (by decide) wx
      rw [Nat.add_zero, ← hsl, ← hcr] at this
      exact this
    have hA2 : ∀ wx : World, (callFunc 108 #[.int .u64 hi, .int .u64 0, .int .u64 c]).run Tryd.prog wx = .ok (.value (.tuple #[.int .u64 sh, .int .u64 ov])) wx := fun wx => by
      have := add64_run hi 0 c (by rw [hcr]; exact carry_le h2 h3) wx
      rw [Nat.add_zero, ← hsh, ← hov] at this
      exact this
    have HC2 := Lib.hid (fun wx => aCheck_any six sh sl wx (by rw [hsh]; exact Nat.mod_lt _ (by decide)) (by rw [hsl]; exact Nat.mod_lt _ (by decide)))
    have he : addA (six, hi, lo) n = if ov ≠ 0 ∨ chkA (six, sh, sl) ≠ 0 then (noA, false) else ((six, sh, sl), true) := by
      unfold addA sumA
      rw [if_neg (by rw [hc]; decide), hov, hsh, hsl, hcr]
    rw [he]
    clear he hsl hcr hsh hov
    have HL0 : Hid (∀ w1 : World, Below ((w.alloc (.cells #[.bool six, .int .u64 (hi : Int), .int .u64 (lo : Int)] 29)).alloc (.cells #[.bool false, .int .u64 0, .int .u64 0] 29)).heap.size ((w.alloc (.cells #[.bool six, .int .u64 (hi : Int), .int .u64 (lo : Int)] 29)).alloc (.cells #[.bool false, .int .u64 0, .int .u64 0] 29)) w1 → AdB w1 w.heap.size six hi lo ∧ AdB w1 (w.heap.size + 1) false 0 0) := Lib.hid (fun w1 hb => ⟨((Lies.new w _ _).alloc _).next hb, by have := (Lies.new (w.alloc (.cells #[.bool six, .int .u64 (hi : Int), .int .u64 (lo : Int)] 29)) 29 #[.bool false, .int .u64 0, .int .u64 0]).next hb; rw [size1] at this; exact this⟩)
    by_cases h0 : ov = 0
    · subst h0
      rcases chkA_cases (six, sh, sl) with hd | hd
      · rw [hd] at HC2
        rw [hd, if_neg (by simp)]
        clear hd hc
        go_enter Tryd.func89, Tryd.ntmps89
        go_wp2_with (first | (go_at_call 56; (with_reducible refine (HC.out _).mono ?_); rintro e w1 ⟨rfl, hb1⟩; have HL := Lib.hid (HL0.out _ hb1); obtain ⟨⟨ha0, ha1, ha2⟩, _⟩ := HL.out.1.facts; have HB1 := Lib.hid hb1; clear hb1) | (go_at_call 56; (with_reducible refine (HC2.out _).mono ?_); rintro e w2 ⟨rfl, hb2⟩; have HS : Hid (AdB w2 w1.heap.size six sh sl) := Lib.hid ((Lies.new w1 _ _).next hb2); obtain ⟨⟨he0, he1, he2⟩, _⟩ := HS.out.facts; have HR : Hid (AdB w2 (w.heap.size + 1) false 0 0) := Lib.hid ((HL.out.2.alloc _).next hb2); obtain ⟨⟨hc0, hc1, hc2⟩, hf0, hf1, hf2⟩ := HR.out.facts; have HB2 := Lib.hid hb2; clear hb2))
        refine bodyPost_ret (ret_ad2 rfl _ _ (w.heap.size + 1) (six, sh, sl) rfl (AdB.put HR.out _ _ _)) rfl ?_
        have hb := next (HB0.out _ _) HB1.out
        exact ⟨rfl, put3 (next (hb.alloc hb.size _) HB2.out) (Nat.le_succ _) _ _ _⟩
      · rw [hd] at HC2
        rw [hd, if_pos (.inr (by decide))]
        clear hd hc
        go_enter Tryd.func89, Tryd.ntmps89
        go_wp2_with (first | (go_at_call 56; (with_reducible refine (HC.out _).mono ?_); rintro e w1 ⟨rfl, hb1⟩; have HL := Lib.hid (HL0.out _ hb1); obtain ⟨⟨ha0, ha1, ha2⟩, _⟩ := HL.out.1.facts; have HB1 := Lib.hid hb1; clear hb1) | (go_at_call 56; (with_reducible refine (HC2.out _).mono ?_); rintro e w2 ⟨rfl, hb2⟩; have HS : Hid (AdB w2 w1.heap.size six sh sl) := Lib.hid ((Lies.new w1 _ _).next hb2); obtain ⟨⟨he0, he1, he2⟩, _⟩ := HS.out.facts; have HR : Hid (AdB w2 (w.heap.size + 1) false 0 0) := Lib.hid ((HL.out.2.alloc _).next hb2); obtain ⟨⟨hc0, hc1, hc2⟩, hf0, hf1, hf2⟩ := HR.out.facts; have HB2 := Lib.hid hb2; clear hb2))
        refine bodyPost_ret (ret_ad2 rfl _ _ (w.heap.size + 1) noA rfl (AdB.put HR.out _ _ _)) rfl ?_
        have hb := next (HB0.out _ _) HB1.out
        exact ⟨rfl, put3 (next (hb.alloc hb.size _) HB2.out) (Nat.le_succ _) _ _ _⟩
    · rw [if_pos (.inl h0)]
      clear hc HC2
      have h0' : ¬ (ov : Int) = 0 := by omega
      have h0b : ((ov : Int) == 0) = false := by simp [h0]
      go_enter Tryd.func89, Tryd.ntmps89
      go_wp2_with (first | (go_at_call 56; (with_reducible refine (HC.out _).mono ?_); rintro e w1 ⟨rfl, hb1⟩; have HL := Lib.hid (HL0.out _ hb1); obtain ⟨⟨ha0, ha1, ha2⟩, _⟩ := HL.out.1.facts; have HR : Hid (∀ o, AdB (w1.alloc o) (w.heap.size + 1) false 0 0) := Lib.hid (fun o => HL.out.2.alloc o); obtain ⟨⟨hc0, hc1, hc2⟩, hf0, hf1, hf2⟩ := (HR.out (.cells #[.bool six, .int .u64 (sh : Int), .int .u64 (sl : Int)] 29)).facts; have HB1 := Lib.hid hb1; clear hb1))
      refine bodyPost_ret (ret_ad2 rfl _ _ (w.heap.size + 1) noA rfl (AdB.put (HR.out _) _ _ _)) rfl ?_
      have hb := next (HB0.out _ _) HB1.out
      exact ⟨rfl, put3 (hb.alloc hb.size _) (Nat.le_succ _) _ _ _⟩
  · rw [hc] at HC
    have he : addA (six, hi, lo) n = (noA, false) := by unfold addA; rw [if_pos (by rw [hc]; decide)]
    rw [he]
    go_enter Tryd.func89, Tryd.ntmps89
    go_wp2_with (go_at_call 56; (with_reducible refine (HC.out _).mono ?_); rintro e w1 ⟨rfl, hb1⟩; have HL : Hid (AdB w1 (w.heap.size + 1) false 0 0) := Lib.hid (by have := (Lies.new (w.alloc (.cells #[.bool six, .int .u64 (hi : Int), .int .u64 (lo : Int)] 29)) 29 #[.bool false, .int .u64 0, .int .u64 0]).next hb1; rw [size1] at this; exact this); obtain ⟨⟨hc0, hc1, hc2⟩, hf0, hf1, hf2⟩ := HL.out.facts; have HB1 := Lib.hid hb1; clear hb1)
    refine bodyPost_ret (ret_ad2 rfl _ _ (w.heap.size + 1) noA rfl (AdB.put HL.out _ _ _)) rfl ?_
    exact ⟨rfl, put3 (next (HB0.out _ _) HB1.out) (Nat.le_succ _) _ _ _⟩
end Go.Proofs.YthlabpbplikjbaaDoor
namespace Go.Proofs.YthlabpbplikjbaaDoor
open Go.RowKit Go.Maps
set_option linter.unusedVariables false
set_option maxRecDepth 100000

theorem laidOutK : laidOutB Tryd.prog = true := by kernel_rfl
theorem akey : Keyed Tryd.prog 29 := Keyed.of_law (deep_law_laid laidOutK (m := 9) (by decide) (of_decide_eq_true (by kernel_rfl)) (by kernel_rfl) (by rw [Tryd.underlying29]))
/-- What an address reads as, as a key. -/
def kA (a : Ad) : Lit := .string (keyBytes [.bool a.1, .int .u64 (a.2.1 : Int), .int .u64 (a.2.2 : Int)])
theorem keyA {a : Ad} (h : fitA a) : keyOf Tryd.prog 29 (.agg #[.bool a.1, .int .u64 (a.2.1 : Int), .int .u64 (a.2.2 : Int)]) = some (kA a) := by
  obtain ⟨s, hi, lo⟩ := a
  obtain ⟨h1, h2⟩ := h
  have k1 : Tryd.prog.keyType 29 = true := by kernel_rfl
  simp only at h1 h2
  unfold keyOf
  rw [Tryd.underlying29]
  simp only [k1, Bool.true_and]
  have k2 : Tryd.prog.cellsOf 29 = 3 := by kernel_rfl
  have k3 : Tryd.prog.cellsOf 4 = 1 := by kernel_rfl
  have k4 : Tryd.prog.cellsOf 27 = 1 := by kernel_rfl
  obtain ⟨N, hN⟩ : ∃ N, Tryd.prog.types.size = N + 1 := ⟨Tryd.prog.types.size - 1, by have : 0 < Tryd.prog.types.size := of_decide_eq_true (by kernel_rfl); omega⟩
  have w1 : (Lit.int IntKind.u64 (hi : Int)).wf = true := by
    simp only [Lit.wf, Bool.and_eq_true, decide_eq_true_eq]
    have h3 : IntKind.u64.min = 0 := by decide
    have h4 : IntKind.u64.max = 18446744073709551615 := by decide
    omega
  have w2 : (Lit.int IntKind.u64 (lo : Int)).wf = true := by
    simp only [Lit.wf, Bool.and_eq_true, decide_eq_true_eq]
    have h3 : IntKind.u64.min = 0 := by decide
    have h4 : IntKind.u64.max = 18446744073709551615 := by decide
    omega
  rw [if_pos (by simp [Value.formed, Tryd.underlying29, k2]), hN]
  simp [Program.keyLits, Tryd.underlying29, Tryd.underlying4, Tryd.underlying27, Value.cells, k2, k3, k4, w1, w2, kA]
/-- Block b is a map of at most n entries that tells M. -/
def MapA (w : World) (b n : Nat) (M : Ad → Nat) : Prop :=
  ∃ D : DataW Unit, w.ownsMap Tryd.prog 29 (plainElem (H := Unit) Tryd.prog 3) b n D ∧ ∀ a, fitA a → D.atKey (kA a) (.lit (.int .i64 0)) = .lit (.int .i64 (M a : Nat))
theorem MapA.lt {w : World} {b n : Nat} {M : Ad → Nat} (h : MapA w b n M) : b < w.heap.size := let ⟨_, h, _⟩ := h; h.lt
theorem MapA.same {w w' : World} {b n : Nat} {M : Ad → Nat} (h : MapA w b n M) (hs : w'.heap[b]? = w.heap[b]?) : MapA w' b n M := by
  obtain ⟨D, ⟨es, clock, hb, F, hn, hD⟩, h2⟩ := h
  exact ⟨D, ⟨es, clock, hs.trans hb, F, hn, hD⟩, h2⟩
theorem MapA.next {w w' : World} {b n : Nat} {M : Ad → Nat} (h : MapA w b n M) (hb : Below w.heap.size w w') : MapA w' b n M := h.same (hb.block b h.lt)
theorem MapA.new (w : World) : MapA (w.alloc (.map #[] 0)) w.heap.size 0 (fun _ => 0) := ⟨.map [], World.ownsMap_made w _ _ _, fun a _ => rfl⟩
end Go.Proofs.YthlabpbplikjbaaDoor
namespace Go.Proofs.YthlabpbplikjbaaDoor
open Go.RowKit
set_option linter.unusedVariables false

theorem width_any (six : Bool) (hi lo : Nat) (w : World) :
    Calls Tryd.prog 57 #[.agg #[.bool six, .int .u64 (hi : Int), .int .u64 (lo : Int)]] w fun e w' => e = .returned (.int .i64 (widA six)) ∧ Below w.heap.size w w' := by
  cases six
  all_goals
    go_enter Tryd.func57, Tryd.ntmps57
    go_wp2
    go_ret
    exact ⟨rfl, (Below.refl _ _).alloc (Nat.le_refl _) _⟩
theorem wrap_mk (k : Nat) : IntKind.u64.wrap (18446744073709551615 * 2 ^ k) = ((mk k : Nat) : Int) := by
  rw [IntKind.wrap_u64]
  unfold mk
  rw [Int.natCast_emod, Int.natCast_mul, Int.natCast_pow]
  rfl
theorem mk64 : mk 64 = 0 := by decide
theorem mk0 : mk 0 = 18446744073709551615 := by decide
/-- What mask answers. -/
def Mask (w : World) (six : Bool) (n : Nat) (e : Ending) (w' : World) : Prop := e = .returned (.tuple #[.int .u64 (mk (kH six n)), .int .u64 (mk (kL six n))]) ∧ Below w.heap.size w w'
theorem mask_ret {w w' : World} {six : Bool} {n : Nat} {x y : Int} (hx : x = ((mk (kH six n) : Nat) : Int)) (hy : y = ((mk (kL six n) : Nat) : Int)) (hb : Below w.heap.size w w') : Mask w six n (.returned (.tuple #[.int .u64 x, .int .u64 y])) w' := by
  subst hx hy
  exact ⟨rfl, hb⟩
set_option maxHeartbeats 1000000 in
theorem mask_any (six : Bool) (hi lo n : Nat) (w : World) (hn : n ≤ widA six) :
    Calls Tryd.prog 79 #[.agg #[.bool six, .int .u64 (hi : Int), .int .u64 (lo : Int), .int .i64 (n : Int)]] w (Mask w six n) := by
  cases six
  · have hn' : n ≤ 32 := hn
    obtain ⟨k, hk⟩ : ∃ k : Nat, k = 32 - n := ⟨_, rfl⟩
    have e1 : (32 : Int) - (n : Int) = (k : Int) := by omega
    have HK : Hid (kH false n = 64 ∧ kL false n = k) := Lib.hid ⟨rfl, hk.symm⟩
    have h64 : (k : Int) ≤ 64 := by omega
    have h0 : (0 : Int) ≤ (k : Int) := by omega
    clear hn hk
    go_enter Tryd.func79, Tryd.ntmps79
    go_wp2
    go_quiet (fail)
    go_wp2
    go_ret2
    exact mask_ret (by rw [HK.out.1, mk64]; rfl) (by rw [HK.out.2]; exact wrap_mk k) (by first | exact below_dN ((Below.refl _ _).alloc (Nat.le_refl _) _) _ | exact (Below.refl _ _).alloc (Nat.le_refl _) _)
  · have hn' : n ≤ 128 := hn
    by_cases h : n ≤ 64
    · obtain ⟨k, hk⟩ : ∃ k : Nat, k = 64 - n := ⟨_, rfl⟩
      have e1 : (64 : Int) - (n : Int) = (k : Int) := by omega
      have HK : Hid (kH true n = k ∧ kL true n = 64) := Lib.hid ⟨by unfold kH; rw [if_pos rfl, hk], by unfold kL; rw [if_pos rfl, if_pos h]⟩
      have h64 : (k : Int) ≤ 64 := by omega
      have h0 : (0 : Int) ≤ (k : Int) := by omega
      have hn64 : (n : Int) ≤ 64 := by omega
      clear hn hk h
      go_enter Tryd.func79, Tryd.ntmps79
      go_wp2
      go_ret2
      exact mask_ret (by rw [HK.out.1]; exact wrap_mk k) (by rw [HK.out.2, mk64]; rfl) (by first | exact below_dN ((Below.refl _ _).alloc (Nat.le_refl _) _) _ | exact (Below.refl _ _).alloc (Nat.le_refl _) _)
    · obtain ⟨k, hk⟩ : ∃ k : Nat, k = 128 - n := ⟨_, rfl⟩
      have e1 : (128 : Int) - (n : Int) = (k : Int) := by omega
      have HK : Hid (kH true n = 0 ∧ kL true n = k) := Lib.hid ⟨by unfold kH; rw [if_pos rfl]; omega, by unfold kL; rw [if_pos rfl, if_neg h, hk]⟩
      have h64 : (k : Int) ≤ 64 := by omega
      have h0 : (0 : Int) ≤ (k : Int) := by omega
      have hn64 : ¬ (n : Int) ≤ 64 := by omega
      clear hn hk h
      go_enter Tryd.func79, Tryd.ntmps79
      go_wp2
      go_quiet (fail)
      go_wp2
      go_ret2
      exact mask_ret (by rw [HK.out.1, mk0]; rfl) (by rw [HK.out.2]; exact wrap_mk k) (by first | exact below_dN ((Below.refl _ _).alloc (Nat.le_refl _) _) _ | exact (Below.refl _ _).alloc (Nat.le_refl _) _)
theorem and_mk {k x : Nat} (h : k ≤ 64) (hx : x < 18446744073709551616) : bits BinOp.and IntKind.u64 (x : Int) (mk k : Int) = ((cl k x : Nat) : Int) := by
  rw [u64_and_nat x (mk k) hx (mk_lt k), mk_and h hx]
set_option maxHeartbeats 1000000 in
theorem head_any (six : Bool) (rh rl n : Nat) (s : Bool) (hi lo : Nat) (w : World) (hn : n ≤ widA six) (h1 : hi < 18446744073709551616) (h2 : lo < 18446744073709551616) :
    Calls Tryd.prog 58 #[.agg #[.bool six, .int .u64 (rh : Int), .int .u64 (rl : Int), .int .i64 (n : Int)], .agg #[.bool s, .int .u64 (hi : Int), .int .u64 (lo : Int)]] w fun e w' => e = .returned (av (headR six n (s, hi, lo))) ∧ Below w.heap.size w w' := by
  have HM := Lib.hid (fun wx => mask_any six rh rl n wx hn)
  unfold Mask at HM
  obtain ⟨mh, hmh⟩ : ∃ mh, mh = mk (kH six n) := ⟨_, rfl⟩
  obtain ⟨ml, hml⟩ : ∃ ml, ml = mk (kL six n) := ⟨_, rfl⟩
  have ha : bits BinOp.and IntKind.u64 (hi : Int) (mh : Int) = ((cl (kH six n) hi : Nat) : Int) := by rw [hmh]; exact and_mk (kH_le _ _) h1
  have hb : bits BinOp.and IntKind.u64 (lo : Int) (ml : Int) = ((cl (kL six n) lo : Nat) : Int) := by rw [hml]; exact and_mk kL_le h2
  rw [← hmh, ← hml] at HM
  have HE : Hid (headR six n (s, hi, lo) = (s, cl (kH six n) hi, cl (kL six n) lo)) := Lib.hid rfl
  obtain ⟨ch, hch⟩ : ∃ ch, ch = cl (kH six n) hi := ⟨_, rfl⟩
  obtain ⟨cL, hcL⟩ : ∃ cL, cL = cl (kL six n) lo := ⟨_, rfl⟩
  rw [← hch, ← hcL] at HE
  rw [← hch] at ha
  rw [← hcL] at hb
  have HK : Hid (∀ (o : Obj) (w1 : World), Below (((w.alloc o).alloc (.cells #[.bool s, .int .u64 (hi : Int), .int .u64 (lo : Int)] 29)).alloc (.cells #[.bool false, .int .u64 0, .int .u64 0] 29)).heap.size (((w.alloc o).alloc (.cells #[.bool s, .int .u64 (hi : Int), .int .u64 (lo : Int)] 29)).alloc (.cells #[.bool false, .int .u64 0, .int .u64 0] 29)) w1 → AdB w1 (w.heap.size + 1) s hi lo ∧ AdB w1 (w.heap.size + 2) false 0 0 ∧ Below w.heap.size w w1) := Lib.hid (fun o w1 hb => by
    have a1 := ((Lies.new (w.alloc o) 29 #[.bool s, .int .u64 (hi : Int), .int .u64 (lo : Int)]).alloc (.cells #[.bool false, .int .u64 0, .int .u64 0] 29)).next hb
    have a2 := (Lies.new ((w.alloc o).alloc (.cells #[.bool s, .int .u64 (hi : Int), .int .u64 (lo : Int)] 29)) 29 #[.bool false, .int .u64 0, .int .u64 0]).next hb
    rw [size1] at a1
    rw [size1, size1] at a2
    have b0 := (Below.refl w.heap.size w).alloc (Nat.le_refl _) o
    have b1 := b0.alloc b0.size (.cells #[.bool s, .int .u64 (hi : Int), .int .u64 (lo : Int)] 29)
    have b2 := b1.alloc b1.size (.cells #[.bool false, .int .u64 0, .int .u64 0] 29)
    exact ⟨a1, a2, next b2 hb⟩)
  clear hn h1 h2 hmh hml hch hcL
  go_enter Tryd.func58, Tryd.ntmps58
  go_wp2_with (go_at_call 79; (with_reducible refine (HM.out _).mono ?_); rintro e w1 ⟨rfl, hb1⟩; have HL := Lib.hid (HK.out _ _ hb1); obtain ⟨⟨ha0, ha1, ha2⟩, _⟩ := HL.out.1.facts; obtain ⟨⟨hc0, hc1, hc2⟩, hf0, hf1, hf2⟩ := HL.out.2.1.facts; clear hb1)
  rw [HE.out]
  refine bodyPost_ret (ret_ad rfl _ _ (w.heap.size + 2) (s, ch, cL) rfl (AdB.put HL.out.2.1 _ _ _)) rfl ?_
  exact ⟨rfl, put3 HL.out.2.2 (by omega) _ _ _⟩
end Go.Proofs.YthlabpbplikjbaaDoor
