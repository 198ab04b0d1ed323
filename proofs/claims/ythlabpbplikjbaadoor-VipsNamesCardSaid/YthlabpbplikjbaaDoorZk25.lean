/-
  How many places a range has: the walk of ranges.Size. Conditions: the laid tables' cells (Ground), the addresses' numbers such as their types bear. An address' place in a range: the walk of ranges.Index. Conditions: the laid tables' cells (Ground), the addresses' numbers such as their types bear. The address at a place of a range: the walk of ranges.At. Conditions: the laid tables' cells (Ground), the addresses' numbers such as their types bear. A contract that hands back one value, over the listed variables; those of addr.Compare, Add, Check, Four. Conditions: as each theorem names them. The contracts of ranges.At, Size, Check, Has, Index, Meet as the laws meet them; a class of worlds. Conditions: as each theorem names them. A slice of ranges, as it can be read; how long the runs are. Conditions: as each theorem names them.
-/
import Derived.Test.YthlabpbplikjbaaDoorZk24
import Derived.Test.YthlabpbplikjbaaDoorZk6
import Derived.IntWalk
import Derived.Test.YthlabpbplikjbaaDoorZk2
import Derived.Test.YthlabpbplikjbaaDoorZk21
import Derived.Test.YthlabpbplikjbaaDoorZk1
namespace Go.Proofs.YthlabpbplikjbaaDoor
open Go.RowKit
set_option linter.unusedVariables false

theorem tz_any (w : World) (hG : Ground w) :
    Calls Tryd.prog 84 #[.int .u64 65536] w fun e w' => e = .returned (.int .i64 16) ∧ w = w' := by
  have hc := hG.bruijn16
  have h1 : bits BinOp.and IntKind.u64 65536 (IntKind.u64.wrap (-65536)) = 65536 := by decide
  have h2 : IntKind.u64.wrap 18734790282533526896640 = 11345047718332006400 := by decide
  clear hG
  go_enter Tryd.func84, Tryd.ntmps84
  go_wp2
  go_ret
  exact ⟨rfl, rfl⟩
set_option maxHeartbeats 2000000 in
theorem rSize_any (six : Bool) (hi lo : Nat) (n : Int) (w : World) (hG : Ground w) (h1 : hi < 18446744073709551616) (h2 : lo < 18446744073709551616) :
    Calls Tryd.prog 66 #[.agg #[.bool six, .int .u64 (hi : Int), .int .u64 (lo : Int), .int .i64 n]] w fun e w' => e = .returned (.int .i64 (sizeR (six, hi, lo) n)) ∧ Below w.heap.size w w' := by
  have HM := Lib.hid (fun wx => rgMayBe_any six hi lo n wx h1 h2)
  have HW := Lib.hid (fun wx => width_any six hi lo wx)
  have HR := Lib.hid (Lies.new w 31 #[.bool six, .int .u64 (hi : Int), .int .u64 (lo : Int), .int .i64 n])
  have HG := Lib.hid hG
  by_cases e1 : chkR (six, hi, lo) n = 0
  · rw [decide_eq_true e1] at HM
    obtain ⟨b, hb, hn⟩ := chkR_ok e1
    subst hb
    obtain ⟨d, hd⟩ : ∃ d, d = widA six - b := ⟨_, rfl⟩
    have hd' : (widA six : Int) - b = d := by have : b ≤ widA six := hn; omega
    have hW128 : widA six ≤ 128 := by cases six <;> decide
    have hw1 : IntKind.i64.wrap ((widA six : Int) - b) = d := by rw [hd']; exact IntWalk.i64_in _ (by omega)
    have hw2 : wrap64 (d : Int) = d := by unfold wrap64; omega
    obtain ⟨k, hk⟩ : ∃ k, k = min d 16 := ⟨_, rfl⟩
    have hkI : min (d : Int) 16 = k := by omega
    have hk16 : k ≤ 16 := by omega
    have hk0I : (0 : Int) ≤ k := by omega
    have hk64 : (k : Int) ≤ 64 := by omega
    have hkT : ((k : Int)).toNat = k := by omega
    have HK2 : Hid (wrap64 ((2 : Int) ^ k) = ((2 ^ k : Nat) : Int)) := Lib.hid (by
      have e0 : (2 : Int) ^ k = ((2 ^ k : Nat) : Int) := (Int.natCast_pow 2 k).symm
      have hp : 2 ^ k ≤ 65536 := Nat.pow_le_pow_right (n := 2) (j := 16) (by omega) hk16
      rw [e0]
      generalize 2 ^ k = z at hp ⊢
      unfold wrap64
      omega)
    have HE : Hid (sizeR (six, hi, lo) (b : Int) = 2 ^ k) := Lib.hid (by unfold sizeR; rw [if_pos e1, Int.toNat_natCast, ← hd, ← hk])
    clear e1 hn hd hk hG h1 h2 hW128
    go_enter Tryd.func66, Tryd.ntmps66
    go_wp2_with (go_at_call 83; (with_reducible refine (HM.out _).mono ?_); rintro e w1 ⟨rfl, hb⟩; have HR1 := Lib.hid (HR.out.next hb); have HB1 := Lib.hid (((Below.refl w.heap.size w).alloc (Nat.le_refl _) _).trans (hb.mono (by simp))); clear hb)
    have HG1 := Lib.hid (HG.out.next HB1.out)
    obtain ⟨Ix, f, i0, hf0, hCn', hstep'⟩ : ∃ (Ix : Type) (f : Ix → World) (i0 : Ix), w1.drew = f i0 ∧ (∀ n, Below w1.heap.size w1 (f n)) ∧ (∀ n w'', Below (f n).heap.size (f n) w'' → ∃ m, w'' = f m) := ⟨{w' // Below w1.heap.size w1 w'}, Subtype.val, ⟨w1.drew, ⟨rfl, rfl, rfl, Nat.le_refl _, fun _ _ => rfl⟩⟩, rfl, fun n => n.2, fun n w'' h => ⟨⟨w'', next n.2 h⟩, rfl⟩⟩
    have HCn := Lib.hid hCn'
    have Hstep := Lib.hid hstep'
    clear hCn' hstep'
    haveI : Nonempty Ix := ⟨i0⟩
    have k0 : ∀ m, (f m).cell? ⟨w.heap.size, 0, none⟩ = some (.bool six) := fun m => (HR1.out.next (HCn.out m)).cell 0
    have k1 : ∀ m, (f m).cell? ⟨w.heap.size, 1, none⟩ = some (.int .u64 (hi : Int)) := fun m => (HR1.out.next (HCn.out m)).cell 1
    have k2 : ∀ m, (f m).cell? ⟨w.heap.size, 2, none⟩ = some (.int .u64 (lo : Int)) := fun m => (HR1.out.next (HCn.out m)).cell 2
    have k3 : ∀ m, (f m).cell? ⟨w.heap.size, 3, none⟩ = some (.int .i64 (b : Int)) := fun m => (HR1.out.next (HCn.out m)).cell 3
    have V0 := Lib.hid (fun n => (HW.out (f n)).mono (fun _ _ h => (⟨h.1, Hstep.out n _ h.2⟩ : _ ∧ ∃ m, _ = f m)))
    have V1 := Lib.hid (fun n => (tz_any (f n) (HG1.out.next (HCn.out n))).mono (fun _ _ h => (⟨h.1, n, h.2.symm⟩ : _ ∧ ∃ m, _ = f m)))
    refine wp_region_class f (by kernel_rfl) (lexB_of (by kernel_rfl) (by as_aux_lemma => kernel_rfl)) i0 hf0 ?_
    clear hf0
    repeat (go_big_quiet_step (first | (with_reducible exact V0.out _) | (with_reducible exact V1.out _)))
    all_goals
      refine wpQuiet_nil ?_
      intro _ hw'
      obtain ⟨nE, hw''⟩ := hw'
      subst hw''
      have hbE := next HB1.out (HCn.out nE)
      go_wp2
      go_ret
      exact ⟨by rw [HE.out, ← HK2.out]; rfl, hbE⟩
  · rw [decide_eq_false e1] at HM
    have HE : Hid (sizeR (six, hi, lo) n = 0) := Lib.hid (by unfold sizeR; rw [if_neg e1])
    clear e1 h1 h2 hG
    go_enter Tryd.func66, Tryd.ntmps66
    go_wp2_with (go_at_call 83; (with_reducible refine (HM.out _).mono ?_); rintro e w1 ⟨rfl, hb⟩; have HB1 := Lib.hid (((Below.refl w.heap.size w).alloc (Nat.le_refl _) _).trans (hb.mono (by simp))); clear hb)
    go_ret
    exact ⟨by rw [HE.out]; rfl, HB1.out⟩
end Go.Proofs.YthlabpbplikjbaaDoor
namespace Go.Proofs.YthlabpbplikjbaaDoor
open Go.RowKit
set_option linter.unusedVariables false

/-- A range's box and an address' box lie. -/
def RA2 (w wr : World) (six : Bool) (hi lo : Nat) (n : Int) (s : Bool) (ah al : Nat) : Prop :=
  Lies wr w.heap.size 31 #[.bool six, .int .u64 (hi : Int), .int .u64 (lo : Int), .int .i64 n] ∧ Lies wr (w.heap.size + 1) 29 #[.bool s, .int .u64 (ah : Int), .int .u64 (al : Int)] ∧ Below w.heap.size w wr
theorem RA2.next {w wr w' : World} {six : Bool} {hi lo : Nat} {n : Int} {s : Bool} {ah al : Nat} (r : RA2 w wr six hi lo n s ah al) (hb : Below wr.heap.size wr w') : RA2 w w' six hi lo n s ah al :=
  ⟨r.1.next hb, r.2.1.next hb, r.2.2.trans (hb.mono r.2.2.size)⟩
theorem RA2.cells {w wr : World} {six : Bool} {hi lo : Nat} {n : Int} {s : Bool} {ah al : Nat} (r : RA2 w wr six hi lo n s ah al) :
    (wr.cell? ⟨w.heap.size, 0, none⟩ = some (.bool six) ∧ wr.cell? ⟨w.heap.size, 1, none⟩ = some (.int .u64 (hi : Int)) ∧ wr.cell? ⟨w.heap.size, 2, none⟩ = some (.int .u64 (lo : Int)) ∧ wr.cell? ⟨w.heap.size, 3, none⟩ = some (.int .i64 n)) ∧
    wr.cell? ⟨w.heap.size + 1, 0, none⟩ = some (.bool s) ∧ wr.cell? ⟨w.heap.size + 1, 1, none⟩ = some (.int .u64 (ah : Int)) ∧ wr.cell? ⟨w.heap.size + 1, 2, none⟩ = some (.int .u64 (al : Int)) :=
  ⟨⟨r.1.cell 0, r.1.cell 1, r.1.cell 2, r.1.cell 3⟩, r.2.1.cell 0, r.2.1.cell 1, r.2.1.cell 2⟩
theorem RA2.start {w : World} {six : Bool} {hi lo : Nat} {n : Int} {s : Bool} {ah al : Nat} : RA2 w ((w.alloc (.cells #[.bool six, .int .u64 (hi : Int), .int .u64 (lo : Int), .int .i64 n] 31)).alloc (.cells #[.bool s, .int .u64 (ah : Int), .int .u64 (al : Int)] 29)) six hi lo n s ah al := by
  have := Lies.new (w.alloc (.cells #[.bool six, .int .u64 (hi : Int), .int .u64 (lo : Int), .int .i64 n] 31)) 29 #[.bool s, .int .u64 (ah : Int), .int .u64 (al : Int)]
  rw [show (w.alloc (.cells #[.bool six, .int .u64 (hi : Int), .int .u64 (lo : Int), .int .i64 n] 31)).heap.size = w.heap.size + 1 by simp] at this
  exact ⟨(Lies.new w _ _).alloc _, this, ((Below.refl _ _).alloc (Nat.le_refl _) _).alloc (by simp) _⟩
theorem sizeR_le (r : Ad) (n : Int) : sizeR r n ≤ 65536 := by
  unfold sizeR
  split
  · exact Nat.pow_le_pow_right (n := 2) (j := 16) (by omega) (Nat.min_le_right _ _)
  · omega
/-- What Index hands back. -/
def ixV (x : Nat × Bool) : Value := .tuple #[.int .i64 x.1, .bool x.2]
set_option maxHeartbeats 2000000 in
theorem rIndex_any (six : Bool) (hi lo : Nat) (n : Int) (s : Bool) (ah al : Nat) (w : World) (hG : Ground w) (h1 : hi < 18446744073709551616) (h2 : lo < 18446744073709551616) (h3 : ah < 18446744073709551616) (h4 : al < 18446744073709551616) :
    Calls Tryd.prog 86 #[.agg #[.bool six, .int .u64 (hi : Int), .int .u64 (lo : Int), .int .i64 n], .agg #[.bool s, .int .u64 (ah : Int), .int .u64 (al : Int)]] w fun e w' => e = .returned (ixV (idxR (six, hi, lo) n (s, ah, al))) ∧ Below w.heap.size w w' := by
  have HH := Lib.hid (fun wx => rHas_any six hi lo n s ah al wx h1 h2 h3 h4)
  have HZ := Lib.hid (fun wx hg => rSize_any six hi lo n wx hg h1 h2)
  have HS := Lib.hid (RA2.start (w := w) (six := six) (hi := hi) (lo := lo) (n := n) (s := s) (ah := ah) (al := al))
  have HG := Lib.hid (fun wx (hb : Below w.heap.size w wx) => hG.next hb)
  obtain ⟨V, hV⟩ : ∃ V, V = ixV (idxR (six, hi, lo) n (s, ah, al)) := ⟨_, rfl⟩
  rw [← hV]
  obtain ⟨o, ho⟩ : ∃ o, o = offR (six, hi, lo) (s, ah, al) := ⟨_, rfl⟩
  have hol : o < 18446744073709551616 := by rw [ho]; exact Nat.mod_lt _ (by decide)
  have hoI' : ((al : Int) - lo) % 18446744073709551616 = o := by
    rw [ho]
    unfold offR
    show _ = (((al + (18446744073709551616 - lo)) % 18446744073709551616 : Nat) : Int)
    omega
  have hoI : IntKind.u64.wrap ((al : Int) - lo) = o := by rw [IntKind.wrap_u64]; exact hoI'
  clear hoI'
  obtain ⟨z, hz⟩ : ∃ z, z = sizeR (six, hi, lo) n := ⟨_, rfl⟩
  have hzl : z ≤ 65536 := by rw [hz]; exact sizeR_le _ _
  rw [← hz] at HZ
  rcases hx : hasR (six, hi, lo) n (s, ah, al) with _ | _
  · have HV : Hid (V = .tuple #[.int .i64 0, .bool false]) := Lib.hid (by rw [hV]; unfold ixV idxR; rw [if_pos (.inl hx)]; rfl)
    rw [hx] at HH
    clear hV ho hoI hz hx hG h1 h2 h3 h4
    go_enter Tryd.func86, Tryd.ntmps86
    go_wp2_with (go_at_call 104; (with_reducible refine (HH.out _).mono ?_); rintro e w1 ⟨rfl, hb⟩; replace HS := Lib.hid (HS.out.next hb); obtain ⟨⟨a0, a1, a2, a3⟩, b0, b1, b2⟩ := HS.out.cells; clear hb)
    go_ret2
    exact ⟨by rw [HV.out]; rfl, HS.out.2.2⟩
  · rw [hx] at HH
    by_cases hh : ah = hi
    · by_cases hzo : z ≤ o
      · have HV : Hid (V = .tuple #[.int .i64 0, .bool false]) := Lib.hid (by rw [hV]; unfold ixV idxR; rw [if_pos (.inr (.inr (by rw [← hz, ← ho]; exact hzo)))]; rfl)
        have hd : decide ((z : Int) ≤ (o : Int)) = true := by simp; omega
        have hd2 : decide (z ≤ o) = true := by simp; omega
        have hq : ((ah : Int) != (hi : Int)) = false := by rw [hh]; simp
        clear hV ho hz hx hG h1 h2 h3 h4 hh
        go_enter Tryd.func86, Tryd.ntmps86
        go_wp2_with (first | (go_at_call 104; (with_reducible refine (HH.out _).mono ?_); rintro e w1 ⟨rfl, hb⟩; replace HS := Lib.hid (HS.out.next hb); obtain ⟨⟨a0, a1, a2, a3⟩, b0, b1, b2⟩ := HS.out.cells; clear hb) | (go_at_call 66; (with_reducible refine (HZ.out _ ?_).mono ?_); exact HG.out _ HS.out.2.2; rintro e w1 ⟨rfl, hb⟩; replace HS := Lib.hid (HS.out.next hb); obtain ⟨⟨a0, a1, a2, a3⟩, b0, b1, b2⟩ := HS.out.cells; clear hb))
        go_ret2
        exact ⟨by rw [HV.out]; rfl, HS.out.2.2⟩
      · have HV : Hid (V = .tuple #[.int .i64 o, .bool true]) := Lib.hid (by
          rw [hV]
          unfold ixV idxR
          rw [if_neg (by rintro (e | e | e); (· rw [hx] at e; cases e); (· exact e hh); (· rw [← hz, ← ho] at e; exact hzo e)), ← ho])
        have hd : decide ((z : Int) ≤ (o : Int)) = false := by simp; omega
        have hd2 : decide (z ≤ o) = false := by simp; omega
        have hq : ((ah : Int) != (hi : Int)) = false := by rw [hh]; simp
        have hoz : o < 65536 := by omega
        clear hV ho hz hx hG h1 h2 h3 h4 hh
        go_enter Tryd.func86, Tryd.ntmps86
        go_wp2_with (first | (go_at_call 104; (with_reducible refine (HH.out _).mono ?_); rintro e w1 ⟨rfl, hb⟩; replace HS := Lib.hid (HS.out.next hb); obtain ⟨⟨a0, a1, a2, a3⟩, b0, b1, b2⟩ := HS.out.cells; clear hb) | (go_at_call 66; (with_reducible refine (HZ.out _ ?_).mono ?_); exact HG.out _ HS.out.2.2; rintro e w1 ⟨rfl, hb⟩; replace HS := Lib.hid (HS.out.next hb); obtain ⟨⟨a0, a1, a2, a3⟩, b0, b1, b2⟩ := HS.out.cells; clear hb))
        go_ret2
        exact ⟨by rw [HV.out]; rfl, HS.out.2.2⟩
    · have HV : Hid (V = .tuple #[.int .i64 0, .bool false]) := Lib.hid (by rw [hV]; unfold ixV idxR; rw [if_pos (.inr (.inl hh))]; rfl)
      have hq : ((ah : Int) != (hi : Int)) = true := by rw [bne_iff_ne]; omega
      clear hV ho hoI hz hx hG h1 h2 h3 h4 hh
      go_enter Tryd.func86, Tryd.ntmps86
      go_wp2_with (go_at_call 104; (with_reducible refine (HH.out _).mono ?_); rintro e w1 ⟨rfl, hb⟩; replace HS := Lib.hid (HS.out.next hb); obtain ⟨⟨a0, a1, a2, a3⟩, b0, b1, b2⟩ := HS.out.cells; clear hb)
      go_ret2
      exact ⟨by rw [HV.out]; rfl, HS.out.2.2⟩
end Go.Proofs.YthlabpbplikjbaaDoor
namespace Go.Proofs.YthlabpbplikjbaaDoor
open Go.RowKit
set_option linter.unusedVariables false

/-- What At hands back. -/
def atV (x : Ad × Bool) : Value := .tuple #[av x.1, .bool x.2]
set_option maxHeartbeats 2000000 in
set_option maxRecDepth 20000 in
theorem rAt_any (six : Bool) (hi lo : Nat) (n i : Int) (w : World) (hG : Ground w) (h1 : hi < 18446744073709551616) (h2 : lo < 18446744073709551616) :
    Calls Tryd.prog 69 #[.agg #[.bool six, .int .u64 (hi : Int), .int .u64 (lo : Int), .int .i64 n], .int .i64 i] w fun e w' => e = .returned (atV (atR (six, hi, lo) n i)) ∧ Below w.heap.size w w' := by
  have HZ := Lib.hid (fun wx hg => rSize_any six hi lo n wx hg h1 h2)
  have HS : Hid (RA2 w ((w.alloc (.cells #[.bool six, .int .u64 (hi : Int), .int .u64 (lo : Int), .int .i64 n] 31)).alloc (.cells #[.bool false, .int .u64 0, .int .u64 0] 29)) six hi lo n false 0 0) := Lib.hid (RA2.start (w := w) (six := six) (hi := hi) (lo := lo) (n := n) (s := false) (ah := 0) (al := 0))
  have HG := Lib.hid (fun wx (hb : Below w.heap.size w wx) => hG.next hb)
  obtain ⟨V, hV⟩ : ∃ V, V = atR (six, hi, lo) n i := ⟨_, rfl⟩
  rw [← hV]
  obtain ⟨z, hz⟩ : ∃ z, z = sizeR (six, hi, lo) n := ⟨_, rfl⟩
  have hzl : z ≤ 65536 := by rw [hz]; exact sizeR_le _ _
  rw [← hz] at HZ
  by_cases hneg : i < 0
  · have HV : Hid (V = (noA, false)) := Lib.hid (by rw [hV]; unfold atR; rw [if_pos (.inl hneg)])
    have hd : decide (i < 0) = true := by simpa using hneg
    clear hV hz hG h1 h2 HZ
    go_enter Tryd.func69, Tryd.ntmps69
    go_wp2
    rw [HV.out]
    refine bodyPost_ret (ret_ad2 rfl _ _ (w.heap.size + 1) noA rfl HS.out.2.1) rfl ?_
    exact ⟨rfl, HS.out.2.2⟩
  · obtain ⟨k, rfl⟩ : ∃ k : Nat, i = k := ⟨i.toNat, by omega⟩
    have hd : decide ((k : Int) < 0) = false := by simp
    by_cases hzk : z ≤ k
    · have HV : Hid (V = (noA, false)) := Lib.hid (by rw [hV]; unfold atR; rw [if_pos (.inr (by rw [← hz]; omega))])
      have hd2 : decide (z ≤ k) = true := by simpa using hzk
      have hd3 : decide ((z : Int) ≤ (k : Int)) = true := by simpa using hzk
      clear hV hz hG h1 h2
      go_enter Tryd.func69, Tryd.ntmps69
      go_wp2_with (go_at_call 66; (with_reducible refine (HZ.out _ ?_).mono ?_); exact HG.out _ HS.out.2.2; rintro e w1 ⟨rfl, hb⟩; replace HS := Lib.hid (HS.out.next hb); obtain ⟨⟨a0, a1, a2, a3⟩, b0, b1, b2⟩ := HS.out.cells; obtain ⟨_, hf0, hf1, hf2⟩ := (show AdB w1 (w.heap.size + 1) false 0 0 from HS.out.2.1).facts; clear hb)
      rw [HV.out]
      refine bodyPost_ret (ret_ad2 rfl _ _ (w.heap.size + 1) noA rfl (AdB.put HS.out.2.1 _ _ _)) rfl ?_
      exact ⟨rfl, put3 HS.out.2.2 (Nat.le_succ _) _ _ _⟩
    · obtain ⟨⟨⟨qs, qh, ql⟩, qb⟩, hq⟩ : ∃ q, q = addA (six, hi, lo) k := ⟨_, rfl⟩
      have HA : Hid (∀ wx, Calls Tryd.prog 89 #[.agg #[.bool six, .int .u64 (hi : Int), .int .u64 (lo : Int)], .int .u64 (k : Int)] wx fun e w' => e = .returned (.tuple #[.agg #[.bool qs, .int .u64 (qh : Int), .int .u64 (ql : Int)], .bool qb]) ∧ Below wx.heap.size wx w') := Lib.hid (fun wx => by
        have := aAdd_any six hi lo k wx h1 h2 (by omega)
        rw [← hq] at this
        exact this)
      have HV : Hid (V = ((qs, qh, ql), qb)) := Lib.hid (by rw [hV]; unfold atR; rw [if_neg (by rw [← hz]; omega), Int.toNat_natCast, hq])
      have hd2 : decide (z ≤ k) = false := by simp; omega
      have hd3 : decide ((z : Int) ≤ (k : Int)) = false := by simp; omega
      have hw : IntKind.u64.wrap (k : Int) = (k : Int) := IntWalk.u64_in _ (by omega)
      have hk1 : (k : Int) < 65536 := by omega
      clear hV hz hG h1 h2 hq hzk
      go_enter Tryd.func69, Tryd.ntmps69
      go_wp2_with (first | (go_at_call 66; (with_reducible refine (HZ.out _ ?_).mono ?_); exact HG.out _ HS.out.2.2; rintro e w1 ⟨rfl, hb⟩; replace HS := Lib.hid (HS.out.next hb); obtain ⟨⟨a0, a1, a2, a3⟩, b0, b1, b2⟩ := HS.out.cells; clear hb) | (go_at_call 89; (with_reducible refine (HA.out _).mono ?_); rintro e w2 ⟨rfl, hb⟩; replace HS := Lib.hid (HS.out.next hb); obtain ⟨_, b0, b1, b2⟩ := HS.out.cells; obtain ⟨_, hf0, hf1, hf2⟩ := (show AdB w2 (w.heap.size + 1) false 0 0 from HS.out.2.1).facts; clear hb))
      rw [HV.out]
      refine bodyPost_ret (ret_ad2 rfl _ _ (w.heap.size + 1) (qs, qh, ql) rfl (AdB.put HS.out.2.1 _ _ _)) rfl ?_
      exact ⟨rfl, put3 HS.out.2.2 (Nat.le_succ _) _ _ _⟩
end Go.Proofs.YthlabpbplikjbaaDoor
namespace Go.Proofs.YthlabpbplikjbaaDoor
open Go.RowKit
set_option linter.unusedVariables false

/-- A call over the listed variables hands back v, and turns nothing that was there. -/
def GG (f : FuncId) (args : Array Value) (v : Value) : Prop := ∀ w : World, Ground w → Calls Tryd.prog f args w fun e w' => e = .returned v ∧ Below w.heap.size w w'
theorem GG.go {f : FuncId} {args : Array Value} {v : Value} (h : GG f args v) (w : World) (hg : Ground w) : Calls Tryd.prog f args w fun e w' => e = .returned v ∧ Below w.heap.size w w' := h w hg
end Go.Proofs.YthlabpbplikjbaaDoor
namespace Go.Proofs.YthlabpbplikjbaaDoor
open Go.RowKit
set_option linter.unusedVariables false

section
variable {six : Bool} {hi lo : Nat} {n : Int}
theorem gAr {i : Int} {s : Bool} {ah al : Nat} {is : Bool} (hf : fitA (six, hi, lo)) (h : atR (six, hi, lo) n i = ((s, ah, al), is)) : GG 69 #[.agg #[.bool six, .int .u64 (hi : Int), .int .u64 (lo : Int), .int .i64 n], .int .i64 i] (.tuple #[.agg #[.bool s, .int .u64 (ah : Int), .int .u64 (al : Int)], .bool is]) := fun w hg => by
  have := rAt_any six hi lo n i w hg hf.1 hf.2
  rw [h] at this
  exact this
theorem gSr {z : Nat} (hf : fitA (six, hi, lo)) (h : sizeR (six, hi, lo) n = z) : GG 66 #[.agg #[.bool six, .int .u64 (hi : Int), .int .u64 (lo : Int), .int .i64 n]] (.int .i64 (z : Int)) := fun w hg => by
  have := rSize_any six hi lo n w hg hf.1 hf.2
  rw [h] at this
  exact this
theorem gCr {c : Nat} (hf : fitA (six, hi, lo)) (h : chkR (six, hi, lo) n = c) : GG 38 #[.agg #[.bool six, .int .u64 (hi : Int), .int .u64 (lo : Int), .int .i64 n]] (.int .i64 (c : Int)) := fun w _ => by
  have := rgCheck_any six hi lo n w hf.1 hf.2
  rw [h] at this
  exact this
theorem gIr {s : Bool} {ah al : Nat} {i : Nat} {is : Bool} (hf : fitA (six, hi, lo)) (hg : fitA (s, ah, al)) (h : idxR (six, hi, lo) n (s, ah, al) = (i, is)) : GG 86 #[.agg #[.bool six, .int .u64 (hi : Int), .int .u64 (lo : Int), .int .i64 n], .agg #[.bool s, .int .u64 (ah : Int), .int .u64 (al : Int)]] (.tuple #[.int .i64 (i : Int), .bool is]) := fun w hG => by
  have := rIndex_any six hi lo n s ah al w hG hf.1 hf.2 hg.1 hg.2
  rw [h] at this
  exact this
theorem gMr {s : Bool} {ah al : Nat} {m : Int} {b : Bool} (hf : fitA (six, hi, lo)) (hg : fitA (s, ah, al)) (h : meetR (six, hi, lo) n (s, ah, al) m = b) : GG 85 #[.agg #[.bool six, .int .u64 (hi : Int), .int .u64 (lo : Int), .int .i64 n], .agg #[.bool s, .int .u64 (ah : Int), .int .u64 (al : Int), .int .i64 m]] (.bool b) := fun w _ => by
  have := rMeet_any six hi lo n s ah al m w hf.1 hf.2 hg.1 hg.2
  rw [h] at this
  exact this
end
end Go.Proofs.YthlabpbplikjbaaDoor
namespace Go.Proofs.YthlabpbplikjbaaDoor
open Go.RowKit
set_option linter.unusedVariables false

/-! ### A row of ranges -/
structure RgCells (w : World) (g o : Nat) (x : Ad × Int) : Prop where
  c0 : w.cell? ⟨g, o, none⟩ = some (.bool x.1.1)
  c1 : w.cell? ⟨g, o + 1, none⟩ = some (.int .u64 (x.1.2.1 : Int))
  c2 : w.cell? ⟨g, o + 2, none⟩ = some (.int .u64 (x.1.2.2 : Int))
  c3 : w.cell? ⟨g, o + 3, none⟩ = some (.int .i64 x.2)
theorem RgCells.below {w w' : World} {g o k : Nat} {x : Ad × Int} (h : RgCells w g o x) (hb : Below k w w') (hk : g < k) : RgCells w' g o x :=
  ⟨(hb.cell (p := ⟨g, o, none⟩) hk).trans h.c0, (hb.cell (p := ⟨g, o + 1, none⟩) hk).trans h.c1, (hb.cell (p := ⟨g, o + 2, none⟩) hk).trans h.c2, (hb.cell (p := ⟨g, o + 3, none⟩) hk).trans h.c3⟩
/-- A slice of ranges, as it can be read. -/
structure RgRow (w : World) (v : Value) (L : List (Ad × Int)) : Prop where
  shape : ∃ A cap, v = .slice A L.length cap ∧ L.length ≤ cap ∧ cap ≤ maxLen ∧ ∀ j (h : j < L.length), ∃ g o, A = some ⟨g, o, none⟩ ∧ g < w.heap.size ∧ RgCells w g (o + j * 4) L[j]
  fits : ∀ x ∈ L, fitA x.1
end Go.Proofs.YthlabpbplikjbaaDoor
