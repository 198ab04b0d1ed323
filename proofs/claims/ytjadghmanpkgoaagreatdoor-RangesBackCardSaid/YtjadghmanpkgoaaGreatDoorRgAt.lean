/-
  The address at a place of a range: the walk of ranges.At. Conditions: the laid tables' cells (Ground), the addresses' numbers such as their types bear.
-/
import Derived.Test.YtjadghmanpkgoaaGreatDoorRgI
import Derived.Test.YtjadghmanpkgoaaGreatDoorRgMth
namespace Go.Proofs.YtjadghmanpkgoaaGreatDoor
open Go.RowKit
set_option linter.unusedVariables false

/-- What At hands back. -/
def atV (x : Ad × Bool) : Value := .tuple #[av x.1, .bool x.2]
set_option maxHeartbeats 2000000 in
set_option maxRecDepth 20000 in
theorem rAt_any (six : Bool) (hi lo : Nat) (n i : Int) (w : World) (hG : Ground w) (h1 : hi < 18446744073709551616) (h2 : lo < 18446744073709551616) :
    Calls Tryz.prog 37 #[.agg #[.bool six, .int .u64 (hi : Int), .int .u64 (lo : Int), .int .i64 n], .int .i64 i] w fun e w' => e = .returned (atV (atR (six, hi, lo) n i)) ∧ Below w.heap.size w w' := by
  have HZ := Lib.hid (fun wx hg => rSize_any six hi lo n wx hg h1 h2)
  have HS : Hid (RA2 w ((w.alloc (.cells #[.bool six, .int .u64 (hi : Int), .int .u64 (lo : Int), .int .i64 n] 49)).alloc (.cells #[.bool false, .int .u64 0, .int .u64 0] 24)) six hi lo n false 0 0) := Lib.hid (RA2.start (w := w) (six := six) (hi := hi) (lo := lo) (n := n) (s := false) (ah := 0) (al := 0))
  have HG := Lib.hid (fun wx (hb : Below w.heap.size w wx) => hG.next hb)
  obtain ⟨V, hV⟩ : ∃ V, V = atR (six, hi, lo) n i := ⟨_, rfl⟩
  rw [← hV]
  obtain ⟨z, hz⟩ : ∃ z, z = sizeR (six, hi, lo) n := ⟨_, rfl⟩
  have hzl : z ≤ 65536 := by rw [hz]; exact sizeR_le _ _
  rw [← hz] at HZ
  by_cases hneg : i < 0
  · have HV : Hid (V = (noA, false)) := Lib.hid (by rw [hV]; unfold atR; rw [if_pos (.inl hneg)])
    have hd : decide (i < 0) = true := by simpa using hneg
    clear hV hz hG h1 h2 HZ
    go_enter Tryz.func37, Tryz.ntmps37
    go_wp2
    rw [HV.out]
    refine bodyPost_ret (ret_ad2 rfl _ _ (w.heap.size + 1) noA rfl HS.out.2.1) rfl ?_
    exact ⟨rfl, HS.out.2.2⟩
  · obtain ⟨k, rfl⟩ : ∃ k : Nat, i = k := ⟨i.toNat, by omega⟩
    have hd : decide ((k : Int) < 0) = false := by simp
    by_cases hzk : z ≤ k
    · have HV : Hid (V = (noA, false)) := Lib.hid (by rw [hV]; unfold atR; rw [if_pos (.inr (by rw [← hz]; omega))])
      have hd2 : decide (z ≤ k) = true := by simpa using hzk
      have hd3 : decide ((z : Int) ≤ (k : Int)) = true := by simpa using hzk
      clear hV hz hG h1 h2
      go_enter Tryz.func37, Tryz.ntmps37
      go_wp2_with (go_at_call 38; (with_reducible refine (HZ.out _ ?_).mono ?_); exact HG.out _ HS.out.2.2; rintro e w1 ⟨rfl, hb⟩; replace HS := Lib.hid (HS.out.next hb); obtain ⟨⟨a0, a1, a2, a3⟩, b0, b1, b2⟩ := HS.out.cells; obtain ⟨_, hf0, hf1, hf2⟩ := (show AdB w1 (w.heap.size + 1) false 0 0 from HS.out.2.1).facts; clear hb)
      rw [HV.out]
      refine bodyPost_ret (ret_ad2 rfl _ _ (w.heap.size + 1) noA rfl (AdB.put HS.out.2.1 _ _ _)) rfl ?_
      exact ⟨rfl, put3 HS.out.2.2 (Nat.le_succ _) _ _ _⟩
    · obtain ⟨⟨⟨qs, qh, ql⟩, qb⟩, hq⟩ : ∃ q, q = addA (six, hi, lo) k := ⟨_, rfl⟩
      have HA : Hid (∀ wx, Calls Tryz.prog 21 #[.agg #[.bool six, .int .u64 (hi : Int), .int .u64 (lo : Int)], .int .u64 (k : Int)] wx fun e w' => e = .returned (.tuple #[.agg #[.bool qs, .int .u64 (qh : Int), .int .u64 (ql : Int)], .bool qb]) ∧ Below wx.heap.size wx w') := Lib.hid (fun wx => by
        have := aAdd_any six hi lo k wx h1 h2 (by omega)
        rw [← hq] at this
        exact this)
      have HV : Hid (V = ((qs, qh, ql), qb)) := Lib.hid (by rw [hV]; unfold atR; rw [if_neg (by rw [← hz]; omega), Int.toNat_natCast, hq])
      have hd2 : decide (z ≤ k) = false := by simp; omega
      have hd3 : decide ((z : Int) ≤ (k : Int)) = false := by simp; omega
      have hw : IntKind.u64.wrap (k : Int) = (k : Int) := IntWalk.u64_in _ (by omega)
      have hk1 : (k : Int) < 65536 := by omega
      clear hV hz hG h1 h2 hq hzk
      go_enter Tryz.func37, Tryz.ntmps37
      go_wp2_with (first | (go_at_call 38; (with_reducible refine (HZ.out _ ?_).mono ?_); exact HG.out _ HS.out.2.2; rintro e w1 ⟨rfl, hb⟩; replace HS := Lib.hid (HS.out.next hb); obtain ⟨⟨a0, a1, a2, a3⟩, b0, b1, b2⟩ := HS.out.cells; clear hb) | (go_at_call 21; (with_reducible refine (HA.out _).mono ?_); rintro e w2 ⟨rfl, hb⟩; replace HS := Lib.hid (HS.out.next hb); obtain ⟨_, b0, b1, b2⟩ := HS.out.cells; obtain ⟨_, hf0, hf1, hf2⟩ := (show AdB w2 (w.heap.size + 1) false 0 0 from HS.out.2.1).facts; clear hb))
      rw [HV.out]
      refine bodyPost_ret (ret_ad2 rfl _ _ (w.heap.size + 1) (qs, qh, ql) rfl (AdB.put HS.out.2.1 _ _ _)) rfl ?_
      exact ⟨rfl, put3 HS.out.2.2 (Nat.le_succ _) _ _ _⟩
end Go.Proofs.YtjadghmanpkgoaaGreatDoor
