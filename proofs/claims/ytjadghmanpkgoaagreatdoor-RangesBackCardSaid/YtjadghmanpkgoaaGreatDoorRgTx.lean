/-
  Ranges' texts: the walk of ranges.Text; the layer's own examples ('lives') come out true. Conditions: the laid tables' cells and errors (Ground), the addresses' numbers such as their types bear.
-/
import Derived.Test.YtjadghmanpkgoaaGreatDoorRgRd
namespace Go.Proofs.YtjadghmanpkgoaaGreatDoor
open Go.RowKit
set_option linter.unusedVariables false

/-- What Text hands back. -/
def txV (x : List UInt8 × Nat) : Value := .tuple #[.string ⟨x.1.toArray⟩, .int .i64 x.2]
theorem txA_ok {a : Ad} (h : chkA a = 0) : (txA a).2 = 0 := by
  unfold txA
  rw [if_neg (by rw [h]; decide)]
  split <;> rfl
set_option maxHeartbeats 2000000 in
theorem rText_any (six : Bool) (hi lo : Nat) (n : Int) (w : World) (hG : Ground w) (h1 : hi < 18446744073709551616) (h2 : lo < 18446744073709551616) :
    Calls Tryz.prog 34 #[.agg #[.bool six, .int .u64 (hi : Int), .int .u64 (lo : Int), .int .i64 n]] w fun e w' => e = .returned (txV (txR (six, hi, lo) n)) ∧ Below w.heap.size w w' := by
  have HC := Lib.hid fun wx => rCheck_any six hi lo n wx h1 h2
  have HL0 : Hid (RgB (w.alloc (.cells #[.bool six, .int .u64 (hi : Int), .int .u64 (lo : Int), .int .i64 n] 49)) w.heap.size six hi lo n) := Lib.hid (Lies.new _ _ _)
  have HB0 : Hid (Below w.heap.size w (w.alloc (.cells #[.bool six, .int .u64 (hi : Int), .int .u64 (lo : Int), .int .i64 n] 49))) := Lib.hid ((Below.refl _ _).alloc (Nat.le_refl _) _)
  have HG := Lib.hid hG
  by_cases e1 : chkR (six, hi, lo) n = 0
  · obtain ⟨hca, b, rfl, hb, _⟩ := chkR_yes e1
    have hb128 : b ≤ 128 := by
      have : widA six ≤ 128 := by cases six <;> decide
      exact Nat.le_trans hb this
    have hT := fun wx hg => aText_any six hi lo wx h1 h2 hg
    obtain ⟨X, hX⟩ : ∃ X : ByteArray, X = ⟨(txA (six, hi, lo)).1.toArray⟩ := ⟨_, rfl⟩
    have hXb : (txA (six, hi, lo)).1 = bs X := by rw [hX]; exact (bs_mk _).symm
    rw [← hX, txA_ok hca] at hT
    have HT := Lib.hid hT
    have hI := fun wx hg => itoa_any b wx (by omega) hg
    obtain ⟨D, hD⟩ : ∃ D : ByteArray, D = ⟨(decT b).toArray⟩ := ⟨_, rfl⟩
    have hDb : decT b = bs D := by rw [hD]; exact (bs_mk _).symm
    rw [← hD] at hI
    have HI := Lib.hid hI
    have hXs : X.size ≤ 39 := by rw [← bs_length, ← hXb]; exact text_len _
    have hDs : D.size ≤ 3 := by rw [← bs_length, ← hDb]; exact (dec_len ⟨b, by omega⟩).1
    have HV : Hid (txV (txR (six, hi, lo) (b : Int)) = .tuple #[.string (X ++ ⟨#[47]⟩ ++ D), .int .i64 0]) := Lib.hid (by
      unfold txR txV
      rw [if_neg (by omega), Int.toNat_natCast, hXb, hDb]
      have : (⟨(bs X ++ 47 :: bs D).toArray⟩ : ByteArray) = X ++ ⟨#[47]⟩ ++ D := bs_inj (by rw [bs_mk, bs_append, bs_append, List.append_assoc]; rfl)
      rw [this]
      rfl)
    rw [e1] at HC
    have hq1 : ¬ 9223372036854775807 < X.size + (⟨#[47]⟩ : ByteArray).size := by show ¬ _ < X.size + 1; omega
    have hq2 : ¬ 9223372036854775807 < (X ++ ⟨#[47]⟩).size + D.size := by rw [ByteArray.size_append]; show ¬ _ < X.size + 1 + _; omega
    clear hT hI hX hXb hD hDb e1 hca hb h1 h2 hG
    rw [HV.out]
    clear HV
    go_enter Tryz.func34, Tryz.ntmps34
    go_wp2_with (first | (go_at_call 47; (with_reducible refine (HC.out _).mono ?_); rintro e w1 ⟨rfl, hb1⟩; have HB1 := Lib.hid (next HB0.out hb1); have HL1 : Hid (RgB w1 w.heap.size six hi lo b) := Lib.hid (Lies.next HL0.out hb1); clear hb1; obtain ⟨⟨hc0, hc1, hc2, hc3⟩, _⟩ := HL1.out.facts) | (go_at_call 15; (with_reducible refine (HT.out _ (HG.out.next HB1.out)).mono ?_); rintro e w2 ⟨rfl, hb2⟩; have HB2 := Lib.hid (next HB1.out hb2); have HL2 : Hid (RgB w2 w.heap.size six hi lo b) := Lib.hid (Lies.next HL1.out hb2); clear hb2; obtain ⟨⟨hd0, hd1, hd2, hd3⟩, _⟩ := HL2.out.facts) | (go_at_call 93; (with_reducible refine (HI.out _ (HG.out.next HB2.out)).mono ?_); rintro e w3 ⟨rfl, hb3⟩; have HB3 := Lib.hid (next HB2.out hb3); clear hb3) | fail)
    go_ret2
    exact ⟨rfl, HB3.out⟩
  · obtain ⟨c, hc⟩ : ∃ c, c = chkR (six, hi, lo) n := ⟨_, rfl⟩
    have HV : Hid (txV (txR (six, hi, lo) n) = .tuple #[.string ⟨#[]⟩, .int .i64 c]) := Lib.hid (by unfold txR txV; rw [if_pos e1, hc])
    rw [← hc] at HC e1
    have hcb : ((c : Int) != 0) = true := by rw [bne_iff_ne]; omega
    rw [HV.out]
    clear hc e1 h1 h2 hG HV
    go_enter Tryz.func34, Tryz.ntmps34
    go_wp2_with (first | (go_at_call 47; (with_reducible refine (HC.out _).mono ?_); rintro e w1 ⟨rfl, hb1⟩; have HB1 := Lib.hid (next HB0.out hb1); clear hb1) | fail)
    go_ret2
    exact ⟨rfl, HB1.out⟩
end Go.Proofs.YtjadghmanpkgoaaGreatDoor
