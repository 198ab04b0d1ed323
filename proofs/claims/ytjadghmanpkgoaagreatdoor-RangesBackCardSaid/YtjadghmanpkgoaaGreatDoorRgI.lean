/-
  An address' place in a range: the walk of ranges.Index. Conditions: the laid tables' cells (Ground), the addresses' numbers such as their types bear.
-/
import Derived.Test.YtjadghmanpkgoaaGreatDoorRgS
namespace Go.Proofs.YtjadghmanpkgoaaGreatDoor
open Go.RowKit
set_option linter.unusedVariables false

/-- A range's box and an address' box lie. -/
def RA2 (w wr : World) (six : Bool) (hi lo : Nat) (n : Int) (s : Bool) (ah al : Nat) : Prop :=
  Lies wr w.heap.size 49 #[.bool six, .int .u64 (hi : Int), .int .u64 (lo : Int), .int .i64 n] ∧ Lies wr (w.heap.size + 1) 24 #[.bool s, .int .u64 (ah : Int), .int .u64 (al : Int)] ∧ Below w.heap.size w wr
theorem RA2.next {w wr w' : World} {six : Bool} {hi lo : Nat} {n : Int} {s : Bool} {ah al : Nat} (r : RA2 w wr six hi lo n s ah al) (hb : Below wr.heap.size wr w') : RA2 w w' six hi lo n s ah al :=
  ⟨r.1.next hb, r.2.1.next hb, r.2.2.trans (hb.mono r.2.2.size)⟩
theorem RA2.cells {w wr : World} {six : Bool} {hi lo : Nat} {n : Int} {s : Bool} {ah al : Nat} (r : RA2 w wr six hi lo n s ah al) :
    (wr.cell? ⟨w.heap.size, 0, none⟩ = some (.bool six) ∧ wr.cell? ⟨w.heap.size, 1, none⟩ = some (.int .u64 (hi : Int)) ∧ wr.cell? ⟨w.heap.size, 2, none⟩ = some (.int .u64 (lo : Int)) ∧ wr.cell? ⟨w.heap.size, 3, none⟩ = some (.int .i64 n)) ∧
    wr.cell? ⟨w.heap.size + 1, 0, none⟩ = some (.bool s) ∧ wr.cell? ⟨w.heap.size + 1, 1, none⟩ = some (.int .u64 (ah : Int)) ∧ wr.cell? ⟨w.heap.size + 1, 2, none⟩ = some (.int .u64 (al : Int)) :=
  ⟨⟨r.1.cell 0, r.1.cell 1, r.1.cell 2, r.1.cell 3⟩, r.2.1.cell 0, r.2.1.cell 1, r.2.1.cell 2⟩
theorem RA2.start {w : World} {six : Bool} {hi lo : Nat} {n : Int} {s : Bool} {ah al : Nat} : RA2 w ((w.alloc (.cells #[.bool six, .int .u64 (hi : Int), .int .u64 (lo : Int), .int .i64 n] 49)).alloc (.cells #[.bool s, .int .u64 (ah : Int), .int .u64 (al : Int)] 24)) six hi lo n s ah al := by
  have := Lies.new (w.alloc (.cells #[.bool six, .int .u64 (hi : Int), .int .u64 (lo : Int), .int .i64 n] 49)) 24 #[.bool s, .int .u64 (ah : Int), .int .u64 (al : Int)]
  rw [show (w.alloc (.cells #[.bool six, .int .u64 (hi : Int), .int .u64 (lo : Int), .int .i64 n] 49)).heap.size = w.heap.size + 1 by simp] at this
  exact ⟨(Lies.new w _ _).alloc _, this, ((Below.refl _ _).alloc (Nat.le_refl _) _).alloc (by simp) _⟩
theorem sizeR_le (r : Ad) (n : Int) : sizeR r n ≤ 65536 := by
  unfold sizeR
  split
  · exact Nat.pow_le_pow_right (n := 2) (j := 16) (by omega) (Nat.min_le_right _ _)
  · omega
/-- What Index hands back. -/
def ixV (x : Nat × Bool) : Value := .tuple #[.int .i64 x.1, .bool x.2]
set_option maxHeartbeats 2000000 in
theorem rIndex_any (six : Bool) (hi lo : Nat) (n : Int) (s : Bool) (ah al : Nat) (w : World) (hG : Ground w) (h1 : hi < 18446744073709551616) (h2 : lo < 18446744073709551616) (h3 : ah < 18446744073709551616) (h4 : al < 18446744073709551616) :
    Calls Tryz.prog 35 #[.agg #[.bool six, .int .u64 (hi : Int), .int .u64 (lo : Int), .int .i64 n], .agg #[.bool s, .int .u64 (ah : Int), .int .u64 (al : Int)]] w fun e w' => e = .returned (ixV (idxR (six, hi, lo) n (s, ah, al))) ∧ Below w.heap.size w w' := by
  have HH := Lib.hid (fun wx => rHas_any six hi lo n s ah al wx h1 h2 h3 h4)
  have HZ := Lib.hid (fun wx hg => rSize_any six hi lo n wx hg h1 h2)
  have HS := Lib.hid (RA2.start (w := w) (six := six) (hi := hi) (lo := lo) (n := n) (s := s) (ah := ah) (al := al))
  have HG := Lib.hid (fun wx (hb : Below w.heap.size w wx) => hG.next hb)
  obtain ⟨V, hV⟩ : ∃ V, V = ixV (idxR (six, hi, lo) n (s, ah, al)) := ⟨_, rfl⟩
  rw [← hV]
  obtain ⟨o, ho⟩ : ∃ o, o = offR (six, hi, lo) (s, ah, al) := ⟨_, rfl⟩
  have hol : o < 18446744073709551616 := by rw [ho]; exact Nat.mod_lt _ (by decide)
  have hoI' : ((al : Int) - lo) % 18446744073709551616 = o := by
    rw [ho]
    unfold offR
    show _ = (((al + (18446744073709551616 - lo)) % 18446744073709551616 : Nat) : Int)
    omega
  have hoI : IntKind.u64.wrap ((al : Int) - lo) = o := by rw [IntKind.wrap_u64]; exact hoI'
  clear hoI'
  obtain ⟨z, hz⟩ : ∃ z, z = sizeR (six, hi, lo) n := ⟨_, rfl⟩
  have hzl : z ≤ 65536 := by rw [hz]; exact sizeR_le _ _
  rw [← hz] at HZ
  rcases hx : hasR (six, hi, lo) n (s, ah, al) with _ | _
  · have HV : Hid (V = .tuple #[.int .i64 0, .bool false]) := Lib.hid (by rw [hV]; unfold ixV idxR; rw [if_pos (.inl hx)]; rfl)
    rw [hx] at HH
    clear hV ho hoI hz hx hG h1 h2 h3 h4
    go_enter Tryz.func35, Tryz.ntmps35
    go_wp2_with (go_at_call 40; (with_reducible refine (HH.out _).mono ?_); rintro e w1 ⟨rfl, hb⟩; replace HS := Lib.hid (HS.out.next hb); obtain ⟨⟨a0, a1, a2, a3⟩, b0, b1, b2⟩ := HS.out.cells; clear hb)
    go_ret2
    exact ⟨by rw [HV.out]; rfl, HS.out.2.2⟩
  · rw [hx] at HH
    by_cases hh : ah = hi
    · by_cases hzo : z ≤ o
      · have HV : Hid (V = .tuple #[.int .i64 0, .bool false]) := Lib.hid (by rw [hV]; unfold ixV idxR; rw [if_pos (.inr (.inr (by rw [← hz, ← ho]; exact hzo)))]; rfl)
        have hd : decide ((z : Int) ≤ (o : Int)) = true := by simp; omega
        have hd2 : decide (z ≤ o) = true := by simp; omega
        have hq : ((ah : Int) != (hi : Int)) = false := by rw [hh]; simp
        clear hV ho hz hx hG h1 h2 h3 h4 hh
        go_enter Tryz.func35, Tryz.ntmps35
        go_wp2_with (first | (go_at_call 40; (with_reducible refine (HH.out _).mono ?_); rintro e w1 ⟨rfl, hb⟩; replace HS := Lib.hid (HS.out.next hb); obtain ⟨⟨a0, a1, a2, a3⟩, b0, b1, b2⟩ := HS.out.cells; clear hb) | (go_at_call 38; (with_reducible refine (HZ.out _ ?_).mono ?_); exact HG.out _ HS.out.2.2; rintro e w1 ⟨rfl, hb⟩; replace HS := Lib.hid (HS.out.next hb); obtain ⟨⟨a0, a1, a2, a3⟩, b0, b1, b2⟩ := HS.out.cells; clear hb))
        go_ret2
        exact ⟨by rw [HV.out]; rfl, HS.out.2.2⟩
      · have HV : Hid (V = .tuple #[.int .i64 o, .bool true]) := Lib.hid (by
          rw [hV]
          unfold ixV idxR
          rw [if_neg (by rintro (e | e | e); (· rw [hx] at e; cases e); (· exact e hh); (· rw [← hz, ← ho] at e; exact hzo e)), ← ho])
        have hd : decide ((z : Int) ≤ (o : Int)) = false := by simp; omega
        have hd2 : decide (z ≤ o) = false := by simp; omega
        have hq : ((ah : Int) != (hi : Int)) = false := by rw [hh]; simp
        have hoz : o < 65536 := by omega
        clear hV ho hz hx hG h1 h2 h3 h4 hh
        go_enter Tryz.func35, Tryz.ntmps35
        go_wp2_with (first | (go_at_call 40; (with_reducible refine (HH.out _).mono ?_); rintro e w1 ⟨rfl, hb⟩; replace HS := Lib.hid (HS.out.next hb); obtain ⟨⟨a0, a1, a2, a3⟩, b0, b1, b2⟩ := HS.out.cells; clear hb) | (go_at_call 38; (with_reducible refine (HZ.out _ ?_).mono ?_); exact HG.out _ HS.out.2.2; rintro e w1 ⟨rfl, hb⟩; replace HS := Lib.hid (HS.out.next hb); obtain ⟨⟨a0, a1, a2, a3⟩, b0, b1, b2⟩ := HS.out.cells; clear hb))
        go_ret2
        exact ⟨by rw [HV.out]; rfl, HS.out.2.2⟩
    · have HV : Hid (V = .tuple #[.int .i64 0, .bool false]) := Lib.hid (by rw [hV]; unfold ixV idxR; rw [if_pos (.inr (.inl hh))]; rfl)
      have hq : ((ah : Int) != (hi : Int)) = true := by rw [bne_iff_ne]; omega
      clear hV ho hoI hz hx hG h1 h2 h3 h4 hh
      go_enter Tryz.func35, Tryz.ntmps35
      go_wp2_with (go_at_call 40; (with_reducible refine (HH.out _).mono ?_); rintro e w1 ⟨rfl, hb⟩; replace HS := Lib.hid (HS.out.next hb); obtain ⟨⟨a0, a1, a2, a3⟩, b0, b1, b2⟩ := HS.out.cells; clear hb)
      go_ret2
      exact ⟨by rw [HV.out]; rfl, HS.out.2.2⟩
end Go.Proofs.YtjadghmanpkgoaaGreatDoor
