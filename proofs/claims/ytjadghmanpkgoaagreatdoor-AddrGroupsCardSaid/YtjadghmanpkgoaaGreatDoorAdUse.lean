/-
  The contracts of layer 4 as the laws meet them; the layer's own examples ('lives') come out true. Conditions: as each theorem names them.
-/
import Derived.Test.YtjadghmanpkgoaaGreatDoorAdBk
import Derived.Test.YtjadghmanpkgoaaGreatDoorAdOf
import Derived.Test.YtjadghmanpkgoaaGreatDoorAdGG
namespace Go.Proofs.YtjadghmanpkgoaaGreatDoor
open Go.RowKit
set_option linter.unusedVariables false

theorem gRd {s : ByteArray} {a : Ad} {e : Nat} (hs : s.size ≤ 900000) (h : rdA (bs s) = (a, e)) : GG 13 #[.string s] (.tuple #[av a, .int .i64 e]) := fun w hg => by
  have := aRead_any s w hs hg
  rw [h] at this
  exact this
theorem gTx {a : Ad} {x : ByteArray} {e : Nat} (ha : fitA a) (h : txA a = (bs x, e)) : GG 15 #[av a] (.tuple #[.string x, .int .i64 e]) := fun w hg => by
  obtain ⟨six, hi, lo⟩ := a
  have := aText_any six hi lo w ha.1 ha.2 hg
  rw [h] at this
  exact this
theorem gRv {a : Ad} {x : ByteArray} {e : Nat} (ha : fitA a) (h : revA a = (bs x, e)) : GG 23 #[av a] (.tuple #[.string x, .int .i64 e]) := fun w hg => by
  obtain ⟨six, hi, lo⟩ := a
  have := aReverse_any six hi lo w ha.1 ha.2 hg
  rw [h] at this
  exact this
theorem gBk {n : ByteArray} {a : Ad} {b : Bool} (hs : n.size ≤ maxLen) (h : bkA (bs n) = (a, b)) : GG 25 #[.string n] (.tuple #[av a, .bool b]) := fun w hg => by
  have := aBack_any n w hs hg
  rw [h] at this
  exact this
theorem gOc {a : Ad} {x : ByteArray} {e : Nat} (ha : fitA a) (h : ocA a = (bs x, e)) : GG 17 #[av a] (.tuple #[.string x, .int .i64 e]) := fun w _ => by
  obtain ⟨six, hi, lo⟩ := a
  have := Octets_any six hi lo w ha.1 ha.2
  rw [h] at this
  exact this
theorem gOf {s : ByteArray} {a : Ad} {e : Nat} (hs : s.size ≤ maxLen) (h : ofA (bs s) = (a, e)) : GG 19 #[.string s] (.tuple #[av a, .int .i64 e]) := fun w _ => by
  have := Of_any s w hs
  rw [h] at this
  exact this
/-! ### The chapter's examples -/
theorem lw1 : GG 13 #[.string ⟨#[49, 58, 48, 58, 48, 58, 50, 58, 48, 58, 48, 58, 48, 58, 51]⟩] (.tuple #[.agg #[.bool true, .int .u64 281474976710658, .int .u64 3], .int .i64 0]) := gRd (a := (true, 281474976710658, 3)) (e := 0) (by decide) (by decide +kernel)
theorem lw2 : GG 15 #[.agg #[.bool true, .int .u64 281474976710658, .int .u64 3]] (.tuple #[.string ⟨#[49, 58, 48, 58, 48, 58, 50, 58, 58, 51]⟩, .int .i64 0]) := gTx (a := (true, 281474976710658, 3)) (x := ⟨#[49, 58, 48, 58, 48, 58, 50, 58, 58, 51]⟩) (e := 0) ⟨by decide, by decide⟩ (by decide +kernel)
theorem lw3 : GG 36 #[.int .u8 1, .int .u8 2, .int .u8 3, .int .u8 4] (.agg #[.bool false, .int .u64 0, .int .u64 16909060]) := gFr 1 2 3 4
theorem lw4 : GG 23 #[.agg #[.bool false, .int .u64 0, .int .u64 16909060]] (.tuple #[.string ⟨#[1, 52, 1, 51, 1, 50, 1, 49, 7, 105, 110, 45, 97, 100, 100, 114, 4, 97, 114, 112, 97]⟩, .int .i64 0]) := gRv (a := (false, 0, 16909060)) (x := ⟨#[1, 52, 1, 51, 1, 50, 1, 49, 7, 105, 110, 45, 97, 100, 100, 114, 4, 97, 114, 112, 97]⟩) (e := 0) ⟨by decide, by decide⟩ (by decide +kernel)
theorem lives4 : GG 12 #[] (.bool true) := fun w hg => by
  have HG := Lib.hid hg
  have hbb : Below w.heap.size w w := Below.refl _ _
  clear hg
  go_enter Tryz.func12, Tryz.ntmps12
  go_wp2_with (first | (go_at_call 13; (with_reducible refine (lw1.go _ HG.out).mono ?_); rintro e w1 ⟨rfl, hb1⟩; replace hbb := next hbb hb1) | (go_at_call 15; (with_reducible refine (lw2.go _ (HG.out.next (hbb.alloc hbb.size _))).mono ?_); rintro e w2 ⟨rfl, hb2⟩; replace hbb := next (hbb.alloc hbb.size _) hb2) | (go_at_call 36; (with_reducible refine (lw3.go _ (HG.out.next hbb)).mono ?_); rintro e w3 ⟨rfl, hb3⟩; replace hbb := next hbb hb3) | (go_at_call 23; (with_reducible refine (lw4.go _ (HG.out.next hbb)).mono ?_); rintro e w4 ⟨rfl, hb4⟩; replace hbb := next hbb hb4) | fail)
  go_ret
  exact ⟨rfl, hbb⟩
end Go.Proofs.YtjadghmanpkgoaaGreatDoor
