/-
  What unpack's calls hand back, as the laws meet it; the stage's own examples ('lives'). No condition.
-/
import Derived.Test.YtlpgoeigcccmhaaUpSkip
import Derived.Test.YtlpgoeigcccmhaaBt
namespace Go.Proofs.Ytlpgoeigcccmhaa
open Go.RowKit
set_option linter.unusedVariables false

theorem uN (S x : ByteArray) (a e f : Int) (hs : S.size ≤ maxLen) (h : (readU (bs S) a a).l = bs x ∧ ((readU (bs S) a a).e : Int) = e ∧ ((readU (bs S) a a).f : Int) = f) :
    Gives 23 #[.string S, .int .i64 a] (.tuple #[.string x, .int .i64 e, .int .i64 f]) := fun w => by
  refine (uName_any S a w hs).mono ?_
  rintro en w' ⟨rfl, hb⟩
  rw [h.1, h.2.1, h.2.2, ← bs_eq rfl]
  exact ⟨rfl, hb⟩
theorem uP (S x : ByteArray) (a e f : Int) (hs : S.size ≤ maxLen) (h : (readU (bs S) a 0).l = bs x ∧ ((readU (bs S) a 0).e : Int) = e ∧ ((readU (bs S) a 0).f : Int) = f) :
    Gives 25 #[.string S, .int .i64 a] (.tuple #[.string x, .int .i64 e, .int .i64 f]) := fun w => by
  refine (uPlain_any S a w hs).mono ?_
  rintro en w' ⟨rfl, hb⟩
  rw [h.1, h.2.1, h.2.2, ← bs_eq rfl]
  exact ⟨rfl, hb⟩
theorem uS (S : ByteArray) (a e f : Int) (hs : S.size ≤ maxLen) (h : ((skipU (bs S) a).1 : Int) = e ∧ ((skipU (bs S) a).2 : Int) = f) :
    Gives 24 #[.string S, .int .i64 a] (.tuple #[.int .i64 e, .int .i64 f]) := fun w => by
  refine (uSkip_any S a w hs).mono ?_
  rintro en w' ⟨rfl, hb⟩
  rw [h.1, h.2]
  exact ⟨rfl, hb⟩
theorem uJ (S : ByteArray) (a j : Int) (hs : S.size ≤ maxLen) (h : ((readU (bs S) a a).j : Int) = j) :
    Gives 26 #[.string S, .int .i64 a] (.int .i64 j) := fun w => by
  refine (uJumps_any S a w hs).mono ?_
  rintro en w' ⟨rfl, hb⟩
  rw [h]
  exact ⟨rfl, hb⟩

theorem ul1 : Gives 23 #[.string ⟨#[1, 97, 1, 98, 0, 1, 99, 192, 2]⟩, .int .i64 5] (.tuple #[.string ⟨#[1, 99, 1, 98]⟩, .int .i64 9, .int .i64 0]) := uN ⟨#[1, 97, 1, 98, 0, 1, 99, 192, 2]⟩ ⟨#[1, 99, 1, 98]⟩ 5 9 0 (by decide) ⟨by kernel_rfl, by kernel_rfl, by kernel_rfl⟩
theorem ul2 : Gives 23 #[.string ⟨#[192, 0]⟩, .int .i64 0] (.tuple #[.string ⟨#[]⟩, .int .i64 0, .int .i64 4]) := uN ⟨#[192, 0]⟩ ⟨#[]⟩ 0 0 4 (by decide) ⟨by kernel_rfl, by kernel_rfl, by kernel_rfl⟩
set_option maxHeartbeats 1000000 in
theorem ulives_any (w : World) : Calls Try.prog 22 #[] w fun e w' => e = .returned (.bool true) ∧ Below w.heap.size w w' := by
  have hbb := Below.refl w.heap.size w
  go_enter Try.func22, Try.ntmps22
  go_wp2_with fail
  refine (ul1.go _).mono ?_
  rintro e w' ⟨rfl, hb'⟩
  replace hbb := next hbb hb'
  clear hb'
  go_wp2_with fail
  refine (ul2.go _).mono ?_
  rintro e w' ⟨rfl, hb'⟩
  replace hbb := next hbb hb'
  clear hb'
  go_wp2
  go_ret
  exact ⟨rfl, hbb⟩
theorem ulives : Gives 22 #[] (.bool true) := ulives_any
end Go.Proofs.Ytlpgoeigcccmhaa
