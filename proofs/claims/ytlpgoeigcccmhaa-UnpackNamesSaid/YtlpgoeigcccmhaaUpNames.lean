/-
  The walk of the law UnpackNames. No condition.
-/
import Derived.Test.YtlpgoeigcccmhaaUpLives
namespace Go.Proofs.Ytlpgoeigcccmhaa
open Go.RowKit
set_option linter.unusedVariables false

theorem un0 : Gives 23 #[.string ⟨#[1, 97]⟩, .int .i64 0] (.tuple #[.string ⟨#[]⟩, .int .i64 0, .int .i64 8]) := uN ⟨#[1, 97]⟩ ⟨#[]⟩ 0 0 8 (by decide) ⟨by kernel_rfl, by kernel_rfl, by kernel_rfl⟩
theorem un1 : Gives 23 #[.string ⟨#[1, 97, 192]⟩, .int .i64 0] (.tuple #[.string ⟨#[]⟩, .int .i64 0, .int .i64 8]) := uN ⟨#[1, 97, 192]⟩ ⟨#[]⟩ 0 0 8 (by decide) ⟨by kernel_rfl, by kernel_rfl, by kernel_rfl⟩
theorem un2 : Gives 23 #[.string ⟨#[64]⟩, .int .i64 0] (.tuple #[.string ⟨#[]⟩, .int .i64 0, .int .i64 4]) := uN ⟨#[64]⟩ ⟨#[]⟩ 0 0 4 (by decide) ⟨by kernel_rfl, by kernel_rfl, by kernel_rfl⟩
theorem un3 : Gives 23 #[.string ⟨#[0]⟩, .int .i64 2] (.tuple #[.string ⟨#[]⟩, .int .i64 0, .int .i64 2]) := uN ⟨#[0]⟩ ⟨#[]⟩ 2 0 2 (by decide) ⟨by kernel_rfl, by kernel_rfl, by kernel_rfl⟩
theorem un4 : Gives 23 #[.string ⟨#[1, 97, 192, 0]⟩, .int .i64 0] (.tuple #[.string ⟨#[]⟩, .int .i64 0, .int .i64 4]) := uN ⟨#[1, 97, 192, 0]⟩ ⟨#[]⟩ 0 0 4 (by decide) ⟨by kernel_rfl, by kernel_rfl, by kernel_rfl⟩
theorem un5 : Gives 23 #[.string ⟨#[120, 0, 192, 1]⟩, .int .i64 2] (.tuple #[.string ⟨#[]⟩, .int .i64 4, .int .i64 0]) := uN ⟨#[120, 0, 192, 1]⟩ ⟨#[]⟩ 2 4 0 (by decide) ⟨by kernel_rfl, by kernel_rfl, by kernel_rfl⟩
theorem un6 : Gives 24 #[.string ⟨#[1, 97, 192, 9]⟩, .int .i64 0] (.tuple #[.int .i64 4, .int .i64 0]) := uS ⟨#[1, 97, 192, 9]⟩ 0 4 0 (by decide) ⟨by kernel_rfl, by kernel_rfl⟩
theorem un7 : Gives 24 #[.string ⟨#[1, 97, 128]⟩, .int .i64 0] (.tuple #[.int .i64 0, .int .i64 4]) := uS ⟨#[1, 97, 128]⟩ 0 0 4 (by decide) ⟨by kernel_rfl, by kernel_rfl⟩
theorem un8 : Gives 25 #[.string ⟨#[0, 192, 0]⟩, .int .i64 1] (.tuple #[.string ⟨#[]⟩, .int .i64 0, .int .i64 4]) := uP ⟨#[0, 192, 0]⟩ ⟨#[]⟩ 1 0 4 (by decide) ⟨by kernel_rfl, by kernel_rfl, by kernel_rfl⟩
theorem un9 : Gives 25 #[.string ⟨#[1, 97, 0]⟩, .int .i64 0] (.tuple #[.string ⟨#[1, 97]⟩, .int .i64 3, .int .i64 0]) := uP ⟨#[1, 97, 0]⟩ ⟨#[1, 97]⟩ 0 3 0 (by decide) ⟨by kernel_rfl, by kernel_rfl, by kernel_rfl⟩
theorem un10 : Gives 26 #[.string ⟨#[1, 97, 1, 98, 0, 1, 99, 192, 2]⟩, .int .i64 5] (.int .i64 1) := uJ ⟨#[1, 97, 1, 98, 0, 1, 99, 192, 2]⟩ 5 1 (by decide) (by kernel_rfl)
theorem un11 : Gives 26 #[.string ⟨#[192, 0]⟩, .int .i64 0] (.int .i64 0) := uJ ⟨#[192, 0]⟩ 0 0 (by decide) (by kernel_rfl)
set_option maxHeartbeats 4000000 in
set_option maxRecDepth 100000 in
theorem UnpackNames_walk (w : World) :
    Calls Try.prog 5 #[] w fun e w' => e = .returned (.bool true) ∧ Below w.heap.size w w' := by
  have hbb := Below.refl w.heap.size w
  go_enter Try.func5, Try.ntmps5
  go_wp2_with fail
  refine (ulives.go _).mono ?_
  rintro e w' ⟨rfl, hb'⟩
  replace hbb := next hbb hb'
  clear hb'
  go_wp2_with fail
  refine (un0.go _).mono ?_
  rintro e w' ⟨rfl, hb'⟩
  replace hbb := next hbb hb'
  clear hb'
  go_wp2_with fail
  refine (un1.go _).mono ?_
  rintro e w' ⟨rfl, hb'⟩
  replace hbb := next hbb hb'
  clear hb'
  go_wp2_with fail
  refine (un2.go _).mono ?_
  rintro e w' ⟨rfl, hb'⟩
  replace hbb := next hbb hb'
  clear hb'
  go_wp2_with fail
  refine (un3.go _).mono ?_
  rintro e w' ⟨rfl, hb'⟩
  replace hbb := next hbb hb'
  clear hb'
  go_wp2_with fail
  refine (un4.go _).mono ?_
  rintro e w' ⟨rfl, hb'⟩
  replace hbb := next hbb hb'
  clear hb'
  go_wp2_with fail
  refine (un5.go _).mono ?_
  rintro e w' ⟨rfl, hb'⟩
  replace hbb := next hbb hb'
  clear hb'
  go_wp2_with fail
  refine (un6.go _).mono ?_
  rintro e w' ⟨rfl, hb'⟩
  replace hbb := next hbb hb'
  clear hb'
  go_wp2_with fail
  refine (un7.go _).mono ?_
  rintro e w' ⟨rfl, hb'⟩
  replace hbb := next hbb hb'
  clear hb'
  go_wp2_with fail
  refine (un8.go _).mono ?_
  rintro e w' ⟨rfl, hb'⟩
  replace hbb := next hbb hb'
  clear hb'
  go_wp2_with fail
  refine (un9.go _).mono ?_
  rintro e w' ⟨rfl, hb'⟩
  replace hbb := next hbb hb'
  clear hb'
  go_wp2_with fail
  refine (ulives.go _).mono ?_
  rintro e w' ⟨rfl, hb'⟩
  replace hbb := next hbb hb'
  clear hb'
  go_wp2_with fail
  refine (un10.go _).mono ?_
  rintro e w' ⟨rfl, hb'⟩
  replace hbb := next hbb hb'
  clear hb'
  go_wp2_with fail
  refine (un11.go _).mono ?_
  rintro e w' ⟨rfl, hb'⟩
  replace hbb := next hbb hb'
  clear hb'
  go_wp2
  go_ret
  exact ⟨rfl, hbb⟩
end Go.Proofs.Ytlpgoeigcccmhaa
