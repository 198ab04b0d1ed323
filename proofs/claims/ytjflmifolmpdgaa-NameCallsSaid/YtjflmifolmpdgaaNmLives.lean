/-
  The second stage's own examples ('lives') come out true, whatever the memory: the walk. No condition.
-/
import Derived.Test.YtjflmifolmpdgaaNmUse
namespace Go.Proofs.Ytjflmifolmpdgaa
open Go.RowKit

theorem lv1 : Gives 12 #[.string ⟨#[119, 119, 119, 46, 97, 46]⟩] (.tuple #[.string ⟨#[3, 119, 119, 119, 1, 97]⟩, .int .i64 0]) := gRead (e := 0) (by decide) (by decide +kernel)
theorem lv2 : Gives 12 #[.string ⟨#[119, 119, 119, 46, 97]⟩] (.tuple #[.string ⟨#[3, 119, 119, 119, 1, 97]⟩, .int .i64 0]) := gRead (e := 0) (by decide) (by decide +kernel)
theorem lv3 : Gives 38 #[.string ⟨#[1, 42, 1, 97]⟩, .string ⟨#[1, 98, 1, 99, 1, 97]⟩] (.bool true) := gMat (by decide) (by decide) (by decide +kernel)
theorem lv4 : Gives 38 #[.string ⟨#[1, 42, 1, 97]⟩, .string ⟨#[1, 97]⟩] (.bool false) := gMat (by decide) (by decide) (by decide +kernel)

theorem lives2 : Gives 11 #[] (.bool true) := by
  intro w
  go_enter Try.func11, Try.ntmps11
  go_wp2_with fail
  refine (lv1 _).mono ?_
  rintro e w1 ⟨rfl, hb1⟩
  go_wp2_with fail
  refine (lv2 _).mono ?_
  rintro e w2 ⟨rfl, hb2⟩
  go_wp2_with fail
  refine (lv3 _).mono ?_
  rintro e w3 ⟨rfl, hb3⟩
  go_wp2_with fail
  refine (lv4 _).mono ?_
  rintro e w4 ⟨rfl, hb4⟩
  go_wp2
  go_ret
  exact ⟨rfl, next (next (next hb1 hb2) hb3) hb4⟩
end Go.Proofs.Ytjflmifolmpdgaa
