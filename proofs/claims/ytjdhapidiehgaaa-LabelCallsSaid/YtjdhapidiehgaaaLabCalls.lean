/-
  LabelCalls: labels are looked at, told and read as the document's own answers: the walk. Condition: the strings are no longer than Go's own limit.
-/
import Derived.Test.YtjdhapidiehgaaaRefC
namespace Go.Proofs.Ytjdhapidiehgaaa
open Go.RowKit
set_option linter.unusedVariables false

theorem calls_long (a b : ByteArray) (at_ : Int) (w : World) (ha : a.size ≤ maxLen) (hb : b.size ≤ maxLen) (h : 300 < a.size ∨ 300 < b.size) :
    Calls Try.prog 4 #[.string a, .string b, .int .i64 at_] w fun e w' => e = .returned (.bool true) ∧ Below w.heap.size w w' := by
  unfold maxLen at ha hb
  by_cases h1 : 300 < a.size
  · clear h
    go_enter Try.func4, Try.ntmps4
    go_wp2_with (go_at_call 9; refine (lives_any _).mono ?_; rintro e w1 ⟨rfl, hb1⟩)
    go_ret
    exact ⟨rfl, hb1⟩
  · have h2 : 300 < b.size := by omega
    clear h
    go_enter Try.func4, Try.ntmps4
    go_wp2_with (go_at_call 9; refine (lives_any _).mono ?_; rintro e w1 ⟨rfl, hb1⟩)
    go_ret
    exact ⟨rfl, hb1⟩

set_option maxHeartbeats 1000000 in
theorem calls_core (a b T X F : ByteArray) (at_ E N G K C : Int) (S : Bool) (w : World) (ha : a.size ≤ 300) (hb : b.size ≤ 300)
    (lText : Gives 16 #[.string a] (.tuple #[.string T, .int .i64 E]))
    (rText : Gives 17 #[.string a] (.tuple #[.string T, .int .i64 E]))
    (lRead : Gives 10 #[.string b, .int .i64 at_] (.tuple #[.string X, .int .i64 N, .int .i64 G]))
    (rRead : Gives 18 #[.string b, .int .i64 at_] (.tuple #[.string X, .int .i64 N, .int .i64 G]))
    (lCheck : Gives 12 #[.string a] (.int .i64 K))
    (rCheck : Gives 19 #[.string a] (.int .i64 K))
    (lFold : Gives 13 #[.string a] (.string F))
    (rFold : Gives 20 #[.string a] (.string F))
    (lSame : Gives 14 #[.string a, .string b] (.bool S))
    (rSame : Gives 21 #[.string a, .string b] (.bool S))
    (lCompare : Gives 15 #[.string a, .string b] (.int .i64 C))
    (rCompare : Gives 22 #[.string a, .string b] (.int .i64 C)) :
    Calls Try.prog 4 #[.string a, .string b, .int .i64 at_] w fun e w' => e = .returned (.bool true) ∧ Below w.heap.size w w' := by
  go_enter Try.func4, Try.ntmps4
  go_wp2_with (go_at_call 9; refine (lives_any _).mono ?_; rintro e w1 ⟨rfl, hb1⟩)
  refine (lText _).mono ?_
  rintro e w2 ⟨rfl, hb2⟩
  go_wp2_with fail
  refine (rText _).mono ?_
  rintro e w3 ⟨rfl, hb3⟩
  go_wp2_with fail
  refine (lRead _).mono ?_
  rintro e w4 ⟨rfl, hb4⟩
  go_wp2_with fail
  refine (rRead _).mono ?_
  rintro e w5 ⟨rfl, hb5⟩
  go_wp2_with fail
  refine (lCheck _).mono ?_
  rintro e w6 ⟨rfl, hb6⟩
  go_wp2_with fail
  refine (rCheck _).mono ?_
  rintro e w7 ⟨rfl, hb7⟩
  go_wp2_with fail
  refine (lFold _).mono ?_
  rintro e w8 ⟨rfl, hb8⟩
  go_wp2_with fail
  refine (rFold _).mono ?_
  rintro e w9 ⟨rfl, hb9⟩
  go_wp2_with fail
  refine (lSame _).mono ?_
  rintro e w10 ⟨rfl, hb10⟩
  go_wp2_with fail
  refine (rSame _).mono ?_
  rintro e w11 ⟨rfl, hb11⟩
  go_wp2_with fail
  refine (lCompare _).mono ?_
  rintro e w12 ⟨rfl, hb12⟩
  go_wp2_with fail
  refine (rCompare _).mono ?_
  rintro e w13 ⟨rfl, hb13⟩
  go_wp2_with fail
  go_ret
  refine ⟨by simp, ?_⟩
  exact next (next (next (next (next (next (next (next (next (next (next (next (hb1) hb2) hb3) hb4) hb5) hb6) hb7) hb8) hb9) hb10) hb11) hb12) hb13

theorem gives_of {f : FuncId} {args : Array Value} {v : Value} (h : ∀ w : World, Calls Try.prog f args w fun e w' => e = .returned v ∧ w = w') : Gives f args v := fun w =>
  (h w).mono fun _ _ ⟨he, hw⟩ => ⟨he, hw ▸ Below.refl _ _⟩

theorem LabelCalls_walk (a b : ByteArray) (at_ : Int) (ha : a.size ≤ maxLen) (hb : b.size ≤ maxLen) (_h : (Lit.int .i64 at_).wf = true) (w : World) :
    Calls Try.prog 4 #[.string a, .string b, .int .i64 at_] w fun e w' => e = .returned (.bool true) ∧ Below w.heap.size w w' := by
  by_cases h : 300 < a.size ∨ 300 < b.size
  · exact calls_long a b at_ w ha hb h
  · obtain ⟨x, hx1, hx2⟩ : ∃ x : List UInt8 × Nat × Nat, Gives 10 #[.string b, .int .i64 at_] (.tuple #[.string ⟨x.1.toArray⟩, .int .i64 x.2.1, .int .i64 x.2.2]) ∧ Gives 18 #[.string b, .int .i64 at_] (.tuple #[.string ⟨x.1.toArray⟩, .int .i64 x.2.1, .int .i64 x.2.2]) := by
      by_cases hk : at_ < 0 ∨ (b.size : Int) < at_
      · exact ⟨([], 0, 2), fun wx => Read_bad b at_ wx hb hk, fun wx => rRead_bad b at_ wx (by omega) hk⟩
      · obtain ⟨k, rfl⟩ := Int.eq_ofNat_of_zero_le (show 0 ≤ at_ by omega)
        exact ⟨rd (bs b) k, fun wx => Read_any b k wx _ hb (by omega) rfl, fun wx => rRead_any b k wx _ (by omega) (by omega) rfl⟩
    exact calls_core a b _ _ _ at_ _ _ _ _ _ _ w (by omega) (by omega) (fun wx => Text_any a wx ha) (fun wx => rText_any a wx ha) hx1 hx2 (gives_of fun wx => Check_any a wx ha) (gives_of fun wx => rCheck_any a wx ha)
      (fun wx => Fold_any a wx ha) (fun wx => rFold_any a wx (by omega)) (fun wx => Same_any a b wx ha hb) (fun wx => rSame_any a b wx (by omega) (by omega)) (fun wx => Compare_any a b wx ha hb) (fun wx => rCompare_any a b wx (by omega) (by omega))
end Go.Proofs.Ytjdhapidiehgaaa
