/-
  What name.Compare, Same, Under answer, by slices.CompareFunc and EqualFunc over rows of labels: the walks. Condition: the names are no longer than Go's own limit.
-/
import Derived.Test.YtmjhofgcfolelaaNmBack
import Derived.Test.YtmjhofgcfolelaaLabSame
namespace Go.Proofs.Ytmjhofgcfolelaa
open Go.RowKit Go.Shelf
set_option linter.unusedVariables false

theorem SRow.at {W : World} {A : Option Addr} {cap n : Nat} {L : List ByteArray} (h : SRow W (.slice A n cap) L) {k : Nat} (hk : k < L.length) : ∃ g off, A = some ⟨g, off, none⟩ ∧ W.cell? ⟨g, off + k, none⟩ = some (.string L[k]) := by
  rcases h with ⟨_, _, rfl⟩ | ⟨g, off, c, h1, _, _, _, h5⟩
  · simp at hk
  · injection h1 with h1
    exact ⟨g, off, h1, h5 k hk⟩
theorem drop_str (L : List ByteArray) (k : Nat) (h : k < L.length) : (L.map bs).drop k = bs L[k] :: (L.map bs).drop (k + 1) := by
  rw [List.drop_eq_getElem_cons (by simpa using h), List.getElem_map]
theorem drop_nil (L : List ByteArray) (k : Nat) (h : L.length ≤ k) : (L.map bs).drop k = [] := List.drop_eq_nil_of_le (by rw [List.length_map]; exact h)

/-- The relation of CompareFunc's loop: what is left is to be compared. -/
def CfRel (w : World) (X Y : List ByteArray) (R : Int) (i : Value) (wr : World) : Prop :=
  ∃ k : Nat, i = .int .i64 k ∧ k ≤ X.length ∧ k ≤ Y.length ∧ Hid (cmpW ((X.map bs).drop k) ((Y.map bs).drop k) = R) ∧ Below w.heap.size w wr

set_option maxHeartbeats 2000000 in
theorem CompareFunc_any (A C : Option Addr) (ca cc : Nat) (X Y : List ByteArray) (w : World) (hX : SRow w (.slice A X.length ca) X) (hY : SRow w (.slice C Y.length cc) Y) (hXn : X.length ≤ 127) (hYn : Y.length ≤ 127) (hXs : ∀ x ∈ X, x.size ≤ maxLen) (hYs : ∀ y ∈ Y, y.size ≤ maxLen) :
    Calls Try.prog 40 #[.slice A X.length ca, .slice C Y.length cc, .func (.func 42) #[] #[]] w fun e w' => e = .returned (.int .i64 (cmpW (X.map bs) (Y.map bs))) ∧ Below w.heap.size w w' := by
  obtain ⟨R, hR⟩ : ∃ R, R = cmpW (X.map bs) (Y.map bs) := ⟨_, rfl⟩
  have HR0 : Hid (CfRel w X Y R (.int .i64 0) w) := Lib.hid ⟨0, rfl, Nat.zero_le _, Nat.zero_le _, Lib.hid hR.symm, Below.refl _ _⟩
  rw [← hR]
  have HX := Lib.hid hX
  have HY := Lib.hid hY
  have HXS := Lib.hid hXs
  have HYS := Lib.hid hYs
  clear hX hY hXs hYs hR
  go_enter Try.func40, Try.ntmps40
  go_wp2
  go_loopw [13] (fun i wr => CfRel w X Y R i wr) (fun i _ => X.length - (intOf i).toNat)
  case atStart => exact HR0.out
  case round =>
    clear HR0
    obtain ⟨k, rfl, hkx, hky, hr, hb⟩ := hrel
    by_cases hx : k < X.length
    · obtain ⟨g, off, hA, hcx⟩ := (HX.out.below hb (Nat.le_refl _)).at hx
      subst hA
      by_cases hy : k < Y.length
      · obtain ⟨g', off', hC, hcy⟩ := (HY.out.below hb (Nat.le_refl _)).at hy
        subst hC
        have HC := Lib.hid (fun wx => Compare_any X[k] Y[k] wx (HXS.out _ (List.getElem_mem hx)) (HYS.out _ (List.getElem_mem hy)))
        have hs := hr.out
        rw [drop_str X k hx, drop_str Y k hy] at hs
        have hs' : (if cmp (bs X[k]) (bs Y[k]) = 0 then cmpW ((X.map bs).drop (k + 1)) ((Y.map bs).drop (k + 1)) else cmp (bs X[k]) (bs Y[k])) = R := hs
        clear hs
        by_cases h0 : cmp (bs X[k]) (bs Y[k]) = 0
        · rw [if_pos h0] at hs'
          have HS := Lib.hid hs'
          have hb0 : (cmp (bs X[k]) (bs Y[k]) != 0) = false := bne_eq_false_iff_eq.2 h0
          clear hs' h0 hr
          go_wp2_with (go_at_call 42; refine (HC.out _).mono ?_; rintro e w1 ⟨rfl, hb1⟩)
          go_roundw
          case rel => exact ⟨k + 1, by go_num, hx, hy, HS, hb.trans (hb1.mono hb.size)⟩
          case measure => simp [intOf]; omega
        · rw [if_neg h0] at hs'
          have HS := Lib.hid hs'
          have hb0 : (cmp (bs X[k]) (bs Y[k]) != 0) = true := bne_iff_ne.2 h0
          clear hs' h0 hr
          go_wp2_with (go_at_call 42; refine (HC.out _).mono ?_; rintro e w1 ⟨rfl, hb1⟩)
          go_ret
          exact ⟨by rw [← HS.out]; rfl, hb.trans (hb1.mono hb.size)⟩
      · have hs := hr.out
        rw [drop_str X k hx, drop_nil Y k (by omega)] at hs
        have HS : Hid (R = 1) := Lib.hid hs.symm
        obtain rfl : k = Y.length := by omega
        clear hs hr
        go_wp2
        go_ret
        exact ⟨by rw [HS.out]; rfl, hb⟩
    · obtain rfl : k = X.length := by omega
      have hs := hr.out
      rw [drop_nil X _ (Nat.le_refl _)] at hs
      by_cases hy : X.length < Y.length
      · rw [drop_str Y _ hy] at hs
        have HS : Hid (R = -1) := Lib.hid hs.symm
        clear hs hr
        go_wp2
        go_ret
        exact ⟨by rw [HS.out]; rfl, hb⟩
      · rw [drop_nil Y _ (by omega)] at hs
        have HS : Hid (R = 0) := Lib.hid hs.symm
        clear hs hr
        go_wp2
        go_ret
        exact ⟨by rw [HS.out]; rfl, hb⟩

/-- The relation of EqualFunc's loop. -/
def EfRel (w : World) (X Y : List ByteArray) (R : Bool) (i : Value) (wr : World) : Prop :=
  ∃ k : Nat, i = .int .i64 k ∧ k ≤ X.length ∧ Hid (eqW ((X.map bs).drop k) ((Y.map bs).drop k) = R) ∧ Below w.heap.size w wr

theorem eqW_len : ∀ X Y : List (List UInt8), X.length ≠ Y.length → eqW X Y = false
  | [], [], h => absurd rfl h
  | [], _ :: _, _ => rfl
  | _ :: _, [], _ => rfl
  | x :: X, y :: Y, h => by
    unfold eqW
    rw [eqW_len X Y (by simpa using h), Bool.and_false]

end Go.Proofs.Ytmjhofgcfolelaa
