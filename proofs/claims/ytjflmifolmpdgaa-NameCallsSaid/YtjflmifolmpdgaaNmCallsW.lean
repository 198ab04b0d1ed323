/-
  NameCalls, whole: for every two names, labels, text. Condition: what came in is no longer than Go's own limit.
-/
import Derived.Test.YtjflmifolmpdgaaNmCalls
namespace Go.Proofs.Ytjflmifolmpdgaa
open Go.RowKit
set_option linter.unusedVariables false

theorem Make_empty (A : Option Addr) (cap : Nat) (w : World) : Calls Try.prog 23 #[.slice A 0 cap] w (Nm w (mkN [])) := by
  go_enter Try.func23, Try.ntmps23
  go_wp2
  go_loopw [4, 10] (fun v i wr => v = .slice none 0 0 ∧ i = .int .i64 0 ∧ wr = w) (fun _ _ _ => 0)
  case atStart => exact ⟨rfl, rfl, rfl⟩
  case round =>
    obtain ⟨rfl, rfl, rfl⟩ := hrel
    go_wp2_with (go_at_call 42; refine (named_any _ [] wr.heap.size _ (Own.none_ _ _) (by decide)).mono ?_; rintro e w1 ⟨rfl, rfl⟩)
    go_ret2
    exact ⟨rfl, Below.refl _ _⟩
theorem rMake_empty (A : Option Addr) (cap : Nat) (w : World) : Calls Try.prog 24 #[.slice A 0 cap] w (Nm w (mkN [])) := by
  go_enter Try.func24, Try.ntmps24
  go_wp2
  go_loop [5] (fun i => i = .int .i64 0) (fun _ => 0)
  case atStart => exact rfl
  case round =>
    obtain rfl := hrel
    go_wp2
    go_loop [4, 7] (fun s i => s = .string ⟨#[]⟩ ∧ i = .int .i64 0) (fun _ _ => 0)
    case atStart => exact ⟨rfl, rfl⟩
    case round =>
      obtain ⟨rfl, rfl⟩ := hrel
      go_wp2
      go_ret2
      exact ⟨rfl, Below.refl _ _⟩

theorem later_of {w : World} {f : FuncId} {args : Array Value} {x : List UInt8 × Nat} {M : ByteArray} (hM : bs M = x.1) (h : ∀ wx, Below w.heap.size w wx → Calls Try.prog f args wx (Nm wx x)) : Later w f args (.tuple #[.string M, .int .i64 x.2]) := fun wx hb => by
  refine (h wx hb).mono ?_
  rintro e w' ⟨rfl, hb'⟩
  rw [← hM]
  exact ⟨rfl, hb'⟩

theorem NameCalls_walk (a b s : ByteArray) (A : Option Addr) (L : List ByteArray) (cap : Nat) (w : World) (ha : a.size ≤ maxLen) (hb : b.size ≤ maxLen) (hs : s.size ≤ maxLen) (hn : L.length ≤ maxLen) (hL : ∀ x ∈ L, x.size ≤ maxLen) (hrow : SRow w (.slice A L.length cap) L ∨ L = []) :
    Calls Try.prog 4 #[.string a, .string b, .slice A L.length cap, .string s] w fun e w' => e = .returned (.bool true) ∧ Below w.heap.size w w' := by
  by_cases h : 400 < a.size ∨ (a.size ≤ 400 ∧ 400 < b.size) ∨ (a.size ≤ 400 ∧ b.size ≤ 400 ∧ 140 < L.length) ∨ (a.size ≤ 400 ∧ b.size ≤ 400 ∧ L.length ≤ 140 ∧ 1600 < s.size)
  · exact ncalls_long a b s A L.length cap w ha hb hs hn h
  · have la : a.size ≤ 400 := by omega
    have lb' : b.size ≤ 400 := by omega
    have ln : L.length ≤ 140 := by omega
    have ls : s.size ≤ 1600 := by omega
    obtain ⟨M, hM⟩ : ∃ M : ByteArray, bs M = (mkN (L.map bs)).1 := ⟨_, bs_mk _⟩
    obtain ⟨T, hT⟩ : ∃ M : ByteArray, bs M = txN (bs a) := ⟨_, bs_mk _⟩
    obtain ⟨X, hX⟩ : ∃ M : ByteArray, bs M = (rdN (bs s)).1 := ⟨_, bs_mk _⟩
    obtain ⟨P, hP⟩ : ∃ M : ByteArray, bs M = (parN (bs a)).1 := ⟨_, bs_mk _⟩
    obtain ⟨J, hJ⟩ : ∃ M : ByteArray, bs M = (joinN (bs a) (bs b)).1 := ⟨_, bs_mk _⟩
    obtain ⟨F, hF⟩ : ∃ M : ByteArray, bs M = foldN (bs a) := ⟨_, bs_mk _⟩
    have mk1 : (∀ x ∈ L, x.size ≤ 400) → ∀ wx, Below w.heap.size w wx → Calls Try.prog 23 #[.slice A L.length cap] wx (Nm wx (mkN (L.map bs))) := fun h4 wx hbx => by
      rcases hrow with hr | rfl
      · exact Make_any _ L wx (hr.below hbx (Nat.le_refl _)) (by omega) hL
      · exact Make_empty A cap wx
    have mk2 : (∀ x ∈ L, x.size ≤ 400) → ∀ wx, Below w.heap.size w wx → Calls Try.prog 24 #[.slice A L.length cap] wx (Nm wx (mkN (L.map bs))) := fun h4 wx hbx => by
      rcases hrow with hr | rfl
      · exact rMake_any _ L wx (hr.below hbx (Nat.le_refl _)) (by omega) hL
      · exact rMake_empty A cap wx
    refine ncalls_core a b s A L cap M T X P J F (mkN (L.map bs)).2 (chkN (bs a)) (rdN (bs s)).2 (joinN (bs a) (bs b)).2 (chkN (bs a)) (parN (bs a)).2 (samN (bs a) (bs b)) (undN (bs a) (bs b)) (wildN (bs a)) (matN (bs a) (bs b)) (cmpN (bs a) (bs b)) w
      la lb' ln ls hL ?_ (fun h4 => later_of hM (mk1 h4)) (fun h4 => later_of hM (mk2 h4)) (gText ha hT.symm rfl) (fun wx => ?_) (gRead (by omega) (by rw [hX])) (fun wx => ?_) (gParent ha (by rw [hP])) (fun wx => ?_) (gJoin ha hb (by rw [hJ])) (fun wx => ?_)
      (gCheck ha rfl) (fun wx => ?_) (fun wx => Labels_any a wx ha) (fun wx => rLabels_any a wx ha) (gFold ha hF.symm) (fun wx => ?_) (gSame ha hb rfl) (fun wx => rnSame_any a b wx ha hb) (gCmp ha hb rfl) (fun wx => rnCompare_any a b wx ha hb)
      (gUnder ha hb rfl) (fun wx => rnUnder_any a b wx ha hb) (gWild ha rfl) (fun wx => rnWild_any a wx ha) (gMat ha hb rfl) (fun wx => rnMatches_any a b wx ha hb)
    · intro wx hbx k hk
      rcases hrow with hr | rfl
      · exact (hr.below hbx (Nat.le_refl _)).at hk
      · simp at hk
    · refine (rnText_any a wx ha).mono ?_
      rintro e w' ⟨rfl, hb'⟩
      rw [← hT]
      exact ⟨rfl, hb'⟩
    · refine (rnRead_any s wx (by omega)).mono ?_
      rintro e w' ⟨rfl, hb'⟩
      rw [← hX]
      exact ⟨rfl, hb'⟩
    · refine (rnParent_any a wx ha).mono ?_
      rintro e w' ⟨rfl, hb'⟩
      rw [← hP]
      exact ⟨rfl, hb'⟩
    · refine (rnJoin_any a b wx ha hb).mono ?_
      rintro e w' ⟨rfl, hb'⟩
      rw [← hJ]
      exact ⟨rfl, hb'⟩
    · refine (rnCheck_any a wx ha).mono ?_
      rintro e w' ⟨rfl, rfl⟩
      exact ⟨rfl, Below.refl _ _⟩
    · refine (rnFold_any a wx ha).mono ?_
      rintro e w' ⟨rfl, hb'⟩
      rw [← hF]
      exact ⟨rfl, hb'⟩
end Go.Proofs.Ytjflmifolmpdgaa
