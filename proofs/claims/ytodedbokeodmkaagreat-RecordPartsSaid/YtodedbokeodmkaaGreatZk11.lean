/-
  What a writer's Patch answers: the walk. Conditions: as the theorem names them.
-/
import Derived.Test.YtodedbokeodmkaaGreatZk10
import Derived.Deep.RegionHeld3
import Derived.Deep.DrawnRows
namespace Go.Proofs.YtodedbokeodmkaaGreat
open Go.RowKit
set_option linter.unusedVariables false
set_option maxRecDepth 100000
attribute [local go_sem ↓] Go.wp_at_zero Go.wp_at_succ

theorem patW_err {l : List UInt8} {f v : Nat} {a n : Int} (h : f ≠ 0) : patW l f a v n = ⟨f, l, f⟩ := if_pos h
theorem patW_arg {l : List UInt8} {v : Nat} {a n : Int} (h : room v n = false ∨ a < 0 ∨ (l.length : Int) - n < a) : patW l 0 a v n = ⟨2, l, 0⟩ := by
  unfold patW
  rw [if_neg (by omega), if_pos h]
theorem patW_ok {l : List UInt8} {v k n : Nat} (h : room v n = true) (h2 : k + n ≤ l.length) : patW l 0 k v n = ⟨0, over l k (octs v n), 0⟩ := by
  unfold patW
  rw [if_neg (by omega), if_neg (by simp [h]; omega)]
  rfl

set_option maxHeartbeats 2000000 in
theorem wPatch_any {base g M : Nat} {l : List UInt8} {f : Nat} {w : World} (a : Int) (v : Nat) (n : Int) (h : WR w base g M l f) (hv : v < 4294967296) (hb : base ≤ g) (hll : l.length ≤ 1099511627776) :
    Calls Tryz.prog 79 #[.pointer (some ⟨g, 0, none⟩), .int .i64 a, .int .u32 v, .int .i64 n] w (Wtr w base g M (patW l f a v n).l (patW l f a v n).f (.int .i64 (patW l f a v n).e)) := by
  have HW := Lib.hid h
  have HE := Lib.hid (fun wx (hx : WR wx base g M l f) => wErr_any hx)
  have hbw : base ≤ w.heap.size := Nat.le_trans hb (Nat.le_of_lt h.lt)
  by_cases hf : f = 0
  · subst hf
    have HH := Lib.hid (fun wx => hasRoom_any v n wx hv)
    obtain ⟨vv, hL, hown⟩ := h
    obtain ⟨A, cap, rfl⟩ := hown.shape
    have hc0 : w.cell? ⟨g, 0, none⟩ = some (.slice A l.length cap) := hL.cell 0
    have HL := Lib.hid hL
    have HO := Lib.hid hown
    clear hL hown
    cases hr : room v n
    · rw [patW_arg (.inl hr)]
      rw [hr] at HH
      clear hr
      go_enter Tryz.func79, Tryz.ntmps79
      go_wp2_with (first | (go_at_call 80; refine (HE.out _ HW.out).mono ?_; rintro e w' ⟨rfl, rfl⟩) | (go_at_call 108; refine (HH.out _).mono ?_; rintro e w' ⟨rfl, rfl⟩))
      go_ret
      exact Wtr.keep HW.out
    · obtain ⟨h1, h4, _⟩ := room_yes hr
      rw [hr] at HH
      by_cases ha : a < 0
      · rw [patW_arg (.inr (.inl ha))]
        go_enter Tryz.func79, Tryz.ntmps79
        go_wp2_with (first | (go_at_call 80; refine (HE.out _ HW.out).mono ?_; rintro e w' ⟨rfl, rfl⟩) | (go_at_call 108; refine (HH.out _).mono ?_; rintro e w' ⟨rfl, rfl⟩))
        go_ret
        exact Wtr.keep HW.out
      · have ha' : 0 ≤ a := by omega
        clear ha
        by_cases hlt : (l.length : Int) - n < a
        · rw [patW_arg (.inr (.inr hlt))]
          clear hr
          go_enter Tryz.func79, Tryz.ntmps79
          go_wp2_with (first | (go_at_call 80; refine (HE.out _ HW.out).mono ?_; rintro e w' ⟨rfl, rfl⟩) | (go_at_call 108; refine (HH.out _).mono ?_; rintro e w' ⟨rfl, rfl⟩))
          go_ret
          exact Wtr.keep HW.out
        · obtain ⟨n, rfl⟩ := Int.eq_ofNat_of_zero_le (show 0 ≤ n by omega)
          obtain ⟨k, rfl⟩ := Int.eq_ofNat_of_zero_le ha'
          rw [patW_ok hr (by omega)]
          have hd : decide ((l.length : Int) - n < k) = false := by simp; omega
          have hcap : l.length ≤ cap ∧ ∃ g0, A = some ⟨g0, 0, none⟩ := by
            rcases HO.out.form with ⟨e, e2⟩ | ⟨g0, cap', e, _, _, e2, _⟩
            · rw [e2] at hlt; simp at hlt; omega
            · injection e with e3 _ e4
              exact ⟨by omega, g0, e3⟩
          obtain ⟨hcap, g0, rfl⟩ := hcap
          have hi1 : (0 : Int) ≤ (k : Int) := by omega
          have hi2 : (k : Int) ≤ (l.length : Int) := by omega
          have hi3 : (l.length : Int) ≤ (cap : Int) := by omega
          have hne : ¬ cap = k := by omega
          have HC := Lib.hid (fun wx => cut_any v n wx hv (by omega))
          have HX : Hid (n = (octs v n).length ∧ k + (octs v n).length ≤ l.length ∧ (octs v n).length ≤ l.length - k) := Lib.hid (by rw [octs_length]; omega)
          clear hr hlt
          go_enter Tryz.func79, Tryz.ntmps79
          go_wp2_with (first | (go_at_call 80; refine (HE.out _ HW.out).mono ?_; rintro e w' ⟨rfl, rfl⟩) | (go_at_call 108; refine (HH.out _).mono ?_; rintro e w' ⟨rfl, rfl⟩))
          go_region_held3 (fun w' => w'.cell? ⟨g, 0, none⟩ = some (.slice (some ⟨g0, 0, none⟩) l.length cap)) (first | go_keep | exact HL3.out.cell 0 | exact HL1.out.cell 0) (first | (go_at_call 109; refine (HC.out _).mono ?_; rintro e w1 ⟨rfl, hown1, hb1⟩; have HB1 := Lib.hid hb1; have HN1 := Lib.hid hown1; have HO1 := Lib.hid (Own.below (w := w.drew) HO.out hb1 (Nat.le_refl _)); have HL1 := Lib.hid (Lies.next (w := w.drew) HL.out hb1); clear hown1 hb1) | (refine step_copyB bt (by rfl) (.tmp 39) (.tmp 42) (by rfl) base g0 cap k l (octs v n) HO1.out (l.length - k) (cap - k) (by rfl) ⟨w.heap.size, 0, none⟩ n n (by rfl) HX.out.1 (World.ownsRow.cells HN1.out (g := w.heap.size) rfl) HX.out.2.1 HX.out.2.2 ?_; intro w3 ho3 hg3; have HO3 := Lib.hid ho3; have HG3 := Lib.hid hg3; have HL3 := Lib.hid (Lies.grown HL1.out hg3 (Own.ne_lies HO1.out HL1.out (by decide))); clear ho3 hg3))
          go_wp2
          go_ret
          exact ⟨rfl, ⟨_, HL3.out, HO3.out⟩, Kp.from_drewN (n := 1) ((Kp.of_below HB1.out hbw HL.out.lt).trans (Kp.of_row HL1.out rfl HO1.out (by decide) HG3.out (Nat.le_trans hbw HB1.out.size)))⟩
  · rw [patW_err hf]
    have hfb : ((f : Int) != 0) = true := by rw [bne_iff_ne]; omega
    clear h hf
    go_enter Tryz.func79, Tryz.ntmps79
    go_wp2_with (go_at_call 80; refine (HE.out _ HW.out).mono ?_; rintro e w' ⟨rfl, rfl⟩)
    go_ret
    exact Wtr.keep HW.out
end Go.Proofs.YtodedbokeodmkaaGreat
