/-
  clock.First: the place of the least number, of the same ones the first: the walk, over a row that can be read. Condition: the row is no longer than Go's own limit.
-/
import Derived.Test.YtfpckikcflddjaaCkA
import Derived.OpenShut
import Derived.ShutString
import Derived.SliceStrings
import Derived.Deep.Grids
import Derived.Deep.QuietTactic
import Derived.BigQuiet
namespace Go.Proofs.Ytfpckikcflddjaa
open Go.RowKit

def nth (L : List Int) (k : Nat) : Int := L.getD k 0
/-- A row of numbers that can be read: nil, or cells behind one another. -/
def IRow (w : World) (v : Value) (L : List Int) : Prop :=
  ∃ A cap, v = .slice A L.length cap ∧ L.length ≤ cap ∧ cap ≤ maxLen ∧ ∀ j, j < L.length → ∃ g o, A = some ⟨g, o, none⟩ ∧ g < w.heap.size ∧ w.cell? ⟨g, o + j, none⟩ = some (.int .i64 (nth L j))
theorem IRow.below {w w' : World} {v : Value} {L : List Int} {k : Nat} (h : IRow w v L) (hb : Below k w w') (hk : w.heap.size ≤ k) : IRow w' v L := by
  obtain ⟨A, cap, h1, h2, h3, h4⟩ := h
  exact ⟨A, cap, h1, h2, h3, fun j hj => by
    obtain ⟨g, o, e1, e2, e3⟩ := h4 j hj
    exact ⟨g, o, e1, Nat.lt_of_lt_of_le e2 hb.size, (hb.cell (p := ⟨g, o + j, none⟩) (Nat.lt_of_lt_of_le e2 hk)).trans e3⟩⟩
theorem IRow.drew {w : World} {v : Value} {L : List Int} (h : IRow w v L) (n : Nat) : IRow (w.drewN n) v L := by
  obtain ⟨A, cap, h1, h2, h3, h4⟩ := h
  refine ⟨A, cap, h1, h2, h3, fun j hj => ?_⟩
  obtain ⟨g, o, e1, e2, e3⟩ := h4 j hj
  exact ⟨g, o, e1, by simpa using e2, by simpa using e3⟩

/-- A place of L with the least number of its first k, the first of the same. -/
def Least (L : List Int) (k p : Nat) : Prop := p < L.length ∧ (∀ j, j < k → j < L.length → nth L p ≤ nth L j) ∧ ∀ j, j < p → nth L p < nth L j
theorem Least.first {L : List Int} (h : 0 < L.length) : Least L 0 0 := ⟨h, fun j hj => by omega, fun j hj => by omega⟩
theorem Least.stay {L : List Int} {k p : Nat} (h : Least L k p) (hle : nth L p ≤ nth L k) : Least L (k + 1) p := by
  refine ⟨h.1, fun j hj hl => ?_, h.2.2⟩
  rcases Nat.lt_or_ge j k with hjk | hjk
  · exact h.2.1 j hjk hl
  · obtain rfl : j = k := by omega
    exact hle
theorem Least.move {L : List Int} {k p : Nat} (h : Least L k p) (hk : k < L.length) (hlt : nth L k < nth L p) : Least L (k + 1) k := by
  refine ⟨hk, fun j hj hl => ?_, fun j hj => ?_⟩
  · rcases Nat.lt_or_ge j k with hjk | hjk
    · have := h.2.1 j hjk hl; omega
    · obtain rfl : j = k := by omega
      omega
  · have := h.2.1 j hj (by omega); omega

/-- What First answers. -/
def FirstP (L : List Int) (w : World) (e : Ending) (w' : World) : Prop := ∃ p : Nat, Least L L.length p ∧ e = .returned (.tuple #[.int .i64 p, .bool true]) ∧ ∃ n, w' = w.drewN n
theorem first_none (A : Option Addr) (cap : Nat) (w : World) : Calls Try.prog 13 #[.slice A 0 cap] w fun e w' => e = .returned (.tuple #[.int .i64 0, .bool false]) ∧ w = w' := by
  go_enter Try.func13, Try.ntmps13
  go_wp2
  go_ret2
  exact ⟨rfl, rfl⟩
def FirstRel (L : List Int) (a b c : Value) : Prop := ∃ k p : Nat, k ≤ L.length ∧ a = .int .i64 p ∧ b = .int .i64 (nth L p) ∧ c = .int .i64 k ∧ Least L k p
set_option maxHeartbeats 1000000 in
theorem first_some (L : List Int) (g o cap : Nat) (w : World) (h0 : 0 < L.length) (h1 : L.length ≤ cap) (h2 : cap ≤ maxLen) (hc : ∀ j, j < L.length → w.cell? ⟨g, o + j, none⟩ = some (.int .i64 (nth L j))) :
    Calls Try.prog 13 #[.slice (some ⟨g, o, none⟩) L.length cap] w (FirstP L w) := by
  have HC := Lib.hid hc
  have hc0 : w.cell? ⟨g, o, none⟩ = some (.int .i64 (nth L 0)) := hc 0 h0
  clear hc
  unfold maxLen at h2
  have HL := Lib.hid (Least.first h0)
  go_enter Try.func13, Try.ntmps13
  go_wp2
  go_quiet (fail)

  obtain ⟨n1, rfl⟩ : ∃ n1, n1 = nq := ⟨_, rfl⟩
  have HC1 : Hid (∀ j, j < L.length → (w.drewN n1).cell? ⟨g, o + j, none⟩ = some (.int .i64 (nth L j))) := HC.out
  obtain ⟨w1, hw1⟩ : ∃ w1, w1 = w.drewN n1 := ⟨_, rfl⟩
  rw [← hw1] at HC1 ⊢
  have HW : Hid (w1 = w.drewN n1) := hw1
  clear hw1 HC hc0
  go_wp2
  go_loop [4, 5, 17] (fun a b c => FirstRel L a b c) (fun _ _ c => L.length - (intOf c).toNat)
  case atStart => exact ⟨0, 0, Nat.zero_le _, rfl, rfl, rfl, HL.out⟩
  case round =>
    obtain ⟨k, p, hk, rfl, rfl, rfl, hl⟩ := hrel
    have HK := Lib.hid hl
    clear hl HL
    rcases Nat.lt_or_ge k L.length with hlt | hge
    · have hck := HC1.out k hlt
      rcases Int.lt_or_le (nth L k) (nth L p) with hv | hv
      · have HN : Hid (Least L (k + 1) k) := Lib.hid (HK.out.move hlt hv)
        clear HK
        obtain ⟨x, hx⟩ : ∃ x, x = nth L k := ⟨_, rfl⟩
        obtain ⟨y, hy⟩ : ∃ y, y = nth L p := ⟨_, rfl⟩
        rw [← hx] at hck hv
        rw [← hy] at hv ⊢
        have HX := Lib.hid hx
        clear hx hy
        have hb1 : (x != y) = true := by simp; omega
        go_wp2
        go_round
        case rel => exact ⟨k + 1, k, by omega, rfl, by rw [← HX.out], by go_num, HN.out⟩
        case measure => simp [intOf]; omega
      · have HN : Hid (Least L (k + 1) p) := Lib.hid (HK.out.stay hv)
        clear HK
        obtain ⟨x, hx⟩ : ∃ x, x = nth L k := ⟨_, rfl⟩
        obtain ⟨y, hy⟩ : ∃ y, y = nth L p := ⟨_, rfl⟩
        rw [← hx] at hck hv
        rw [← hy] at hv ⊢
        have HX := Lib.hid hy
        clear hx hy
        go_wp2
        go_round
        case rel => exact ⟨k + 1, p, by omega, rfl, by rw [← HX.out], by go_num, HN.out⟩
        case measure => simp [intOf]; omega
    · obtain rfl : k = L.length := by omega
      go_wp2
      go_ret2
      exact ⟨p, HK.out, rfl, n1, HW.out⟩
end Go.Proofs.Ytfpckikcflddjaa
