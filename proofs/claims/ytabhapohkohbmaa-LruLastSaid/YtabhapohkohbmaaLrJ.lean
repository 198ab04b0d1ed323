/-
  nameplatekit.Same on two rows of strings that hold the same; one list beside a law; lives. No condition.
-/
import Derived.Test.YtabhapohkohbmaaLrI
import Derived.Test.YtabhapohkohbmaaNmKit
namespace Go.Proofs.Ytabhapohkohbmaa
open Go.RowKit Go.Maps
set_option linter.unusedVariables false
set_option linter.unusedSimpArgs false

theorem row_at {w : World} {v : Value} {L : List ByteArray} (h : SRow w v L) : ∃ A cap, v = .slice A L.length cap ∧ L.length ≤ cap ∧ cap ≤ maxLen ∧ ∀ j (h : j < L.length), ∃ g o, A = some ⟨g, o, none⟩ ∧ g < w.heap.size ∧ w.cell? ⟨g, o + j, none⟩ = some (.string L[j]) := by
  rcases h with ⟨A, rfl, rfl⟩ | ⟨g, off, cap, h1, h2, h3, h4, h5⟩
  · exact ⟨A, 0, rfl, Nat.le_refl _, Nat.zero_le _, fun j hj => by cases hj⟩
  · exact ⟨_, cap, h1, h3, h4, fun j hj => ⟨g, off, rfl, h2, h5 j hj⟩⟩
set_option maxHeartbeats 4000000 in
theorem same_any {w : World} {v1 v2 : Value} {L : List ByteArray} (h1 : SRow w v1 L) (h2 : SRow w v2 L) :
    Calls Try.prog 31 #[v1, v2] w fun e w' => e = .returned (.bool true) ∧ Below w.heap.size w w' := by
  obtain ⟨A1, c1, rfl, hc1, hm1, a1⟩ := row_at h1
  obtain ⟨A2, c2, rfl, hc2, hm2, a2⟩ := row_at h2
  have H1 := Lib.hid a1
  have H2 := Lib.hid a2
  unfold maxLen at hm1 hm2
  clear h1 h2 a1 a2
  go_enter Try.func31, Try.ntmps31
  go_wp2
  go_loopw [5] (fun i wr => ∃ k : Nat, i = .int .i64 k ∧ k ≤ L.length ∧ Below w.heap.size w wr) (fun i _ => L.length - (intOf i).toNat)
  case atStart => exact ⟨0, rfl, Nat.zero_le _, Below.refl _ _⟩
  case round =>
    obtain ⟨k, rfl, hk, hb⟩ := hrel
    by_cases hlt : k < L.length
    · obtain ⟨g1, o1, rfl, hg1, hx1⟩ := H1.out k hlt
      obtain ⟨g2, o2, rfl, hg2, hx2⟩ := H2.out k hlt
      obtain ⟨x, hx⟩ : ∃ x, L[k] = x := ⟨_, rfl⟩
      rw [hx] at hx1 hx2
      have hcx : wr.cell? ⟨g1, o1 + k, none⟩ = some (.string x) := (hb.cell (p := ⟨g1, o1 + k, none⟩) hg1).trans hx1
      have hcy : wr.cell? ⟨g2, o2 + k, none⟩ = some (.string x) := (hb.cell (p := ⟨g2, o2 + k, none⟩) hg2).trans hx2
      have i1 : (k : Int) < L.length := by omega
      clear hx hx1 hx2
      go_wp2_with fail
      go_quiet (fail)
      go_wp2
      go_roundw
      case rel => exact ⟨k + 1, by go_num, hlt, hb.trans ⟨rfl, rfl, rfl, Nat.le_refl _, fun _ _ => rfl⟩⟩
      case measure => simp [intOf]; omega
    · have i1 : ¬ (k : Int) < L.length := by omega
      go_wp2
      go_ret
      exact ⟨rfl, hb⟩
/-- A list that a law has made since w. -/
def LSt (w : World) (p mst : Nat) (R : Rw) (wr : World) : Prop := ∃ T, LR wr p mst R T ∧ Below w.heap.size w wr ∧ ∀ k, T k → w.heap.size ≤ k
section
variable {w wr w' : World} {p mst : Nat} {R R' : Rw}
theorem LSt.next (h : LSt w p mst R wr) (hb : Below wr.heap.size wr w') : LSt w p mst R w' := by
  obtain ⟨T, h1, h2, h3⟩ := h
  exact ⟨T, h1.next hb, h2.trans (hb.mono h2.size), h3⟩
theorem kl_law {w wr w' : World} {T T' : Nat → Prop} (hb : Below w.heap.size w wr) (hT : ∀ k, T k → w.heap.size ≤ k) (hk : Kl T T' wr w') : Below w.heap.size w w' ∧ ∀ k, T' k → w.heap.size ≤ k :=
  ⟨hb.trans (hk.below hb.size hT), fun k hk' => Nat.le_of_not_lt fun hlt => hk.not (Nat.lt_of_lt_of_le hlt hb.size) (fun ht => absurd (hT k ht) (Nat.not_le.2 hlt)) hk'⟩
theorem LSt.new (hb : Below w.heap.size w wr) (most : Int) : Calls Try.prog 18 #[.int .i64 most] wr fun e w' => ∃ p, e = .returned (.pointer (some ⟨p, 0, none⟩)) ∧ LSt w p most.toNat [] w' := by
  refine (New_any wr most).mono ?_
  rintro e w' ⟨p, T, rfl, h, hb', hT⟩
  exact ⟨p, rfl, T, h, hb.trans (hb'.mono hb.size), fun k hk => Nat.le_trans hb.size (hT k hk)⟩
theorem LSt.put (h : LSt w p mst R wr) {k : ByteArray} (hk : k.size ≤ 281474976710656) (hlen : R.length < 1099511627776) (hm : mst < 9223372036854775808) (v : Int) : Calls Try.prog 21 #[.pointer (some ⟨p, 0, none⟩), .string k, .int .i64 v] wr fun e w' =>
    e = .returned (.tuple #[.string (putR mst R k v).2.1, .bool (putR mst R k v).2.2.1, .int .i64 ((putR mst R k v).2.2.2 : Int)]) ∧ LSt w p mst (putR mst R k v).1 w' := by
  obtain ⟨T, h1, h2, h3⟩ := h
  refine (h1.put hk hlen hm v).mono ?_
  rintro e w' ⟨rfl, T', h', hk'⟩
  obtain ⟨b, t⟩ := kl_law h2 h3 hk'
  exact ⟨rfl, T', h', b, t⟩
theorem LSt.get (h : LSt w p mst R wr) {k : ByteArray} (hk : k.size ≤ maxLen) : Calls Try.prog 23 #[.pointer (some ⟨p, 0, none⟩), .string k] wr fun e w' => e = .returned (.tuple #[.int .i64 ((lookR R k).getD 0), .bool (lookR R k).isSome]) ∧ LSt w p mst (getR R k) w' := by
  obtain ⟨T, h1, h2, h3⟩ := h
  refine (h1.get hk).mono ?_
  rintro e w' ⟨rfl, h', hk'⟩
  obtain ⟨b, t⟩ := kl_law h2 h3 hk'
  exact ⟨rfl, T, h', b, t⟩
theorem LSt.look (h : LSt w p mst R wr) {k : ByteArray} (hk : k.size ≤ maxLen) : Calls Try.prog 25 #[.pointer (some ⟨p, 0, none⟩), .string k] wr fun e w' => e = .returned (.tuple #[.int .i64 ((lookR R k).getD 0), .bool (lookR R k).isSome]) ∧ LSt w p mst R w' ∧ Below wr.heap.size wr w' := by
  have H := h
  obtain ⟨T, h1, h2, h3⟩ := h
  refine (h1.look hk).mono ?_
  rintro e w' ⟨rfl, hb⟩
  exact ⟨rfl, H.next hb, hb⟩
theorem LSt.keys (h : LSt w p mst R wr) (hl : R.length ≤ 1099511627776) : Calls Try.prog 32 #[.pointer (some ⟨p, 0, none⟩)] wr fun e w' => ∃ v, e = .returned v ∧ SRow w' v (R.map (·.1)) ∧ LSt w p mst R w' ∧ Below wr.heap.size wr w' := by
  have H := h
  obtain ⟨T, h1, h2, h3⟩ := h
  refine (keys_anyP _ R wr hl fun W hW => (h1.next hW).snapshot hl).mono ?_
  rintro e w' ⟨v, rfl, ho, hb⟩
  exact ⟨v, rfl, .of_own ho, H.next hb, hb⟩
theorem LSt.bel (h : LSt w p mst R wr) : Below w.heap.size w wr := by
  obtain ⟨T, h1, h2, h3⟩ := h
  exact h2
end
def ka : ByteArray := ⟨#[97]⟩
def kb : ByteArray := ⟨#[98]⟩
def kc : ByteArray := ⟨#[99]⟩
def keysR (R : Rw) : List ByteArray := R.map (·.1)
theorem lv1 : putR 2 [] ka 1 = ([(ka, 1)], ⟨#[]⟩, false, 0) := by decide +kernel
theorem lv2 : putR 2 [(ka, 1)] kb 2 = ([(kb, 2), (ka, 1)], ⟨#[]⟩, false, 0) := by decide +kernel
theorem lv3 : lookR [(kb, 2), (ka, 1)] ka = some 1 := by decide +kernel
theorem lv4 : getR [(kb, 2), (ka, 1)] ka = [(ka, 1), (kb, 2)] := by decide +kernel
theorem lv5 : putR 2 [(ka, 1), (kb, 2)] kc 3 = ([(kc, 3), (ka, 1)], kb, true, 0) := by decide +kernel
theorem row_two (w : World) (x y : ByteArray) : SRow (w.alloc (.cells #[.string x, .string y] 9)) (.slice (some ⟨w.heap.size, 0, none⟩) 2 2) [x, y] := by
  refine Or.inr ⟨w.heap.size, 0, 2, rfl, by simp, by simp, by decide, ?_⟩
  intro j hj
  have h := Lies.new w 9 #[.string x, .string y]
  rcases j with _ | _ | j
  · exact h.cell 0
  · exact h.cell 1
  · simp at hj; omega
set_option maxRecDepth 100000 in
set_option maxHeartbeats 8000000 in
theorem lives15 (w : World) : Calls Try.prog 9 #[] w fun e w' => e = .returned (.bool true) ∧ Below w.heap.size w w' := by
  have HN := Lib.hid (LSt.new (Below.refl w.heap.size w) 2)
  go_enter Try.func9, Try.ntmps9
  go_wp2_with fail
  refine HN.out.mono ?_
  rintro e w1 ⟨p, rfl, h1⟩
  have H1 : Hid (LSt w p 2 [] w1) := Lib.hid h1
  have P1 := Lib.hid (H1.out.put (k := ka) (by decide) (by decide) (by decide) 1)
  rw [lv1] at P1
  clear h1
  go_wp2_with fail
  refine P1.out.mono ?_
  rintro e w2 ⟨rfl, h2⟩
  have P2 := Lib.hid (h2.put (k := kb) (by decide) (by decide) (by decide) 2)
  rw [lv2] at P2
  clear h2
  go_wp2_with fail
  refine P2.out.mono ?_
  rintro e w3 ⟨rfl, h3⟩
  have P3 := Lib.hid (h3.get (k := ka) (by decide))
  rw [lv3, lv4] at P3
  clear h3
  go_wp2_with fail
  refine P3.out.mono ?_
  rintro e w4 ⟨rfl, h4⟩
  have P4 := Lib.hid (h4.put (k := kc) (by decide) (by decide) (by decide) 3)
  rw [lv5] at P4
  clear h4
  go_wp2_with fail
  refine P4.out.mono ?_
  rintro e w5 ⟨rfl, h5⟩
  have H5 := Lib.hid h5
  have P5 := Lib.hid (h5.keys (by decide))
  clear h5
  have hkb : (kb.toList == [98]) = true := by decide +kernel
  go_wp2_with fail
  refine P5.out.mono ?_
  rintro e w6 ⟨v, rfl, hr, h6, hb6⟩
  have H6 := Lib.hid h6
  have HS := Lib.hid (same_any (hr.next ((Below.refl _ w6).alloc (Nat.le_refl _) (.cells #[.string kc, .string ka] 9))) (row_two w6 kc ka))
  clear hr h6 hb6
  go_wp2_with fail
  refine HS.out.mono ?_
  rintro e w7 ⟨rfl, hb7⟩
  have HB := Lib.hid ((H6.out.next ((Below.refl _ w6).alloc (Nat.le_refl _) (.cells #[.string kc, .string ka] 9))).next hb7).bel
  clear hb7
  go_wp2
  go_ret
  exact ⟨rfl, HB.out⟩
end Go.Proofs.Ytabhapohkohbmaa
