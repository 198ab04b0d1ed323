/-
  What the document's own writer of octets answers: the walks. Conditions: as each theorem names them.
-/
import Derived.Test.YtlpgoeigcccmhaaOcPat
import Derived.BigRegion
namespace Go.Proofs.Ytlpgoeigcccmhaa
open Go.RowKit
set_option linter.unusedVariables false

/-- Block g is the document's writer of at most M octets: it has the octets S, the error f. -/
def WF (w : World) (g M : Nat) (S : ByteArray) (f : Nat) : Prop := Lies w g 52 #[.string S, .int .i64 M, .int .i64 f]
/-- What its call does. -/
def Wfr (w : World) (g M : Nat) (x : Wr) (e : Ending) (w' : World) : Prop := e = .returned (.int .i64 x.e) ∧ WF w' g M ⟨x.l.toArray⟩ x.f ∧ w.grownBy w' (some g)
theorem same_str (S : ByteArray) : (⟨(bs S).toArray⟩ : ByteArray) = S := (bs_eq rfl).symm
theorem wfr_now {w : World} {g M f e : Nat} {S : ByteArray} (h : WF w g M S f) : Wfr w g M ⟨e, bs S, f⟩ (.returned (.int .i64 e)) w := ⟨rfl, by rw [same_str]; exact h, grown_drewN w 0 _⟩

theorem fNewWriter_any (n : Int) (w : World) (hn : n ≤ 9223372036854775807) :
    Calls Try.prog 51 #[.int .i64 n] w fun e w' => e = .returned (.pointer (some ⟨w.heap.size, 0, none⟩)) ∧ WF w' w.heap.size n.toNat ⟨#[]⟩ 0 ∧ Below w.heap.size w w' := by
  rcases Int.lt_or_le 0 n with h0 | h0
  rotate_left
  · obtain ⟨M, hM⟩ : ∃ M, M = n.toNat := ⟨_, rfl⟩
    have hM0 : M = 0 := by omega
    rw [← hM, hM0]
    clear hM hM0
    go_enter Try.func51, Try.ntmps51
    go_wp2
    go_ret
    exact ⟨rfl, Lies.new _ _ _, (Below.refl _ _).alloc (Nat.le_refl _) _⟩
  · obtain ⟨M, rfl⟩ := Int.eq_ofNat_of_zero_le (Int.le_of_lt h0)
    rw [Int.toNat_natCast]
    go_enter Try.func51, Try.ntmps51
    go_wp2
    go_ret
    exact ⟨rfl, Lies.new _ _ _, (Below.refl _ _).alloc (Nat.le_refl _) _⟩

/-- What octets hands back. -/
def Oc (w : World) (v : Nat) (n : Int) (e : Ending) (w' : World) : Prop := e = .returned (.tuple #[.string ⟨(if room v n = true then octs v n.toNat else []).toArray⟩, .bool (room v n)]) ∧ Below w.heap.size w w'
theorem oc_no {w : World} {v : Nat} {n : Int} (h : room v n = false) : Oc w v n (.returned (.tuple #[.string ⟨#[]⟩, .bool false])) w := by
  unfold Oc
  rw [h]
  exact ⟨rfl, Below.refl _ _⟩
theorem oc_yes {w w' : World} {v n : Nat} (h : room v n = true) (hb : Below w.heap.size w w') : Oc w v n (.returned (.tuple #[.string ⟨(octs v n).toArray⟩, .bool true])) w' := by
  unfold Oc
  rw [h]
  exact ⟨rfl, hb⟩
theorem pow8 (n : Nat) (h : n < 4) : (2 : Int) ^ (8 * n) % 4294967296 = ((256 ^ n : Nat) : Int) := by
  have e : (2 : Int) ^ (8 * n) = ((256 ^ n : Nat) : Int) := by
    rw [show (256 : Nat) = 2 ^ 8 by decide, ← Nat.pow_mul]
    exact (Int.natCast_pow 2 (8 * n)).symm
  have h2 : 256 ^ n < 4294967296 := Nat.lt_of_lt_of_le (Nat.pow_lt_pow_right (by decide) h) (by decide)
  rw [e]
  generalize 256 ^ n = P at h2
  omega
/-- The relation of octets' loop. -/
def OcRel (v n : Nat) (w : World) (x i : Value) (wr : World) : Prop :=
  ∃ (k : Nat) (z : Int), i = .int .i64 z ∧ z + 1 = k ∧ k ≤ n ∧ x = .int .u32 ((v / 256 ^ (n - k) : Nat) : Int) ∧ wr.ownsRow w.heap.size 5 1 (.slice (some ⟨w.heap.size, 0, none⟩) n n) n ((rear v n k).map B) ∧ Below w.heap.size w wr

set_option maxHeartbeats 2000000 in
theorem octets_no (v : Nat) (n : Int) (w : World) (hv : v < 4294967296) (h : room v n = false) :
    Calls Try.prog 65 #[.int .u32 v, .int .i64 n] w (Oc w v n) := by
  have HN : Hid (room v n = false) := Lib.hid h
  by_cases h1 : n < 1
  · clear h
    go_enter Try.func65, Try.ntmps65
    go_wp2
    go_ret2
    exact oc_no HN.out
  · by_cases h4 : 4 < n
    · clear h
      go_enter Try.func65, Try.ntmps65
      go_wp2
      go_ret2
      exact oc_no HN.out
    · have hw : isW n = true := by simp [isW]; omega
      obtain ⟨n, rfl⟩ := Int.eq_ofNat_of_zero_le (show 0 ≤ n by omega)
      have hge : 256 ^ n ≤ v := by simp [room, hw] at h; exact h
      clear h hw
      have hn4 : n < 4 := by
        rcases Nat.lt_or_ge n 4 with h | h
        · exact h
        · exfalso
          obtain rfl : n = 4 := by omega
          have : 256 ^ 4 = 4294967296 := by decide
          omega
      have hd : decide ((2 : Int) ^ (8 * n) % 4294967296 ≤ (v : Int)) = true := by rw [pow8 n hn4]; exact decide_eq_true (Int.ofNat_le.2 hge)
      have hd1 : decide ((n : Int) < 1) = false := by simp; omega
      have hd4 : decide ((4 : Int) < (n : Int)) = false := by simp; omega
      have hd3 : decide ((n : Int) < 4) = true := by simp; omega
      clear hge
      go_enter Try.func65, Try.ntmps65
      go_wp2
      go_ret2
      exact oc_no HN.out

set_option maxHeartbeats 2000000 in
theorem octets_yes (v n : Nat) (w : World) (hv : v < 4294967296) (h : room v n = true) :
    Calls Try.prog 65 #[.int .u32 v, .int .i64 n] w (Oc w v n) := by
  have HN : Hid (room v n = true) := Lib.hid h
  obtain ⟨h1, h4, h256⟩ := room_yes h
  clear h
  obtain ⟨i0, hi, hz0, hz1, hz2⟩ := info_parts bt.info
  obtain ⟨w1, hmk, hown, hg⟩ := run_make_full w w.heap.size 59 5 i0 (.int .u8 0) 1 bt.us hi hz0 hz1 .i64 .i64 n (by rw [hz2]; omega) (by unfold maxLen; omega) (Nat.le_refl _)
  have HB1 := Lib.hid ((Below.refl w.heap.size w).grown hg (Nat.le_refl _) (by simp))
  have HO1 := Lib.hid (made_own hown)
  rw [← rear_end v n] at HO1
  have HR0 : Hid (OcRel v n w (.int .u32 v) (.int .i64 ((n : Int) - 1)) w1) := Lib.hid ⟨n, _, rfl, by omega, Nat.le_refl _, by rw [Nat.sub_self]; simp, HO1.out, HB1.out⟩
  clear hi hz0 hz1 hz2 hown hg HO1
  have hd1 : decide ((n : Int) < 1) = false := by simp; omega
  have hd4 : decide ((4 : Int) < (n : Int)) = false := by simp; omega
  rcases Nat.lt_or_ge n 4 with hn4 | hn4
  · have hd3 : decide ((n : Int) < 4) = true := by simp; omega
    have hd : decide ((2 : Int) ^ (8 * n) % 4294967296 ≤ (v : Int)) = false := by
      rw [pow8 n hn4]
      rw [Int.toNat_natCast] at h256
      exact decide_eq_false (fun h => by have := Int.ofNat_le.1 h; omega)
    clear h256
    go_enter Try.func65, Try.ntmps65
    go_wp2
    go_loopw [0, 7] (fun x i wr => OcRel v n w x i wr) (fun _ i _ => (intOf i + 1).toNat)
    case atStart => exact HR0.out
    case round =>
      clear HR0
      obtain ⟨k, z, rfl, hz, hk, rfl, hown, hb⟩ := hrel
      rcases Nat.eq_zero_or_pos k with hk0 | hk0
      · subst hk0
        obtain rfl : z = -1 := by omega
        rw [rear_zero] at hown
        have hcv := bt.conv_own (own_of (octs_length _ _) hown)
        clear hown hz
        go_wp2
        go_ret2
        exact oc_yes HN.out hb
      · obtain ⟨k, rfl⟩ : ∃ j, k = j + 1 := ⟨k - 1, by omega⟩
        obtain rfl : z = (k : Int) := by omega
        obtain ⟨u, hcell⟩ : ∃ u, wr.cell? ⟨w.heap.size, k, none⟩ = some u := by
          have hfl := rear_length (v := v) hk
          exact ⟨B ((rear v n (k + 1))[k]'(by omega)), by rw [World.ownsRow.cellAt hown k (by omega), List.getElem?_map, List.getElem?_eq_getElem (by omega)]; rfl⟩
        have hfr : wr.frozen? ⟨w.heap.size, k, none⟩ = false := World.ownsRow.frozenAt hown k
        have hX : v / 256 ^ (n - (k + 1)) < 4294967296 := Nat.lt_of_le_of_lt (Nat.div_le_self _ _) hv
        have HS := Lib.hid (rear_step (v := v) (show k < n by omega))
        rw [show n - 1 - k = n - (k + 1) by omega] at HS
        have HY : Hid (v / 256 ^ (n - (k + 1)) / 256 = v / 256 ^ (n - k)) := Lib.hid (by rw [Nat.div_div_eq_div_mul, ← Nat.pow_succ, show (n - (k + 1)).succ = n - k by omega])
        obtain ⟨X, hXe⟩ : ∃ X, X = v / 256 ^ (n - (k + 1)) := ⟨_, rfl⟩
        rw [← hXe] at hX HS HY ⊢
        have HO := Lib.hid hown
        clear hown hz hXe
        have HV : Hid (Value.int .u8 ((X : Int) % 256) = B (UInt8.ofNat X)) := Lib.hid (by
          unfold B
          rw [ofNat_val, Int.natCast_emod]
          rfl)
        go_wp2
        go_roundw
        case rel =>
          have h1 := (World.ownsRow.stored HO.out k (B (UInt8.ofNat X))).1
          rw [← List.map_set, HS.out] at h1
          exact ⟨k, _, rfl, by omega, by omega, by rw [← HY.out, Int.natCast_ediv]; rfl, by rw [HV.out]; exact h1, hb.setCell (by simp) _⟩
        case measure => simp [intOf]
  · have hd3 : decide ((n : Int) < 4) = false := by simp; omega
    clear h256
    go_enter Try.func65, Try.ntmps65
    go_wp2
    go_loopw [0, 7] (fun x i wr => OcRel v n w x i wr) (fun _ i _ => (intOf i + 1).toNat)
    case atStart => exact HR0.out
    case round =>
      clear HR0
      obtain ⟨k, z, rfl, hz, hk, rfl, hown, hb⟩ := hrel
      rcases Nat.eq_zero_or_pos k with hk0 | hk0
      · subst hk0
        obtain rfl : z = -1 := by omega
        rw [rear_zero] at hown
        have hcv := bt.conv_own (own_of (octs_length _ _) hown)
        clear hown hz
        go_wp2
        go_ret2
        exact oc_yes HN.out hb
      · obtain ⟨k, rfl⟩ : ∃ j, k = j + 1 := ⟨k - 1, by omega⟩
        obtain rfl : z = (k : Int) := by omega
        obtain ⟨u, hcell⟩ : ∃ u, wr.cell? ⟨w.heap.size, k, none⟩ = some u := by
          have hfl := rear_length (v := v) hk
          exact ⟨B ((rear v n (k + 1))[k]'(by omega)), by rw [World.ownsRow.cellAt hown k (by omega), List.getElem?_map, List.getElem?_eq_getElem (by omega)]; rfl⟩
        have hfr : wr.frozen? ⟨w.heap.size, k, none⟩ = false := World.ownsRow.frozenAt hown k
        have hX : v / 256 ^ (n - (k + 1)) < 4294967296 := Nat.lt_of_le_of_lt (Nat.div_le_self _ _) hv
        have HS := Lib.hid (rear_step (v := v) (show k < n by omega))
        rw [show n - 1 - k = n - (k + 1) by omega] at HS
        have HY : Hid (v / 256 ^ (n - (k + 1)) / 256 = v / 256 ^ (n - k)) := Lib.hid (by rw [Nat.div_div_eq_div_mul, ← Nat.pow_succ, show (n - (k + 1)).succ = n - k by omega])
        obtain ⟨X, hXe⟩ : ∃ X, X = v / 256 ^ (n - (k + 1)) := ⟨_, rfl⟩
        rw [← hXe] at hX HS HY ⊢
        have HO := Lib.hid hown
        clear hown hz hXe
        have HV : Hid (Value.int .u8 ((X : Int) % 256) = B (UInt8.ofNat X)) := Lib.hid (by
          unfold B
          rw [ofNat_val, Int.natCast_emod]
          rfl)
        go_wp2
        go_roundw
        case rel =>
          have h1 := (World.ownsRow.stored HO.out k (B (UInt8.ofNat X))).1
          rw [← List.map_set, HS.out] at h1
          exact ⟨k, _, rfl, by omega, by omega, by rw [← HY.out, Int.natCast_ediv]; rfl, by rw [HV.out]; exact h1, hb.setCell (by simp) _⟩
        case measure => simp [intOf]
theorem foctets_any (v : Nat) (n : Int) (w : World) (hv : v < 4294967296) :
    Calls Try.prog 65 #[.int .u32 v, .int .i64 n] w (Oc w v n) := by
  cases h : room v n
  · exact octets_no v n w hv h
  · obtain ⟨h1, _, _⟩ := room_yes h
    obtain ⟨n, rfl⟩ := Int.eq_ofNat_of_zero_le (show 0 ≤ n by omega)
    exact octets_yes v n w hv h

set_option maxHeartbeats 1000000 in
theorem fPut_any {g M f : Nat} {S : ByteArray} {w : World} (s : ByteArray) (h : WF w g M S f) (hl : S.size ≤ M) (hM : M ≤ 9223372036854775807) (hll : S.size ≤ 1099511627776) (hs : s.size ≤ 1099511627776) :
    Calls Try.prog 54 #[.pointer (some ⟨g, 0, none⟩), .string s] w (Wfr w g M (putW M (bs S) f (bs s))) := by
  have HR := Lib.hid h
  have hc0 : w.cell? ⟨g, 0, none⟩ = some (.string S) := h.cell 0
  have hc1 : w.cell? ⟨g, 1, none⟩ = some (.int .i64 M) := h.cell 1
  have hc2 : w.cell? ⟨g, 2, none⟩ = some (.int .i64 f) := h.cell 2
  have hf0 : w.frozen? ⟨g, 0, none⟩ = false := h.free 0
  have hf2 : w.frozen? ⟨g, 2, none⟩ = false := h.free 2
  clear h
  by_cases hf : f = 0
  · subst hf
    by_cases hlong : M < S.size + s.size
    · have hd : decide ((M : Int) - S.size < s.size) = true := by simp; omega
      have hw : IntKind.i64.wrap ((M : Int) - S.size) = (M : Int) - S.size := IntWalk.i64_in _ (by omega)
      rw [putW_long (by rw [bs_length, bs_length]; exact hlong)]
      clear hlong
      go_enter Try.func54, Try.ntmps54
      go_wp2
      go_quiet (fail)
      go_wp2
      go_ret
      exact ⟨rfl, by rw [same_str]; exact (HR.out.drewN nq).set 2 _, grown_next (grown_drewN w nq _) (grown_set (base := 0) _ g 2 _)⟩
    · have hd : decide ((M : Int) - S.size < s.size) = false := by simp; omega
      have hw : IntKind.i64.wrap ((M : Int) - S.size) = (M : Int) - S.size := IntWalk.i64_in _ (by omega)
      rw [putW_ok (by rw [bs_length, bs_length]; omega)]
      have HA : Hid (S ++ s = ⟨(bs S ++ bs s).toArray⟩) := Lib.hid (bs_eq (bs_append S s))
      clear hlong
      go_enter Try.func54, Try.ntmps54
      go_wp2
      go_quiet (fail)
      go_wp2
      go_ret
      exact ⟨rfl, by rw [← HA.out]; exact (HR.out.drewN nq).set 0 _, grown_next (grown_drewN w nq _) (grown_set (base := 0) _ g 0 _)⟩
  · rw [putW_err hf]
    have hfb : ((f : Int) != 0) = true := by rw [bne_iff_ne]; omega
    clear hf
    go_enter Try.func54, Try.ntmps54
    go_wp2
    go_ret
    exact wfr_now HR.out

set_option maxHeartbeats 1000000 in
theorem fNumberW_any {g M f : Nat} {S : ByteArray} {w : World} (v : Nat) (n : Int) (h : WF w g M S f) (hv : v < 4294967296) (hl : S.size ≤ M) (hM : M ≤ 9223372036854775807) (hll : S.size ≤ 1099511627776) :
    Calls Try.prog 53 #[.pointer (some ⟨g, 0, none⟩), .int .u32 v, .int .i64 n] w (Wfr w g M (numW M (bs S) f v n)) := by
  have HR := Lib.hid h
  have hc2 : w.cell? ⟨g, 2, none⟩ = some (.int .i64 f) := h.cell 2
  have HO := Lib.hid (fun wx => foctets_any v n wx hv)
  by_cases hf : f = 0
  · subst hf
    cases hr : room v n
    · rw [numW_arg hr]
      unfold Oc at HO
      rw [hr] at HO
      clear h hr
      go_enter Try.func53, Try.ntmps53
      go_wp2_with (go_at_call 65; refine (HO.out _).mono ?_; rintro e w1 ⟨rfl, hb1⟩)
      go_ret
      exact ⟨rfl, by rw [same_str]; exact HR.out.next hb1, below_to_grown hb1⟩
    · rw [numW_put hr]
      unfold Oc at HO
      rw [hr, if_pos rfl] at HO
      have hos : (⟨(octs v n.toNat).toArray⟩ : ByteArray).size ≤ 1099511627776 := by
        obtain ⟨_, _, _⟩ := room_yes hr
        rw [tosize, octs_length]
        omega
      have HP := Lib.hid (fun wx (hx : WF wx g M S 0) => fPut_any ⟨(octs v n.toNat).toArray⟩ hx hl hM hll hos)
      rw [bs_mk] at HP
      clear h hr hos
      go_enter Try.func53, Try.ntmps53
      go_wp2_with (first | (go_at_call 65; refine (HO.out _).mono ?_; rintro e w1 ⟨rfl, hb1⟩; have HB1 := Lib.hid hb1; clear hb1) | (go_at_call 54; refine (HP.out _ (HR.out.next HB1.out)).mono ?_; rintro e w2 ⟨rfl, hw2, hg2⟩; have HW2 := Lib.hid hw2; have HG2 := Lib.hid hg2; clear hw2 hg2))
      go_ret
      exact ⟨rfl, HW2.out, grown_next (below_to_grown HB1.out) HG2.out⟩
  · rw [numW_err hf]
    have hfb : ((f : Int) != 0) = true := by rw [bne_iff_ne]; omega
    clear h hf
    go_enter Try.func53, Try.ntmps53
    go_wp2
    go_ret
    exact wfr_now HR.out

end Go.Proofs.Ytlpgoeigcccmhaa
