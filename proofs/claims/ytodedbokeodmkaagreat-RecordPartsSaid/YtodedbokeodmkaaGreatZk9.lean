/-
  What a reader of octets answers: the walks of octets.NewReader and the reader's methods. Condition: the string is no longer than Go's own limit.
-/
import Derived.Test.YtodedbokeodmkaaGreatZk8
import Derived.LaidEqlPtr
import Derived.Laws.BitsAllLaws
namespace Go.Proofs.YtodedbokeodmkaaGreat
open Go.RowKit
set_option linter.unusedVariables false

theorem infoR : (Tryz.prog.info? 222).isSome = true := by kernel_rfl
theorem eqlR (w : World) (a : Addr) : (binOp .eql 181 (.pointer (some a)) (.pointer (some a))).run Tryz.prog w = .ok (.bool true) w := by
  obtain ⟨j, hj⟩ := Option.isSome_iff_exists.1 infoR
  exact run_eql_ptr_same w a Tryz.underlying181 hj

theorem isWidth_any (n : Int) (w : World) :
    Calls Tryz.prog 128 #[.int .i64 n] w fun e w' => e = .returned (.bool (isW n)) ∧ w = w' := by
  have hc : isW n = (decide (1 ≤ n) && decide (n ≤ 4)) := by simp [isW]
  rw [hc]
  clear hc
  by_cases h1 : 1 ≤ n
  all_goals
    go_enter Tryz.func128, Tryz.ntmps128
    go_wp2
    go_ret
    simp [h1] <;> omega

theorem made_yes {g : Nat} {s : ByteArray} {k : Nat} {w : World} (h : RD w g s k) :
    Calls Tryz.prog 147 #[.pointer (some ⟨g, 0, none⟩)] w fun e w' => e = .returned (.bool true) ∧ w = w' := by
  have hc : w.cell? ⟨g, 2, none⟩ = some (.pointer (some ⟨g, 0, none⟩)) := h.cell 2
  have he := eqlR w ⟨g, 0, none⟩
  clear h
  go_enter Tryz.func147, Tryz.ntmps147
  go_wp2
  go_ret
  exact ⟨rfl, rfl⟩
theorem left_any {g : Nat} {s : ByteArray} {k : Nat} {w : World} (h : RD w g s k) (hs : s.size ≤ maxLen) (hk : k ≤ s.size) :
    Calls Tryz.prog 202 #[.pointer (some ⟨g, 0, none⟩)] w (Quiet w (.int .i64 ((s.size : Int) - k))) := by
  have hc0 : w.cell? ⟨g, 0, none⟩ = some (.string s) := h.cell 0
  have hc1 : w.cell? ⟨g, 1, none⟩ = some (.int .i64 k) := h.cell 1
  unfold maxLen at hs
  clear h
  have hw : IntKind.i64.wrap ((s.size : Int) - k) = (s.size : Int) - k := IntWalk.i64_in _ (by omega)
  go_enter Tryz.func202, Tryz.ntmps202
  go_wp2
  go_quiet (fail)
  go_wp2
  go_ret
  exact ⟨rfl, _, rfl⟩

/-- A string's part, as 'takR' has it. -/
theorem part_eq (s : ByteArray) (k n : Nat) : s.extract k (k + n) = ⟨(((bs s).drop k).take n).toArray⟩ := by
  refine bs_eq ?_
  rw [bs_extract]
  congr 1
  omega

theorem next_yes {g : Nat} {s : ByteArray} {k n : Nat} {w : World} (h : RD w g s k) (hs : s.size ≤ maxLen) (hk : k + n ≤ s.size) :
    Calls Tryz.prog 148 #[.pointer (some ⟨g, 0, none⟩), .int .i64 n] w (Rdr w g s (k + n) (.tuple #[.string ⟨(((bs s).drop k).take n).toArray⟩, .bool true])) := by
  have HC := Lib.hid (fun wx (hx : RD wx g s k) => left_any hx hs (by omega))
  have hc0 : w.cell? ⟨g, 0, none⟩ = some (.string s) := h.cell 0
  have hc1 : w.cell? ⟨g, 1, none⟩ = some (.int .i64 k) := h.cell 1
  have hf1 : w.frozen? ⟨g, 1, none⟩ = false := h.free 1
  have hdec : decide ((s.size : Int) - k < n) = false := by simp; omega
  have HP := Lib.hid (part_eq s k n)
  have hi1 : (0 : Int) ≤ (k : Int) := by omega
  have hi2 : (k : Int) ≤ (k : Int) + (n : Int) := by omega
  have hi3 : (k : Int) + (n : Int) ≤ (s.size : Int) := by omega
  have hi4 : ((k : Int) + (n : Int)).toNat = k + n := by omega
  have HR : Hid (RD w g s k) := Lib.hid h
  unfold maxLen at hs
  clear h
  go_enter Tryz.func148, Tryz.ntmps148
  go_wp2_with (go_at_call 202; refine (HC.out _ HR.out).mono ?_; rintro e w' ⟨rfl, nd, rfl⟩)
  go_quiet (fail)
  go_wp2
  go_ret2
  refine ⟨by rw [← HP.out]; rfl, ((HR.out.drewN nd).set 1 _).drewN nq, ?_⟩
  exact grown_next (grown_next (grown_drewN _ nd _) (grown_set (base := 0) _ g 1 _)) (grown_drewN _ nq _)
theorem next_no {g : Nat} {s : ByteArray} {k : Nat} {n : Int} {w : World} (h : RD w g s k) (hs : s.size ≤ maxLen) (hk : k ≤ s.size) (hn : (s.size : Int) - k < n) :
    Calls Tryz.prog 148 #[.pointer (some ⟨g, 0, none⟩), .int .i64 n] w (Quiet w (.tuple #[.string ⟨#[]⟩, .bool false])) := by
  have HC := Lib.hid (fun wx (hx : RD wx g s k) => left_any hx hs (by omega))
  have HR : Hid (RD w g s k) := Lib.hid h
  clear h
  go_enter Tryz.func148, Tryz.ntmps148
  go_wp2_with (go_at_call 202; refine (HC.out _ HR.out).mono ?_; rintro e w' ⟨rfl, nd, rfl⟩)
  go_ret2
  exact ⟨rfl, _, rfl⟩

theorem or32 (a c : Nat) (h : a * 256 + c < 4294967296) (hc : c < 256) : bits BinOp.or IntKind.u32 ((a : Int) * 256 % 4294967296) c = ((a * 256 + c : Nat) : Int) := by
  have h2 : a * 256 < 4294967296 := Nat.lt_of_le_of_lt (Nat.le_add_right _ _) h
  have h3 : c < 4294967296 := Nat.lt_trans hc (by decide)
  have e : (a : Int) * 256 % 4294967296 = ((a * 256 : Nat) : Int) := by omega
  rw [e, u32_or_nat (a * 256) c h2 h3]
  clear e h2 h3 h
  have h1 := Nat.shiftLeft_add_eq_or_of_lt (show c < 2 ^ 8 by omega) a
  rw [Nat.shiftLeft_eq] at h1
  rw [show (256 : Nat) = 2 ^ 8 by decide, h1]
theorem take_more' (s : ByteArray) (k : Nat) (h : k < s.size) : (bs s).take (k + 1) = (bs s).take k ++ [s[k]] := by
  rw [List.take_succ_eq_append_getElem (by rw [bs_length]; exact h)]; rfl
/-- The relation of joined's loop. -/
def JnRel (s : ByteArray) (w : World) (g : Nat) (v i : Value) (wr : World) : Prop :=
  ∃ k : Nat, i = .int .i64 k ∧ k ≤ s.size ∧ v = .int .u32 (num ((bs s).take k)) ∧ Row wr g (bs s) ∧ Below w.heap.size w wr
set_option maxHeartbeats 1000000 in
theorem joined_any (s : ByteArray) (w : World) (hs : s.size ≤ 4) :
    Calls Tryz.prog 149 #[.string s] w fun e w' => e = .returned (.int .u32 (num (bs s))) ∧ Below w.heap.size w w' := by
  have HM : Hid (s.size ≤ maxLen) := Lib.hid (by unfold maxLen; omega)
  go_enter Tryz.func149, Tryz.ntmps149
  go_wp2_with (refine wpList_bytes bt _ rfl _ rfl s rfl HM.out ?_; intro cap w1 hrow hb1 _ _ _)
  have HR0 : Hid (JnRel s w w.heap.size (.int .u32 0) (.int .i64 0) w1) := Lib.hid ⟨0, rfl, Nat.zero_le _, rfl, hrow, hb1⟩
  clear hrow hb1
  go_loopw [3, 9] (fun v i wr => JnRel s w w.heap.size v i wr) (fun _ i _ => s.size - (intOf i).toNat)
  case atStart => exact HR0.out
  case round =>
    clear HR0
    obtain ⟨k, rfl, hk, rfl, hrow, hb⟩ := hrel
    rcases Nat.lt_or_ge k s.size with hlt | hge
    · have hcell : wr.cell? ⟨w.heap.size, k, none⟩ = some (.int .u8 s[k].toNat) := hrow.cell k (by rw [bs_length]; exact hlt)
      have HT := Lib.hid (take_more' s k hlt)
      have hn := num_lt ((bs s).take k)
      have hl : ((bs s).take k).length = k := by rw [List.length_take, bs_length]; omega
      rw [hl] at hn
      have hp := pow_le4 (show k + 1 ≤ 4 by omega)
      rw [Nat.pow_succ] at hp
      have hc256 : s[k].toNat < 256 := s[k].toNat_lt
      have HV : Hid (bits BinOp.or IntKind.u32 (↑(num ((bs s).take k)) * 256 % 4294967296) ↑s[k].toNat = ((num ((bs s).take (k + 1)) : Nat) : Int)) := Lib.hid (by
        rw [HT.out, num_snoc]
        exact or32 _ _ (by omega) hc256)
      clear hn hl hp
      go_wp2
      go_roundw
      case rel => exact ⟨k + 1, by go_num, by omega, by rw [HV.out], hrow, hb⟩
      case measure => simp [intOf]; omega
    · have ht : (bs s).take k = bs s := List.take_of_length_le (by rw [bs_length]; omega)
      rw [ht]
      clear ht
      go_wp2
      go_ret
      exact ⟨rfl, hb⟩

/-! ### The methods -/
theorem numR_bad {l : List UInt8} {k : Nat} {n : Int} (h : isW n = false) : numR l k n = ⟨[], 2, k⟩ := if_pos h
theorem numR_take {l : List UInt8} {k : Nat} {n : Int} (h : isW n = true) : numR l k n = takR l k n := if_neg (by simp [h])
theorem takR_neg {l : List UInt8} {k : Nat} {n : Int} (h : n < 0) : takR l k n = ⟨[], 2, k⟩ := if_pos h
theorem takR_more {l : List UInt8} {k : Nat} {n : Int} (h0 : 0 ≤ n) (h : (l.length : Int) - k < n) : takR l k n = ⟨[], 8, k⟩ := by
  unfold takR
  rw [if_neg (by omega), if_pos h]
theorem takR_some {l : List UInt8} {k n : Nat} (h : k + n ≤ l.length) : takR l k (n : Int) = ⟨(l.drop k).take n, 0, k + n⟩ := by
  unfold takR
  rw [if_neg (by omega), if_neg (by omega)]
  rfl
theorem isW_yes {n : Int} (h : isW n = true) : 1 ≤ n ∧ n ≤ 4 := by simpa [isW] using h
theorem rdr_quiet {w w' : World} {g : Nat} {s : ByteArray} {k : Nat} {v : Value} (h : RD w g s k) (m : Nat) (hw : w' = w.drewN m) : Rdr w g s k v (.returned v) w' := by
  subst hw
  exact ⟨rfl, h.drewN m, grown_drewN _ _ _⟩
theorem Rdr.to {w w' : World} {g k k' : Nat} {s : ByteArray} {v v' : Value} {e : Ending} (h : Rdr w g s k v e w') (hk : k = k') (hv : v = v') : Rdr w g s k' v' e w' := by
  subst hk; subst hv; exact h

set_option maxHeartbeats 1000000 in
theorem rTake_any {g : Nat} {s : ByteArray} {k : Nat} {w : World} (n : Int) (h : RD w g s k) (hs : s.size ≤ maxLen) (hk : k ≤ s.size) :
    Calls Tryz.prog 159 #[.pointer (some ⟨g, 0, none⟩), .int .i64 n] w (Rdr w g s (takR (bs s) k n).k (.tuple #[.string ⟨(takR (bs s) k n).s.toArray⟩, .int .i64 (takR (bs s) k n).e])) := by
  have HR : Hid (RD w g s k) := Lib.hid h
  have HM := Lib.hid (fun wx (hx : RD wx g s k) => made_yes hx)
  by_cases h0 : n < 0
  · rw [takR_neg h0]
    clear h hs hk
    go_enter Tryz.func159, Tryz.ntmps159
    go_wp2_with (go_at_call 147; refine (HM.out _ HR.out).mono ?_; rintro e w' ⟨rfl, rfl⟩)
    go_ret2
    exact rdr_quiet HR.out 0 rfl
  · have h0' : 0 ≤ n := by omega
    clear h0
    by_cases hn : (s.size : Int) - k < n
    · have HN := Lib.hid (fun wx (hx : RD wx g s k) => next_no hx hs hk hn)
      rw [takR_more h0' (by rw [bs_length]; exact hn)]
      clear h hs hk hn
      go_enter Tryz.func159, Tryz.ntmps159
      go_wp2_with (first | (go_at_call 147; refine (HM.out _ HR.out).mono ?_; rintro e w' ⟨rfl, rfl⟩) | (go_at_call 148; refine (HN.out _ HR.out).mono ?_; rintro e w' ⟨rfl, nd, rfl⟩))
      go_ret2
      exact rdr_quiet HR.out _ rfl
    · obtain ⟨n, rfl⟩ := Int.eq_ofNat_of_zero_le h0'
      have HN := Lib.hid (fun wx (hx : RD wx g s k) => next_yes (n := n) hx hs (by omega))
      rw [takR_some (by rw [bs_length]; omega)]
      clear h hs hk hn
      go_enter Tryz.func159, Tryz.ntmps159
      go_wp2_with (first | (go_at_call 147; refine (HM.out _ HR.out).mono ?_; rintro e w' ⟨rfl, rfl⟩) | (go_at_call 148; refine (HN.out _ HR.out).mono ?_; rintro e w1 ⟨rfl, hr1, hg1⟩; have HR1 := Lib.hid hr1; have HG1 := Lib.hid hg1; clear hr1 hg1))
      go_ret2
      exact ⟨rfl, HR1.out, HG1.out⟩
theorem tosize (l : List UInt8) : (⟨l.toArray⟩ : ByteArray).size = l.length := by rw [← bs_length, bs_mk]
set_option maxHeartbeats 1000000 in
theorem rNumber_any {g : Nat} {s : ByteArray} {k : Nat} {w : World} (n : Int) (h : RD w g s k) (hs : s.size ≤ maxLen) (hk : k ≤ s.size) :
    Calls Tryz.prog 118 #[.pointer (some ⟨g, 0, none⟩), .int .i64 n] w (Rdr w g s (numR (bs s) k n).k (.tuple #[.int .u32 (num (numR (bs s) k n).s), .int .i64 (numR (bs s) k n).e])) := by
  have HR : Hid (RD w g s k) := Lib.hid h
  have HM := Lib.hid (fun wx (hx : RD wx g s k) => made_yes hx)
  cases hw : isW n
  · rw [numR_bad hw]
    clear h hs hk
    have HI := Lib.hid (isWidth_any n)
    rw [hw] at HI
    clear hw
    go_enter Tryz.func118, Tryz.ntmps118
    go_wp2_with (first | (go_at_call 147; refine (HM.out _ HR.out).mono ?_; rintro e w' ⟨rfl, rfl⟩) | (go_at_call 128; refine (HI.out _).mono ?_; rintro e w' ⟨rfl, rfl⟩))
    go_ret2
    exact rdr_quiet HR.out 0 rfl
  · obtain ⟨h1, h4⟩ := isW_yes hw
    rw [numR_take hw]
    have HI := Lib.hid (isWidth_any n)
    rw [hw] at HI
    clear hw
    by_cases hn : (s.size : Int) - k < n
    · have HN := Lib.hid (fun wx (hx : RD wx g s k) => next_no hx hs hk hn)
      rw [takR_more (by omega) (by rw [bs_length]; exact hn)]
      clear h hs hk hn
      go_enter Tryz.func118, Tryz.ntmps118
      go_wp2_with (first | (go_at_call 147; refine (HM.out _ HR.out).mono ?_; rintro e w' ⟨rfl, rfl⟩) | (go_at_call 128; refine (HI.out _).mono ?_; rintro e w' ⟨rfl, rfl⟩) | (go_at_call 148; refine (HN.out _ HR.out).mono ?_; rintro e w' ⟨rfl, nd, rfl⟩))
      go_ret2
      exact rdr_quiet HR.out _ rfl
    · obtain ⟨n, rfl⟩ := Int.eq_ofNat_of_zero_le (show 0 ≤ n by omega)
      have HN := Lib.hid (fun wx (hx : RD wx g s k) => next_yes (n := n) hx hs (by omega))
      rw [takR_some (by rw [bs_length]; omega)]
      have HJ := Lib.hid (fun wx => joined_any ⟨(((bs s).drop k).take n).toArray⟩ wx (by rw [tosize, List.length_take]; omega))
      rw [bs_mk] at HJ
      clear h hs hk hn
      go_enter Tryz.func118, Tryz.ntmps118
      go_wp2_with (first | (go_at_call 147; refine (HM.out _ HR.out).mono ?_; rintro e w' ⟨rfl, rfl⟩) | (go_at_call 128; refine (HI.out _).mono ?_; rintro e w' ⟨rfl, rfl⟩) | (go_at_call 148; refine (HN.out _ HR.out).mono ?_; rintro e w1 ⟨rfl, hr1, hg1⟩; have HR1 := Lib.hid hr1; have HG1 := Lib.hid hg1; clear hr1 hg1) | (go_at_call 149; refine (HJ.out _).mono ?_; rintro e w2 ⟨rfl, hb2⟩))
      go_ret2
      exact ⟨rfl, HR1.out.next hb2, grown_below HG1.out hb2⟩
theorem seekR_bad {l : List UInt8} {k : Nat} {n : Int} (h : n < 0 ∨ (l.length : Int) < n) : seekR l k n = (2, k) := if_pos h
theorem seekR_some {l : List UInt8} {k n : Nat} (h : n ≤ l.length) : seekR l k (n : Int) = (0, n) := if_neg (by omega)
set_option maxHeartbeats 1000000 in
theorem rSeek_any {g : Nat} {s : ByteArray} {k : Nat} {w : World} (n : Int) (h : RD w g s k) (hs : s.size ≤ maxLen) (hk : k ≤ s.size) :
    Calls Tryz.prog 152 #[.pointer (some ⟨g, 0, none⟩), .int .i64 n] w (Rdr w g s (seekR (bs s) k n).2 (.int .i64 (seekR (bs s) k n).1)) := by
  have HR : Hid (RD w g s k) := Lib.hid h
  have HM := Lib.hid (fun wx (hx : RD wx g s k) => made_yes hx)
  have hc0 : w.cell? ⟨g, 0, none⟩ = some (.string s) := h.cell 0
  have hc1 : w.cell? ⟨g, 1, none⟩ = some (.int .i64 k) := h.cell 1
  have hf1 : w.frozen? ⟨g, 1, none⟩ = false := h.free 1
  clear h
  by_cases h0 : n < 0
  · rw [seekR_bad (.inl h0)]
    go_enter Tryz.func152, Tryz.ntmps152
    go_wp2_with (go_at_call 147; refine (HM.out _ HR.out).mono ?_; rintro e w' ⟨rfl, rfl⟩)
    go_ret
    exact rdr_quiet HR.out 0 rfl
  · have h0' : 0 ≤ n := by omega
    clear h0
    by_cases hn : (s.size : Int) < n
    · rw [seekR_bad (.inr (by rw [bs_length]; exact hn))]
      go_enter Tryz.func152, Tryz.ntmps152
      go_wp2_with (go_at_call 147; refine (HM.out _ HR.out).mono ?_; rintro e w' ⟨rfl, rfl⟩)
      go_ret
      exact rdr_quiet HR.out 0 rfl
    · obtain ⟨n, rfl⟩ := Int.eq_ofNat_of_zero_le h0'
      rw [seekR_some (by rw [bs_length]; omega)]
      have hd : decide (s.size < n) = false := by simp; omega
      go_enter Tryz.func152, Tryz.ntmps152
      go_wp2_with (go_at_call 147; refine (HM.out _ HR.out).mono ?_; rintro e w' ⟨rfl, rfl⟩)
      go_ret
      exact ⟨rfl, HR.out.set 1 _, grown_set (base := 0) _ g 1 _⟩
theorem rAt_any {g : Nat} {s : ByteArray} {k : Nat} {w : World} (h : RD w g s k) :
    Calls Tryz.prog 155 #[.pointer (some ⟨g, 0, none⟩)] w fun e w' => e = .returned (.int .i64 k) ∧ w = w' := by
  have HR : Hid (RD w g s k) := Lib.hid h
  have HM := Lib.hid (fun wx (hx : RD wx g s k) => made_yes hx)
  have hc1 : w.cell? ⟨g, 1, none⟩ = some (.int .i64 k) := h.cell 1
  clear h
  go_enter Tryz.func155, Tryz.ntmps155
  go_wp2_with (go_at_call 147; refine (HM.out _ HR.out).mono ?_; rintro e w' ⟨rfl, rfl⟩)
  go_ret
  exact ⟨rfl, rfl⟩
theorem rLeft_any {g : Nat} {s : ByteArray} {k : Nat} {w : World} (h : RD w g s k) (hs : s.size ≤ maxLen) (hk : k ≤ s.size) :
    Calls Tryz.prog 144 #[.pointer (some ⟨g, 0, none⟩)] w (Quiet w (.int .i64 ((s.size : Int) - k))) := by
  have HR : Hid (RD w g s k) := Lib.hid h
  have HM := Lib.hid (fun wx (hx : RD wx g s k) => made_yes hx)
  have HL := Lib.hid (fun wx (hx : RD wx g s k) => left_any hx hs hk)
  clear h hs hk
  go_enter Tryz.func144, Tryz.ntmps144
  go_wp2_with (first | (go_at_call 147; refine (HM.out _ HR.out).mono ?_; rintro e w' ⟨rfl, rfl⟩) | (go_at_call 202; refine (HL.out _ HR.out).mono ?_; rintro e w' ⟨rfl, nd, rfl⟩))
  go_ret
  exact ⟨rfl, _, rfl⟩
end Go.Proofs.YtodedbokeodmkaaGreat
