/-
  What a writer of octets answers: the walks of octets.NewWriter and the writer's methods. Conditions: as each theorem names them.
-/
import Derived.Test.YtodedbokeodmkaaGreatZk9
import Derived.Laws.CopyOwn
namespace Go.Proofs.YtodedbokeodmkaaGreat
open Go.RowKit
set_option linter.unusedVariables false

theorem infoW : (Tryz.prog.info? 130).isSome = true := by kernel_rfl
theorem eqlW (w : World) (a : Addr) : (binOp .eql 68 (.pointer (some a)) (.pointer (some a))).run Tryz.prog w = .ok (.bool true) w := by
  obtain ⟨j, hj⟩ := Option.isSome_iff_exists.1 infoW
  exact run_eql_ptr_same w a Tryz.underlying68 hj

/-- What WR says of the object's cells. -/
theorem WR.most {w : World} {base g M : Nat} {l : List UInt8} {f : Nat} (h : WR w base g M l f) : w.cell? ⟨g, 1, none⟩ = some (.int .i64 M) ∧ w.frozen? ⟨g, 0, none⟩ = false ∧ w.frozen? ⟨g, 2, none⟩ = false ∧ w.cell? ⟨g, 2, none⟩ = some (.int .i64 f) ∧ w.cell? ⟨g, 3, none⟩ = some (.pointer (some ⟨g, 0, none⟩)) := by
  obtain ⟨v, hL, _⟩ := h
  exact ⟨hL.cell 1, hL.free 0, hL.free 2, hL.cell 2, hL.cell 3⟩
theorem WR.drewN {w : World} {base g M : Nat} {l : List UInt8} {f : Nat} (h : WR w base g M l f) (m : Nat) : WR (w.drewN m) base g M l f := h

/-- What NewWriter does. -/
def NewW (w : World) (M : Nat) (e : Ending) (w' : World) : Prop := e = .returned (.pointer (some ⟨w.heap.size, 0, none⟩)) ∧ WR w' w.heap.size w.heap.size M [] 0 ∧ rowOf w' w.heap.size = none ∧ Below w.heap.size w w'
theorem NewWriter_any (n : Int) (w : World) (hn : n ≤ 9223372036854775807) :
    Calls Tryz.prog 30 #[.int .i64 n] w (NewW w n.toNat) := by
  rcases Int.lt_or_le n 0 with h0 | h0
  · obtain ⟨M, hM⟩ : ∃ M, M = n.toNat := ⟨_, rfl⟩
    have hM0 : M = 0 := by omega
    rw [← hM, hM0]
    clear hM hM0
    go_enter Tryz.func30, Tryz.ntmps30
    go_wp2
    go_ret
    exact ⟨rfl, ⟨_, Lies.new _ _ _, Own.none_ _ _⟩, rowOf_lies (u := .slice none 0 0) (Lies.new _ _ _) rfl, (Below.refl _ _).alloc (Nat.le_refl _) _⟩
  · obtain ⟨M, rfl⟩ := Int.eq_ofNat_of_zero_le h0
    rw [Int.toNat_natCast]
    go_enter Tryz.func30, Tryz.ntmps30
    go_wp2
    go_ret
    exact ⟨rfl, ⟨_, Lies.new _ _ _, Own.none_ _ _⟩, rowOf_lies (u := .slice none 0 0) (Lies.new _ _ _) rfl, (Below.refl _ _).alloc (Nat.le_refl _) _⟩

theorem wmade_yes {base g M : Nat} {l : List UInt8} {f : Nat} {w : World} (h : WR w base g M l f) :
    Calls Tryz.prog 83 #[.pointer (some ⟨g, 0, none⟩)] w fun e w' => e = .returned (.bool true) ∧ w = w' := by
  have hc : w.cell? ⟨g, 3, none⟩ = some (.pointer (some ⟨g, 0, none⟩)) := h.most.2.2.2.2
  have he := eqlW w ⟨g, 0, none⟩
  clear h
  go_enter Tryz.func83, Tryz.ntmps83
  go_wp2
  go_ret
  exact ⟨rfl, rfl⟩
theorem wErr_any {base g M : Nat} {l : List UInt8} {f : Nat} {w : World} (h : WR w base g M l f) :
    Calls Tryz.prog 80 #[.pointer (some ⟨g, 0, none⟩)] w fun e w' => e = .returned (.int .i64 f) ∧ w = w' := by
  have HW := Lib.hid h
  have HM := Lib.hid (fun wx (hx : WR wx base g M l f) => wmade_yes hx)
  have hc : w.cell? ⟨g, 2, none⟩ = some (.int .i64 f) := h.most.2.2.2.1
  clear h
  go_enter Tryz.func80, Tryz.ntmps80
  go_wp2_with (go_at_call 83; refine (HM.out _ HW.out).mono ?_; rintro e w' ⟨rfl, rfl⟩)
  go_ret
  exact ⟨rfl, rfl⟩
theorem wLen_any {base g M : Nat} {l : List UInt8} {f : Nat} {w : World} (h : WR w base g M l f) :
    Calls Tryz.prog 78 #[.pointer (some ⟨g, 0, none⟩)] w fun e w' => e = .returned (.int .i64 l.length) ∧ w = w' := by
  have HW := Lib.hid h
  have HM := Lib.hid (fun wx (hx : WR wx base g M l f) => wmade_yes hx)
  obtain ⟨v, hL, hown⟩ := h
  obtain ⟨A, cap, rfl⟩ := hown.shape
  have hc : w.cell? ⟨g, 0, none⟩ = some (.slice A l.length cap) := hL.cell 0
  clear hL hown
  go_enter Tryz.func78, Tryz.ntmps78
  go_wp2_with (go_at_call 83; refine (HM.out _ HW.out).mono ?_; rintro e w' ⟨rfl, rfl⟩)
  go_ret
  exact ⟨rfl, rfl⟩
theorem wText_any {base g M : Nat} {l : List UInt8} {f : Nat} {w : World} (h : WR w base g M l f) :
    Calls Tryz.prog 42 #[.pointer (some ⟨g, 0, none⟩)] w fun e w' => e = .returned (.string ⟨l.toArray⟩) ∧ w = w' := by
  have HW := Lib.hid h
  have HM := Lib.hid (fun wx (hx : WR wx base g M l f) => wmade_yes hx)
  obtain ⟨v, hL, hown⟩ := h
  have hcv := bt.conv_own hown
  obtain ⟨A, cap, rfl⟩ := hown.shape
  have hc : w.cell? ⟨g, 0, none⟩ = some (.slice A l.length cap) := hL.cell 0
  clear hL hown
  go_enter Tryz.func42, Tryz.ntmps42
  go_wp2_with (go_at_call 83; refine (HM.out _ HW.out).mono ?_; rintro e w' ⟨rfl, rfl⟩)
  go_ret
  exact ⟨rfl, rfl⟩
theorem div_zero (v m : Nat) (h : 0 < m) : (((v : Int) / (m : Int)) == 0) = decide (v < m) := by
  rw [Bool.eq_iff_iff, beq_iff_eq, decide_eq_true_iff]
  have e : (v : Int) / (m : Int) = ((v / m : Nat) : Int) := by omega
  rw [e, Int.natCast_eq_zero, Nat.div_eq_zero_iff]
  omega
theorem ret_bool {a b : Bool} (h : a = b) : Ending.returned (.bool a) = .returned (.bool b) := by rw [h]
theorem hasRoom_any (v : Nat) (n : Int) (w : World) (hv : v < 4294967296) :
    Calls Tryz.prog 108 #[.int .u32 v, .int .i64 n] w fun e w' => e = .returned (.bool (room v n)) ∧ w = w' := by
  have HI := Lib.hid (isWidth_any n)
  cases hw : isW n
  · rw [hw] at HI
    have HB : Hid (room v n = false) := Lib.hid (by unfold room; rw [hw]; rfl)
    clear hw
    go_enter Tryz.func108, Tryz.ntmps108
    go_wp2_with (go_at_call 128; refine (HI.out _).mono ?_; rintro e w' ⟨rfl, rfl⟩)
    go_ret
    exact ⟨by rw [HB.out]; rfl, rfl⟩
  · obtain ⟨h1, h4⟩ := isW_yes hw
    rw [hw] at HI
    have hb : room v n = decide (v < 256 ^ n.toNat) := by unfold room; rw [hw]; rfl
    clear hw
    obtain rfl | rfl | rfl | rfl : n = 1 ∨ n = 2 ∨ n = 3 ∨ n = 4 := by omega
    all_goals
      have HB := Lib.hid hb
      clear hb h1 h4
      go_enter Tryz.func108, Tryz.ntmps108
      go_wp2_with (go_at_call 128; refine (HI.out _).mono ?_; rintro e w' ⟨rfl, rfl⟩)
      go_ret
      rw [HB.out]
      first | exact ⟨ret_bool (div_zero v 256 (by decide)), rfl⟩ | exact ⟨ret_bool (div_zero v 65536 (by decide)), rfl⟩ | exact ⟨ret_bool (div_zero v 16777216 (by decide)), rfl⟩ | exact ⟨ret_bool (div_zero v 4294967296 (by decide)), rfl⟩

theorem made_own {w1 : World} {base n : Nat} {tb : TypeId} {v : Value} (h : w1.ownsRow base tb 1 v n (madeCells (Value.int .u8 0).cells (n * 1)).toList) : w1.ownsRow base tb 1 v n ((List.replicate n (0 : UInt8)).map B) := by
  have e : (madeCells (Value.int .u8 0).cells (n * 1)).toList = (List.replicate n (0 : UInt8)).map B := by
    rw [Nat.mul_one, List.map_replicate]
    exact toList_madeCells_one _ _
  rw [← e]
  exact h
theorem shr8 (v m : Nat) : (v : Int) / 2 ^ (8 * m) % 256 = ((UInt8.ofNat (v / 256 ^ m)).toNat : Int) := by
  have e : (2 : Int) ^ (8 * m) = ((256 ^ m : Nat) : Int) := by
    rw [show (256 : Nat) = 2 ^ 8 by decide, ← Nat.pow_mul]
    exact (Int.natCast_pow 2 (8 * m)).symm
  rw [ofNat_val, Int.natCast_emod, Int.natCast_ediv, e]
  rfl
/-- The relation of cut's loop. -/
def CutRel (v n : Nat) (w : World) (sh i : Value) (wr : World) : Prop :=
  ∃ k : Nat, i = .int .i64 k ∧ k ≤ n ∧ sh = .int .i64 ((8 * (n - k) : Nat) : Int) ∧ wr.ownsRow w.heap.size 5 1 (.slice (some ⟨w.heap.size, 0, none⟩) n n) n ((front v n k).map B) ∧ Below w.heap.size w wr
set_option maxHeartbeats 1000000 in
theorem cut_any (v n : Nat) (w : World) (hv : v < 4294967296) (hn : n ≤ 4) :
    Calls Tryz.prog 109 #[.int .u32 v, .int .i64 n] w fun e w' => e = .returned (.slice (some ⟨w.heap.size, 0, none⟩) n n) ∧ Own 5 w' w.heap.size (.slice (some ⟨w.heap.size, 0, none⟩) n n) (octs v n) ∧ Below w.heap.size w w' := by
  obtain ⟨i0, hi, hz0, hz1, hz2⟩ := info_parts bt.info
  obtain ⟨w1, hmk, hown, hg⟩ := run_make_full w w.heap.size 128 5 i0 (.int .u8 0) 1 bt.us hi hz0 hz1 .i64 .i64 n (by rw [hz2]; omega) (by unfold maxLen; omega) (Nat.le_refl _)
  have HB1 := Lib.hid ((Below.refl w.heap.size w).grown hg (Nat.le_refl _) (by simp))
  have HO1 := Lib.hid (made_own hown)
  rw [← front_zero v n] at HO1
  have HR0 : Hid (CutRel v n w (.int .i64 (8 * (n : Int))) (.int .i64 0) w1) := Lib.hid ⟨0, rfl, Nat.zero_le _, by rw [Nat.sub_zero]; congr 1, HO1.out, HB1.out⟩
  clear hi hz0 hz1 hz2 hown hg HO1
  go_enter Tryz.func109, Tryz.ntmps109
  go_wp2
  clear hmk
  go_loopw [6, 13] (fun sh i wr => CutRel v n w sh i wr) (fun _ i _ => n - (intOf i).toNat)
  case atStart => exact HR0.out
  case round =>
    clear HR0
    obtain ⟨k, rfl, hk, rfl, hown, hb⟩ := hrel
    rcases Nat.lt_or_ge k n with hlt | hge
    · obtain ⟨u, hcell⟩ : ∃ u, wr.cell? ⟨w.heap.size, k, none⟩ = some u := by
        have hfl := front_length (v := v) hk
        exact ⟨B ((front v n k)[k]'(by omega)), by rw [World.ownsRow.cellAt hown k (by omega), List.getElem?_map, List.getElem?_eq_getElem (by omega)]; rfl⟩
      have hfr : wr.frozen? ⟨w.heap.size, k, none⟩ = false := World.ownsRow.frozenAt hown k
      have HV : Hid (Value.int .u8 ((v : Int) / 2 ^ (8 * (n - k) - 8) % 256) = B (UInt8.ofNat (v / 256 ^ (n - 1 - k)))) := Lib.hid (by
        rw [show 8 * (n - k) - 8 = 8 * (n - 1 - k) by omega, shr8]
        rfl)
      have HS : Hid (Value.int .i64 (8 * ((n - k : Nat) : Int) - 8) = Value.int .i64 ((8 * (n - (k + 1)) : Nat) : Int)) := Lib.hid (by congr 1; omega)
      have HF := Lib.hid (front_step (v := v) hlt)
      have HO := Lib.hid hown
      clear hown
      go_wp2
      go_roundw
      case rel =>
        have h1 := (World.ownsRow.stored HO.out k (B (UInt8.ofNat (v / 256 ^ (n - 1 - k))))).1
        rw [← List.map_set, HF.out] at h1
        exact ⟨k + 1, by go_num, by omega, HS.out, by rw [HV.out]; exact h1, hb.setCell (by simp) _⟩
      case measure => simp [intOf]; omega
    · obtain rfl : k = n := by omega
      rw [front_end] at hown
      have HO := Lib.hid hown
      clear hown
      go_wp2
      go_ret
      exact ⟨rfl, own_of (octs_length _ _) HO.out, hb⟩

/-! ### Put, Number, Patch -/
theorem Wtr.keep {w : World} {base g M : Nat} {l : List UInt8} {f : Nat} {v : Value} (h : WR w base g M l f) : Wtr w base g M l f v (.returned v) w := ⟨rfl, h, Kp.refl _ _ _⟩
theorem putW_err {M : Nat} {l : List UInt8} {f : Nat} {s : List UInt8} (h : f ≠ 0) : putW M l f s = ⟨f, l, f⟩ := if_pos h
theorem putW_long {M : Nat} {l : List UInt8} {s : List UInt8} (h : M < l.length + s.length) : putW M l 0 s = ⟨3, l, 3⟩ := by
  unfold putW
  rw [if_neg (by omega), if_pos h]
theorem putW_ok {M : Nat} {l : List UInt8} {s : List UInt8} (h : l.length + s.length ≤ M) : putW M l 0 s = ⟨0, l ++ s, 0⟩ := by
  unfold putW
  rw [if_neg (by omega), if_neg (by omega)]
set_option maxHeartbeats 1000000 in
theorem wPut_any {base g M : Nat} {l : List UInt8} {f : Nat} {w : World} (s : ByteArray) (h : WR w base g M l f) (hb : base ≤ g) (hl : l.length ≤ M) (hM : M ≤ 9223372036854775807) (hll : l.length ≤ 1099511627776) (hs : s.size ≤ 1099511627776) :
    Calls Tryz.prog 106 #[.pointer (some ⟨g, 0, none⟩), .string s] w (Wtr w base g M (putW M l f (bs s)).l (putW M l f (bs s)).f (.int .i64 (putW M l f (bs s)).e)) := by
  have HW := Lib.hid h
  have HE := Lib.hid (fun wx (hx : WR wx base g M l f) => wErr_any hx)
  by_cases hf : f = 0
  · subst hf
    obtain ⟨v, hL, hown⟩ := h
    have hbw : base ≤ w.heap.size := Nat.le_trans hb (Nat.le_of_lt hL.lt)
    obtain ⟨A, cap, rfl⟩ := hown.shape
    have hc0 : w.cell? ⟨g, 0, none⟩ = some (.slice A l.length cap) := hL.cell 0
    have hc1 : w.cell? ⟨g, 1, none⟩ = some (.int .i64 M) := hL.cell 1
    have hc2 : w.cell? ⟨g, 2, none⟩ = some (.int .i64 0) := hL.cell 2
    have hf0 : w.frozen? ⟨g, 0, none⟩ = false := hL.free 0
    have hf2 : w.frozen? ⟨g, 2, none⟩ = false := hL.free 2
    have hw : IntKind.i64.wrap ((M : Int) - l.length) = (M : Int) - l.length := IntWalk.i64_in _ (by omega)
    have HL := Lib.hid hL
    have HO := Lib.hid hown
    clear hL hown
    by_cases hlong : M < l.length + s.size
    · have hd : decide ((M : Int) - l.length < s.size) = true := by simp; omega
      rw [putW_long (by rw [bs_length]; exact hlong)]
      clear hlong
      go_enter Tryz.func106, Tryz.ntmps106
      go_wp2_with (go_at_call 80; refine (HE.out _ HW.out).mono ?_; rintro e w' ⟨rfl, rfl⟩)
      go_quiet (fail)
      go_wp2
      go_ret
      exact ⟨rfl, ⟨_, (HL.out.drewN nq).set 2 _, Own.grown (w := w.drewN nq) HO.out (grown_set (base := 0) _ g 2 _) (.inr (Own.ne_lies HO.out HL.out (by decide)).symm)⟩, Kp.from_drewN (n := nq) (Kp.of_grown (w := w.drewN nq) (grown_set (base := 0) _ g 2 _) hb hbw (rowOf_set _ g (by decide) _))⟩
    · have hd : decide ((M : Int) - l.length < s.size) = false := by simp; omega
      rw [putW_ok (by rw [bs_length]; omega)]
      obtain ⟨L, hL'⟩ : ∃ L, l ++ bs s = L := ⟨_, rfl⟩
      rw [hL']
      have HLL := Lib.hid hL'
      clear hlong hL'
      go_enter Tryz.func106, Tryz.ntmps106
      go_wp2_with (go_at_call 80; refine (HE.out _ HW.out).mono ?_; rintro e w' ⟨rfl, rfl⟩)
      go_quiet (fail)
      have hLL : l.length + s.size ≤ 70368744177664 := by omega
      have hbw' : base ≤ (w.drewN nq).heap.size := hbw
      go_wp2_with (at_builtin; refine wpList_appendL bt _ rfl (.tmp 35) (.tmp 36) rfl base (.slice A l.length cap) l rfl HO.out s rfl hLL hbw' L HLL.out ?_; intro A3 cap3 w3 hown3 hg3 hob3; have HB3 := Lib.hid hob3; clear hob3; have HO3 := Lib.hid hown3; have HG3 := Lib.hid hg3; have HL3 := Lib.hid (Lies.grown (w := w.drewN nq) HL.out hg3 (Own.ne_lies HO.out HL.out (by decide))); clear hown3 hg3; have hc3 := HL3.out.cell 0; have hf3 := HL3.out.free 0)
      go_ret
      refine ⟨rfl, ⟨_, HL3.out.set 0 _, Own.grown HO3.out (grown_set (base := 0) _ g 0 _) (.inr (Own.ne_lies HO3.out HL3.out (by decide)).symm)⟩, ?_⟩
      exact Kp.from_drewN (n := nq) (Kp.of_put (w := w.drewN nq) (HL.out.drewN nq) rfl HO.out (by decide) HG3.out hbw hb HB3.out)
  · rw [putW_err hf]
    have hfb : ((f : Int) != 0) = true := by rw [bne_iff_ne]; omega
    clear h hf
    go_enter Tryz.func106, Tryz.ntmps106
    go_wp2_with (go_at_call 80; refine (HE.out _ HW.out).mono ?_; rintro e w' ⟨rfl, rfl⟩)
    go_ret
    exact Wtr.keep HW.out

theorem numW_err {M : Nat} {l : List UInt8} {f v : Nat} {n : Int} (h : f ≠ 0) : numW M l f v n = ⟨f, l, f⟩ := if_pos h
theorem numW_arg {M : Nat} {l : List UInt8} {v : Nat} {n : Int} (h : room v n = false) : numW M l 0 v n = ⟨2, l, 0⟩ := by
  unfold numW
  rw [if_neg (by omega), if_pos h]
theorem numW_put {M : Nat} {l : List UInt8} {v : Nat} {n : Int} (h : room v n = true) : numW M l 0 v n = putW M l 0 (octs v n.toNat) := by
  unfold numW
  rw [if_neg (by omega), if_neg (by simp [h])]
theorem WR.next {w w' : World} {base g M : Nat} {l : List UInt8} {f : Nat} (h : WR w base g M l f) (hb : Below w.heap.size w w') : WR w' base g M l f := by
  obtain ⟨v, hL, hown⟩ := h
  exact ⟨v, hL.next hb, hown.below hb (Nat.le_refl _)⟩
theorem WR.lt {w : World} {base g M : Nat} {l : List UInt8} {f : Nat} (h : WR w base g M l f) : g < w.heap.size := by
  obtain ⟨v, hL, _⟩ := h
  exact hL.lt
set_option maxHeartbeats 1000000 in
theorem wNumber_any {base g M : Nat} {l : List UInt8} {f : Nat} {w : World} (v : Nat) (n : Int) (h : WR w base g M l f) (hv : v < 4294967296) (hb : base ≤ g) (hl : l.length ≤ M) (hM : M ≤ 9223372036854775807) (hll : l.length ≤ 1099511627776) :
    Calls Tryz.prog 72 #[.pointer (some ⟨g, 0, none⟩), .int .u32 v, .int .i64 n] w (Wtr w base g M (numW M l f v n).l (numW M l f v n).f (.int .i64 (numW M l f v n).e)) := by
  have HW := Lib.hid h
  have HE := Lib.hid (fun wx (hx : WR wx base g M l f) => wErr_any hx)
  have hbw : base ≤ w.heap.size := Nat.le_trans hb (Nat.le_of_lt h.lt)
  by_cases hf : f = 0
  · subst hf
    have HH := Lib.hid (fun wx => hasRoom_any v n wx hv)
    cases hr : room v n
    · rw [numW_arg hr]
      rw [hr] at HH
      clear h hr
      go_enter Tryz.func72, Tryz.ntmps72
      go_wp2_with (first | (go_at_call 80; refine (HE.out _ HW.out).mono ?_; rintro e w' ⟨rfl, rfl⟩) | (go_at_call 108; refine (HH.out _).mono ?_; rintro e w' ⟨rfl, rfl⟩))
      go_ret
      exact Wtr.keep HW.out
    · rw [numW_put hr]
      rw [hr] at HH
      obtain ⟨h1, h4, _⟩ := room_yes hr
      obtain ⟨n, rfl⟩ := Int.eq_ofNat_of_zero_le (show 0 ≤ n by omega)
      rw [Int.toNat_natCast]
      have HC := Lib.hid (fun wx => cut_any v n wx hv (by omega))
      have hos : (⟨(octs v n).toArray⟩ : ByteArray).size ≤ 1099511627776 := by rw [tosize, octs_length]; omega
      have HP := Lib.hid (fun wx (hx : WR wx base g M l 0) => wPut_any ⟨(octs v n).toArray⟩ hx hb hl hM hll hos)
      rw [bs_mk] at HP
      clear h hr hos
      go_enter Tryz.func72, Tryz.ntmps72
      go_wp2_with (first | (go_at_call 80; refine (HE.out _ HW.out).mono ?_; rintro e w' ⟨rfl, rfl⟩) | (go_at_call 108; refine (HH.out _).mono ?_; rintro e w' ⟨rfl, rfl⟩) | (go_at_call 109; refine (HC.out _).mono ?_; rintro e w1 ⟨rfl, hown1, hb1⟩; have hcv := bt.conv_own hown1; have HB1 := Lib.hid hb1; clear hown1 hb1) | (go_at_call 106; refine (HP.out _ (HW.out.next HB1.out)).mono ?_; rintro e w2 ⟨rfl, hw2, hk2⟩; have HW2 := Lib.hid hw2; have HK2 := Lib.hid hk2; clear hw2 hk2))
      go_ret
      exact ⟨rfl, HW2.out, (Kp.of_below HB1.out hbw HW.out.lt).trans HK2.out⟩
  · rw [numW_err hf]
    have hfb : ((f : Int) != 0) = true := by rw [bne_iff_ne]; omega
    clear h hf
    go_enter Tryz.func72, Tryz.ntmps72
    go_wp2_with (go_at_call 80; refine (HE.out _ HW.out).mono ?_; rintro e w' ⟨rfl, rfl⟩)
    go_ret
    exact Wtr.keep HW.out
end Go.Proofs.YtodedbokeodmkaaGreat
