/-
  A message's header as numbers and octets: plain mathematics. No condition beyond those that each theorem names. header.Check: the walk. No condition. An argument that is a message's header, opened. No condition.
-/
import Derived.Test.YtdpgcgaalamgkaaGreatZk0
import Derived.Test.YtdpgcgaalamgkaaGreatZk4
import Derived.Laws.Rows
import Derived.Laws.BitsAllLaws
import Derived.StillTailTactics
import Derived.BigRegion
import Derived.WalkKit
import Derived.OpenShut
import Derived.ShutString
import Derived.Carry
import Derived.Lib.SmallJoins
namespace Go.Proofs.YtdpgcgaalamgkaaGreat
open Go.RowKit
set_option linter.unusedVariables false

/-- A header: its ID, flags, Opcode, Rcode, counts. -/
structure Hd where
  id : Nat
  re : Bool
  op : Int
  aa : Bool
  tc : Bool
  rd : Bool
  ra : Bool
  ad : Bool
  cd : Bool
  rc : Int
  n0 : Int
  n1 : Int
  n2 : Int
  n3 : Int
deriving DecidableEq
/-- The header's value. -/
def hv (h : Hd) : Value := .agg #[.int .u16 h.id, .bool h.re, .int .i64 h.op, .bool h.aa, .bool h.tc, .bool h.rd, .bool h.ra, .bool h.ad, .bool h.cd, .int .i64 h.rc, .int .i64 h.n0, .int .i64 h.n1, .int .i64 h.n2, .int .i64 h.n3]
/-- The numbers are such as the types bear. -/
structure Hd.fits (h : Hd) : Prop where
  id : h.id < 65536
  op : -9223372036854775808 ≤ h.op ∧ h.op ≤ 9223372036854775807
  rc : -9223372036854775808 ≤ h.rc ∧ h.rc ≤ 9223372036854775807
  n0 : -9223372036854775808 ≤ h.n0 ∧ h.n0 ≤ 9223372036854775807
  n1 : -9223372036854775808 ≤ h.n1 ∧ h.n1 ≤ 9223372036854775807
  n2 : -9223372036854775808 ≤ h.n2 ∧ h.n2 ≤ 9223372036854775807
  n3 : -9223372036854775808 ≤ h.n3 ∧ h.n3 ≤ 9223372036854775807
/-- The header may be. -/
structure Hd.may (h : Hd) : Prop where
  op : 0 ≤ h.op ∧ h.op ≤ 15
  rc : 0 ≤ h.rc ∧ h.rc ≤ 15
  n0 : 0 ≤ h.n0 ∧ h.n0 ≤ 65535
  n1 : 0 ≤ h.n1 ∧ h.n1 ≤ 65535
  n2 : 0 ≤ h.n2 ∧ h.n2 ≤ 65535
  n3 : 0 ≤ h.n3 ∧ h.n3 ≤ 65535
def upTo (n m : Int) : Bool := decide (0 ≤ n) && decide (n ≤ m)
def mayB (h : Hd) : Bool := upTo h.op 15 && upTo h.rc 15 && upTo h.n0 65535 && upTo h.n1 65535 && upTo h.n2 65535 && upTo h.n3 65535
/-- Check's error. -/
def chkH (h : Hd) : Nat := if mayB h then 0 else 2
theorem upTo_yes {n m : Int} : upTo n m = true ↔ 0 ≤ n ∧ n ≤ m := by simp [upTo]
theorem mayB_yes {h : Hd} : mayB h = true ↔ h.may := by
  simp only [mayB, Bool.and_eq_true, upTo_yes]
  exact ⟨fun ⟨⟨⟨⟨⟨a, b⟩, c⟩, d⟩, e⟩, f⟩ => ⟨a, b, c, d, e, f⟩, fun ⟨a, b, c, d, e, f⟩ => ⟨⟨⟨⟨⟨a, b⟩, c⟩, d⟩, e⟩, f⟩⟩
theorem chkH_ok {h : Hd} (m : h.may) : chkH h = 0 := by unfold chkH; rw [if_pos (mayB_yes.2 m)]
theorem chkH_bad {h : Hd} (m : mayB h = false) : chkH h = 2 := by unfold chkH; rw [m]; rfl
theorem chkH_zero {h : Hd} : chkH h = 0 ↔ h.may := by
  unfold chkH
  rcases hb : mayB h with _ | _
  · exact ⟨fun e => by simp at e, fun m => by rw [mayB_yes.2 m] at hb; cases hb⟩
  · exact ⟨fun _ => mayB_yes.1 hb, fun _ => rfl⟩

/-! ### The flags' word -/
def fl (b : Bool) (m : Nat) : Nat := if b then m else 0
/-- The word behind k flags. -/
def fW (h : Hd) : Nat → Nat
  | 0 => 2048 * h.op.toNat + h.rc.toNat
  | 1 => fl h.re 32768 + 2048 * h.op.toNat + h.rc.toNat
  | 2 => fl h.re 32768 + 2048 * h.op.toNat + fl h.aa 1024 + h.rc.toNat
  | 3 => fl h.re 32768 + 2048 * h.op.toNat + fl h.aa 1024 + fl h.tc 512 + h.rc.toNat
  | 4 => fl h.re 32768 + 2048 * h.op.toNat + fl h.aa 1024 + fl h.tc 512 + fl h.rd 256 + h.rc.toNat
  | 5 => fl h.re 32768 + 2048 * h.op.toNat + fl h.aa 1024 + fl h.tc 512 + fl h.rd 256 + fl h.ra 128 + h.rc.toNat
  | 6 => fl h.re 32768 + 2048 * h.op.toNat + fl h.aa 1024 + fl h.tc 512 + fl h.rd 256 + fl h.ra 128 + fl h.ad 32 + h.rc.toNat
  | _ => fl h.re 32768 + 2048 * h.op.toNat + fl h.aa 1024 + fl h.tc 512 + fl h.rd 256 + fl h.ra 128 + fl h.ad 32 + fl h.cd 16 + h.rc.toNat
abbrev fwd (h : Hd) : Nat := fW h 7
def mk : Nat → Nat
  | 0 => 32768
  | 1 => 1024
  | 2 => 512
  | 3 => 256
  | 4 => 128
  | 5 => 32
  | _ => 16
def bt_ (h : Hd) : Nat → Bool
  | 0 => h.re
  | 1 => h.aa
  | 2 => h.tc
  | 3 => h.rd
  | 4 => h.ra
  | 5 => h.ad
  | _ => h.cd
theorem or_bit (a b i : Nat) (hb : b < 2 ^ i) : (a * 2 ^ (i + 1) + b) ||| 2 ^ i = a * 2 ^ (i + 1) + (2 ^ i + b) := by
  have h2 : 2 ^ (i + 1) = 2 * 2 ^ i := by rw [Nat.pow_succ]; omega
  have h1 := Nat.shiftLeft_add_eq_or_of_lt (show b < 2 ^ (i + 1) by omega) a
  have h3 := Nat.shiftLeft_add_eq_or_of_lt (show 2 ^ i + b < 2 ^ (i + 1) by omega) a
  have h4 := Nat.shiftLeft_add_eq_or_of_lt hb 1
  rw [Nat.shiftLeft_eq] at h1 h3 h4
  rw [Nat.one_mul] at h4
  rw [h1, h3, h4, Nat.or_assoc, Nat.or_comm b]
theorem fl_le (b : Bool) (m : Nat) : fl b m ≤ m := by unfold fl; split <;> omega
theorem fW_lt {h : Hd} (m : h.may) (k : Nat) : fW h k < 65536 := by
  obtain ⟨⟨_, _⟩, ⟨_, _⟩, _⟩ := m
  have := fl_le h.re 32768; have := fl_le h.aa 1024; have := fl_le h.tc 512; have := fl_le h.rd 256; have := fl_le h.ra 128; have := fl_le h.ad 32; have := fl_le h.cd 16
  unfold fW
  split <;> omega
theorem or_at {x a b i : Nat} (hx : x = a * 2 ^ (i + 1) + b) (hb : b < 2 ^ i) : x ||| 2 ^ i = x + 2 ^ i := by rw [hx, or_bit a b i hb]; omega
theorem fW_or {h : Hd} (m : h.may) : ∀ k, k < 7 → bt_ h k = true → fW h k ||| mk k = fW h (k + 1) := by
  obtain ⟨⟨o1, o2⟩, ⟨r1, r2⟩, _⟩ := m
  obtain ⟨o, ho⟩ := Int.eq_ofNat_of_zero_le o1
  obtain ⟨r, hr⟩ := Int.eq_ofNat_of_zero_le r1
  have e1 : h.op.toNat = o := by omega
  have e2 : h.rc.toNat = r := by omega
  have l1 := fl_le h.re 32768; have l2 := fl_le h.aa 1024; have l3 := fl_le h.tc 512; have l4 := fl_le h.rd 256; have l5 := fl_le h.ra 128; have l6 := fl_le h.ad 32; have l7 := fl_le h.cd 16
  intro k hk hb
  obtain rfl | rfl | rfl | rfl | rfl | rfl | rfl : k = 0 ∨ k = 1 ∨ k = 2 ∨ k = 3 ∨ k = 4 ∨ k = 5 ∨ k = 6 := by omega
  · have hb' : fl h.re 32768 = 32768 := by unfold fl; rw [show h.re = true from hb]; rfl
    simp only [fW, mk, e1, e2, hb']
    rw [show 2048 * o + r ||| 32768 = 2048 * o + r ||| 2 ^ 15 from rfl, or_at (a := 0) (b := 2048 * o + r) (i := 15) (by omega) (by omega)]; omega
  · have hb' : fl h.aa 1024 = 1024 := by unfold fl; rw [show h.aa = true from hb]; rfl
    simp only [fW, mk, e1, e2, hb']
    rw [show (1024 : Nat) = 2 ^ 10 from rfl, or_at (a := (fl h.re 32768 + 2048 * o) / 2048) (b := r) (i := 10) (by unfold fl; split <;> omega) (by omega)]; omega
  · have hb' : fl h.tc 512 = 512 := by unfold fl; rw [show h.tc = true from hb]; rfl
    simp only [fW, mk, e1, e2, hb']
    rw [show (512 : Nat) = 2 ^ 9 from rfl, or_at (a := (fl h.re 32768 + 2048 * o + fl h.aa 1024) / 1024) (b := r) (i := 9) (by unfold fl; split <;> split <;> omega) (by omega)]; omega
  · have hb' : fl h.rd 256 = 256 := by unfold fl; rw [show h.rd = true from hb]; rfl
    simp only [fW, mk, e1, e2, hb']
    rw [show (256 : Nat) = 2 ^ 8 from rfl, or_at (a := (fl h.re 32768 + 2048 * o + fl h.aa 1024 + fl h.tc 512) / 512) (b := r) (i := 8) (by unfold fl; split <;> split <;> split <;> omega) (by omega)]; omega
  · have hb' : fl h.ra 128 = 128 := by unfold fl; rw [show h.ra = true from hb]; rfl
    simp only [fW, mk, e1, e2, hb']
    rw [show (128 : Nat) = 2 ^ 7 from rfl, or_at (a := (fl h.re 32768 + 2048 * o + fl h.aa 1024 + fl h.tc 512 + fl h.rd 256) / 256) (b := r) (i := 7) (by unfold fl; split <;> split <;> split <;> split <;> omega) (by omega)]; omega
  · have hb' : fl h.ad 32 = 32 := by unfold fl; rw [show h.ad = true from hb]; rfl
    simp only [fW, mk, e1, e2, hb']
    rw [show (32 : Nat) = 2 ^ 5 from rfl, or_at (a := (fl h.re 32768 + 2048 * o + fl h.aa 1024 + fl h.tc 512 + fl h.rd 256 + fl h.ra 128) / 64) (b := r) (i := 5) (by unfold fl; split <;> split <;> split <;> split <;> split <;> omega) (by omega)]; omega
  · have hb' : fl h.cd 16 = 16 := by unfold fl; rw [show h.cd = true from hb]; rfl
    simp only [fW, mk, e1, e2, hb']
    rw [show (16 : Nat) = 2 ^ 4 from rfl, or_at (a := (fl h.re 32768 + 2048 * o + fl h.aa 1024 + fl h.tc 512 + fl h.rd 256 + fl h.ra 128 + fl h.ad 32) / 32) (b := r) (i := 4) (by unfold fl; split <;> split <;> split <;> split <;> split <;> split <;> omega) (by omega)]; omega
theorem fW_no {h : Hd} : ∀ k, k < 7 → bt_ h k = false → fW h k = fW h (k + 1) := by
  intro k hk hb
  obtain rfl | rfl | rfl | rfl | rfl | rfl | rfl : k = 0 ∨ k = 1 ∨ k = 2 ∨ k = 3 ∨ k = 4 ∨ k = 5 ∨ k = 6 := by omega
  all_goals
    simp only [bt_] at hb
    simp only [fW, hb, fl]
    simp
/-- The header that words tell. -/
def bit (f m : Nat) : Bool := decide (f / m % 2 = 1)
def ofW (i f a b c d : Nat) : Hd := ⟨i, bit f 32768, ((f / 2048 % 16 : Nat) : Int), bit f 1024, bit f 512, bit f 256, bit f 128, bit f 32, bit f 16, ((f % 16 : Nat) : Int), a, b, c, d⟩
theorem fl_bit (f m : Nat) : fl (bit f m) m = m * (f / m % 2) := by
  unfold fl bit
  rcases Nat.mod_two_eq_zero_or_one (f / m) with h | h
  · rw [h]; simp
  · rw [h]; simp
/-- What was told is put again. -/
theorem fwd_ofW (i f a b c d : Nat) (hf : f < 65536) (h6 : f / 64 % 2 = 0) : fwd (ofW i f a b c d) = f := by
  simp only [fwd, fW, ofW, fl_bit, Int.toNat_natCast]
  have h1 : f = 16 * (f / 16) + f % 16 := by omega
  have h2 : f / 16 = 2 * (f / 32) + f / 16 % 2 := by omega
  have h3 : f / 32 = 2 * (f / 64) + f / 32 % 2 := by omega
  have h4 : f / 64 = 2 * (f / 128) := by omega
  have h5 : f / 128 = 2 * (f / 256) + f / 128 % 2 := by omega
  have h7 : f / 256 = 2 * (f / 512) + f / 256 % 2 := by omega
  have h8 : f / 512 = 2 * (f / 1024) + f / 512 % 2 := by omega
  have h9 : f / 1024 = 2 * (f / 2048) + f / 1024 % 2 := by omega
  have h10 : f / 2048 = 16 * (f / 32768) + f / 2048 % 16 := by omega
  have h11 : f / 32768 % 2 = f / 32768 := by omega
  generalize f / 16 % 2 = a1 at *
  generalize f / 32 % 2 = a2 at *
  generalize f / 128 % 2 = a3 at *
  generalize f / 256 % 2 = a4 at *
  generalize f / 512 % 2 = a5 at *
  generalize f / 1024 % 2 = a6 at *
  generalize f / 2048 % 16 = a7 at *
  generalize f / 32768 % 2 = a8 at *
  generalize f / 32768 = c8 at *
  generalize f / 2048 = c7 at *
  generalize f / 1024 = c6 at *
  generalize f / 512 = c5 at *
  generalize f / 256 = c4 at *
  generalize f / 128 = c3 at *
  generalize f / 64 = c2 at *
  generalize f / 32 = c1 at *
  generalize f / 16 = c0 at *
  generalize f % 16 = r at *
  omega
/-- The words of a header, in their order. -/
def wds (h : Hd) : List Nat := [h.id, fwd h, h.n0.toNat, h.n1.toNat, h.n2.toNat, h.n3.toNat]
/-- Its octets. -/
def ocH (h : Hd) : List UInt8 := octs h.id 2 ++ octs (fwd h) 2 ++ octs h.n0.toNat 2 ++ octs h.n1.toNat 2 ++ octs h.n2.toNat 2 ++ octs h.n3.toNat 2
theorem ocH_length (h : Hd) : (ocH h).length = 12 := by simp [ocH, octs_length]
def noH : Hd := ⟨0, false, 0, false, false, false, false, false, false, 0, 0, 0, 0, 0⟩
/-- The word at place k of octets. -/
def wdAt (l : List UInt8) (k : Nat) : Nat := num ((l.drop (2 * k)).take 2)
/-- What Read answers. -/
def rdE (l : List UInt8) : Nat := if l.length < 12 then 8 else if wdAt l 1 / 64 % 2 = 1 then 4 else 0
def rdV (l : List UInt8) : Hd := if rdE l = 0 then ofW (wdAt l 0) (wdAt l 1) (wdAt l 2) (wdAt l 3) (wdAt l 4) (wdAt l 5) else noH
/-- What Put answers. -/
def ptV (h : Hd) : List UInt8 := if mayB h then ocH h else []
theorem wdAt_lt (l : List UInt8) (k : Nat) : wdAt l k < 65536 := by
  have h := num_lt ((l.drop (2 * k)).take 2)
  have h2 : ((l.drop (2 * k)).take 2).length ≤ 2 := List.length_take_le _ _
  have := Nat.pow_le_pow_right (n := 256) (by omega) h2
  unfold wdAt
  omega
end Go.Proofs.YtdpgcgaalamgkaaGreat
namespace Go.Proofs.YtdpgcgaalamgkaaGreat
open Go.RowKit
set_option linter.unusedVariables false

theorem fromNought_any (n m : Int) (w : World) :
    Calls Tryz.prog 127 #[.int .i64 n, .int .i64 m] w fun e w' => e = .returned (.bool (upTo n m)) ∧ w = w' := by
  by_cases h : 0 ≤ n
  · have hd : decide (0 ≤ n) = true := decide_eq_true h
    have HB := Lib.hid (show upTo n m = decide (n ≤ m) by unfold upTo; rw [hd]; rfl)
    clear h
    go_enter Tryz.func127, Tryz.ntmps127
    go_wp2
    go_ret
    exact ⟨by rw [HB.out]; rfl, rfl⟩
  · have hd : decide (0 ≤ n) = false := decide_eq_false h
    have HB := Lib.hid (show upTo n m = false by unfold upTo; rw [hd]; rfl)
    clear h
    go_enter Tryz.func127, Tryz.ntmps127
    go_wp2
    go_ret
    exact ⟨by rw [HB.out]; rfl, rfl⟩

def nAt (h : Hd) : Nat → Int
  | 0 => h.n0
  | 1 => h.n1
  | 2 => h.n2
  | _ => h.n3
theorem idx4_0 (a b c d : Int) (w : World) : (Instr.index 48 (.agg #[.int .i64 a, .int .i64 b, .int .i64 c, .int .i64 d]) (.int .i64 0)).run Tryz.prog w = .ok (.int .i64 a) w := by kernel_rfl
theorem idx4_1 (a b c d : Int) (w : World) : (Instr.index 48 (.agg #[.int .i64 a, .int .i64 b, .int .i64 c, .int .i64 d]) (.int .i64 1)).run Tryz.prog w = .ok (.int .i64 b) w := by kernel_rfl
theorem idx4_2 (a b c d : Int) (w : World) : (Instr.index 48 (.agg #[.int .i64 a, .int .i64 b, .int .i64 c, .int .i64 d]) (.int .i64 2)).run Tryz.prog w = .ok (.int .i64 c) w := by kernel_rfl
theorem idx4_3 (a b c d : Int) (w : World) : (Instr.index 48 (.agg #[.int .i64 a, .int .i64 b, .int .i64 c, .int .i64 d]) (.int .i64 3)).run Tryz.prog w = .ok (.int .i64 d) w := by kernel_rfl
theorem mayB_all {h : Hd} (h1 : upTo h.op 15 = true) (h2 : upTo h.rc 15 = true) (hn : ∀ j, j < 4 → upTo (nAt h j) 65535 = true) : mayB h = true := by
  have a0 := hn 0 (by omega); have a1 := hn 1 (by omega); have a2 := hn 2 (by omega); have a3 := hn 3 (by omega)
  simp only [nAt] at a0 a1 a2 a3
  unfold mayB
  rw [h1, h2, a0, a1, a2, a3]
  rfl
theorem mayB_not {h : Hd} {k : Nat} (hk : k < 4) (hn : upTo (nAt h k) 65535 = false) : mayB h = false := by
  unfold mayB
  obtain rfl | rfl | rfl | rfl : k = 0 ∨ k = 1 ∨ k = 2 ∨ k = 3 := by omega
  all_goals
    simp only [nAt] at hn
    rw [hn]
    simp
set_option maxHeartbeats 1000000 in
theorem hdCheck_any (h : Hd) (w : World) :
    Calls Tryz.prog 70 #[hv h] w fun e w' => e = .returned (.int .i64 (chkH h)) ∧ Below w.heap.size w w' := by
  unfold hv
  have HI := Lib.hid fromNought_any
  rcases h1 : upTo h.op 15 with _ | _
  · have HC := Lib.hid (chkH_bad (h := h) (by unfold mayB; rw [h1]; simp))
    go_enter Tryz.func70, Tryz.ntmps70
    go_wp2_with (go_at_call 127; refine (HI.out _ _ _).mono ?_; rintro e w' ⟨rfl, rfl⟩)
    go_ret
    exact ⟨by rw [HC.out]; rfl, (Below.refl _ _).alloc (Nat.le_refl _) _⟩
  · rcases h2 : upTo h.rc 15 with _ | _
    · have HC := Lib.hid (chkH_bad (h := h) (by unfold mayB; rw [h2]; simp))
      go_enter Tryz.func70, Tryz.ntmps70
      go_wp2_with (go_at_call 127; refine (HI.out _ _ _).mono ?_; rintro e w' ⟨rfl, rfl⟩)
      go_ret
      exact ⟨by rw [HC.out]; rfl, (Below.refl _ _).alloc (Nat.le_refl _) _⟩
    · have I0 := idx4_0 h.n0 h.n1 h.n2 h.n3
      have I1 := idx4_1 h.n0 h.n1 h.n2 h.n3
      have I2 := idx4_2 h.n0 h.n1 h.n2 h.n3
      have I3 := idx4_3 h.n0 h.n1 h.n2 h.n3
      go_enter Tryz.func70, Tryz.ntmps70
      go_wp2_with (go_at_call 127; refine (HI.out _ _ _).mono ?_; rintro e w' ⟨rfl, rfl⟩)
      go_loop [17] (fun i => ∃ k : Nat, i = .int .i64 k ∧ k ≤ 4 ∧ ∀ j, j < k → upTo (nAt h j) 65535 = true) (fun i => 4 - (intOf i).toNat)
      case atStart => exact ⟨0, rfl, by omega, fun j hj => by omega⟩
      case round =>
        obtain ⟨k, rfl, hk, hn⟩ := hrel
        have HN := Lib.hid hn
        clear hn
        rcases Nat.lt_or_ge k 4 with hlt | hge
        · have HX := Lib.hid (fun hx => mayB_not (h := h) hlt hx)
          rcases hu : upTo (nAt h k) 65535 with _ | _
          · have HC := Lib.hid (chkH_bad (HX.out hu))
            clear HN HX
            obtain rfl | rfl | rfl | rfl : k = 0 ∨ k = 1 ∨ k = 2 ∨ k = 3 := by omega
            all_goals
              simp only [nAt] at hu
              go_wp2_with (go_at_call 127; refine (HI.out _ _ _).mono ?_; rintro e w' ⟨rfl, rfl⟩)
              go_ret
              exact ⟨by rw [HC.out]; rfl, (Below.refl _ _).alloc (Nat.le_refl _) _⟩
          · have HN' : Hid (∀ j, j < k + 1 → upTo (nAt h j) 65535 = true) := Lib.hid (fun j hj => by
              rcases Nat.lt_or_ge j k with hjk | hjk
              · exact HN.out j hjk
              · obtain rfl : j = k := by omega
                exact hu)
            clear HN HX
            obtain rfl | rfl | rfl | rfl : k = 0 ∨ k = 1 ∨ k = 2 ∨ k = 3 := by omega
            all_goals
              simp only [nAt] at hu
              go_wp2_with (go_at_call 127; refine (HI.out _ _ _).mono ?_; rintro e w' ⟨rfl, rfl⟩)
              go_round
              case rel => first | exact ⟨0 + 1, rfl, by omega, HN'.out⟩ | exact ⟨1 + 1, rfl, by omega, HN'.out⟩ | exact ⟨2 + 1, rfl, by omega, HN'.out⟩ | exact ⟨3 + 1, rfl, by omega, HN'.out⟩
              case measure => simp [intOf]
        · obtain rfl : k = 4 := by omega
          have HC := Lib.hid (chkH_ok (mayB_yes.1 (mayB_all h1 h2 HN.out)))
          clear HN
          go_wp2
          go_ret
          exact ⟨by rw [HC.out]; rfl, (Below.refl _ _).alloc (Nat.le_refl _) _⟩

/-! ### The table of flags -/
theorem hd_below_dr {n : Nat} {w w' : World} (h : Below n w w') : Below n w w'.drew := ⟨h.os, h.tape, h.output, h.size, h.block⟩
/-- The table's cells, over the header at block g. -/
def flT (g : Nat) : Array Value := #[.int .u32 32768, .pointer (some ⟨g, 1, none⟩), .int .u32 1024, .pointer (some ⟨g, 3, none⟩), .int .u32 512, .pointer (some ⟨g, 4, none⟩), .int .u32 256, .pointer (some ⟨g, 5, none⟩), .int .u32 128, .pointer (some ⟨g, 6, none⟩), .int .u32 32, .pointer (some ⟨g, 7, none⟩), .int .u32 16, .pointer (some ⟨g, 8, none⟩)]
set_option maxHeartbeats 1000000 in
theorem flagsOf_any (g : Nat) (w : World) :
    Calls Tryz.prog 158 #[.pointer (some ⟨g, 0, none⟩)] w fun e w' => e = .returned (.slice (some ⟨w.heap.size, 0, none⟩) 7 7) ∧ w'.heap[w.heap.size]? = some (.cells (flT g) 211 (0, 0)) ∧ Below w.heap.size w w' := by
  go_enter Tryz.func158, Tryz.ntmps158
  go_wp2
  go_region
  go_wp2
  go_ret
  exact ⟨rfl, heap_alloc_new w _, hd_below_dr ((Below.refl w.heap.size w).alloc (Nat.le_refl _) _)⟩
end Go.Proofs.YtdpgcgaalamgkaaGreat
namespace Go.Proofs.YtdpgcgaalamgkaaGreat
open Go.ChangeShapes Go.WideShapes Go.ChangeAt Go.RowKit
set_option linter.unusedVariables false
set_option maxRecDepth 100000
section
variable {H : Type} {enc : TypeId × Value → H} {W : World} {base b0 : Nat} {spare : Nat → Bool} {held : Bool} {v : Value} {d : DataW H} {p : List MemPlace}
theorem list11 {α : Type} {l : List α} (h : l.length = 11) : ∃ c0 c1 c2 c3 c4 c5 c6 c7 c8 c9 c10, l = [c0, c1, c2, c3, c4, c5, c6, c7, c8, c9, c10] := by
  match l, h with
  | [c0, c1, c2, c3, c4, c5, c6, c7, c8, c9, c10], _ => exact ⟨c0, c1, c2, c3, c4, c5, c6, c7, c8, c9, c10, rfl⟩
theorem list4 {α : Type} {l : List α} (h : l.length = 4) : ∃ c0 c1 c2 c3, l = [c0, c1, c2, c3] := by
  match l, h with
  | [c0, c1, c2, c3], _ => exact ⟨c0, c1, c2, c3, rfl⟩
end
end Go.Proofs.YtdpgcgaalamgkaaGreat
