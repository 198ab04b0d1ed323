/-
  A message's header as numbers and octets: plain mathematics. No condition beyond those that each theorem names.
-/
import Derived.Test.YtadeflehdfmilaaGreatZk0
namespace Go.Proofs.YtadeflehdfmilaaGreat
open Go.RowKit
set_option linter.unusedVariables false

/-- A header: its ID, flags, Opcode, Rcode, counts. -/
structure Hd where
  id : Nat
  re : Bool
  op : Int
  aa : Bool
  tc : Bool
  rd : Bool
  ra : Bool
  ad : Bool
  cd : Bool
  rc : Int
  n0 : Int
  n1 : Int
  n2 : Int
  n3 : Int
deriving DecidableEq
/-- The header's value. -/
def hv (h : Hd) : Value := .agg #[.int .u16 h.id, .bool h.re, .int .i64 h.op, .bool h.aa, .bool h.tc, .bool h.rd, .bool h.ra, .bool h.ad, .bool h.cd, .int .i64 h.rc, .int .i64 h.n0, .int .i64 h.n1, .int .i64 h.n2, .int .i64 h.n3]
/-- The numbers are such as the types bear. -/
structure Hd.fits (h : Hd) : Prop where
  id : h.id < 65536
  op : -9223372036854775808 ≤ h.op ∧ h.op ≤ 9223372036854775807
  rc : -9223372036854775808 ≤ h.rc ∧ h.rc ≤ 9223372036854775807
  n0 : -9223372036854775808 ≤ h.n0 ∧ h.n0 ≤ 9223372036854775807
  n1 : -9223372036854775808 ≤ h.n1 ∧ h.n1 ≤ 9223372036854775807
  n2 : -9223372036854775808 ≤ h.n2 ∧ h.n2 ≤ 9223372036854775807
  n3 : -9223372036854775808 ≤ h.n3 ∧ h.n3 ≤ 9223372036854775807
/-- The header may be. -/
structure Hd.may (h : Hd) : Prop where
  op : 0 ≤ h.op ∧ h.op ≤ 15
  rc : 0 ≤ h.rc ∧ h.rc ≤ 15
  n0 : 0 ≤ h.n0 ∧ h.n0 ≤ 65535
  n1 : 0 ≤ h.n1 ∧ h.n1 ≤ 65535
  n2 : 0 ≤ h.n2 ∧ h.n2 ≤ 65535
  n3 : 0 ≤ h.n3 ∧ h.n3 ≤ 65535
def upTo (n m : Int) : Bool := decide (0 ≤ n) && decide (n ≤ m)
def mayB (h : Hd) : Bool := upTo h.op 15 && upTo h.rc 15 && upTo h.n0 65535 && upTo h.n1 65535 && upTo h.n2 65535 && upTo h.n3 65535
/-- Check's error. -/
def chkH (h : Hd) : Nat := if mayB h then 0 else 2
theorem upTo_yes {n m : Int} : upTo n m = true ↔ 0 ≤ n ∧ n ≤ m := by simp [upTo]
theorem mayB_yes {h : Hd} : mayB h = true ↔ h.may := by
  simp only [mayB, Bool.and_eq_true, upTo_yes]
  exact ⟨fun ⟨⟨⟨⟨⟨a, b⟩, c⟩, d⟩, e⟩, f⟩ => ⟨a, b, c, d, e, f⟩, fun ⟨a, b, c, d, e, f⟩ => ⟨⟨⟨⟨⟨a, b⟩, c⟩, d⟩, e⟩, f⟩⟩
theorem chkH_ok {h : Hd} (m : h.may) : chkH h = 0 := by unfold chkH; rw [if_pos (mayB_yes.2 m)]
theorem chkH_bad {h : Hd} (m : mayB h = false) : chkH h = 2 := by unfold chkH; rw [m]; rfl
theorem chkH_zero {h : Hd} : chkH h = 0 ↔ h.may := by
  unfold chkH
  rcases hb : mayB h with _ | _
  · exact ⟨fun e => by simp at e, fun m => by rw [mayB_yes.2 m] at hb; cases hb⟩
  · exact ⟨fun _ => mayB_yes.1 hb, fun _ => rfl⟩

/-! ### The flags' word -/
def fl (b : Bool) (m : Nat) : Nat := if b then m else 0
/-- The word behind k flags. -/
def fW (h : Hd) : Nat → Nat
  | 0 => 2048 * h.op.toNat + h.rc.toNat
  | 1 => fl h.re 32768 + 2048 * h.op.toNat + h.rc.toNat
  | 2 => fl h.re 32768 + 2048 * h.op.toNat + fl h.aa 1024 + h.rc.toNat
  | 3 => fl h.re 32768 + 2048 * h.op.toNat + fl h.aa 1024 + fl h.tc 512 + h.rc.toNat
  | 4 => fl h.re 32768 + 2048 * h.op.toNat + fl h.aa 1024 + fl h.tc 512 + fl h.rd 256 + h.rc.toNat
  | 5 => fl h.re 32768 + 2048 * h.op.toNat + fl h.aa 1024 + fl h.tc 512 + fl h.rd 256 + fl h.ra 128 + h.rc.toNat
  | 6 => fl h.re 32768 + 2048 * h.op.toNat + fl h.aa 1024 + fl h.tc 512 + fl h.rd 256 + fl h.ra 128 + fl h.ad 32 + h.rc.toNat
  | _ => fl h.re 32768 + 2048 * h.op.toNat + fl h.aa 1024 + fl h.tc 512 + fl h.rd 256 + fl h.ra 128 + fl h.ad 32 + fl h.cd 16 + h.rc.toNat
abbrev fwd (h : Hd) : Nat := fW h 7
def mk : Nat → Nat
  | 0 => 32768
  | 1 => 1024
  | 2 => 512
  | 3 => 256
  | 4 => 128
  | 5 => 32
  | _ => 16
def bt_ (h : Hd) : Nat → Bool
  | 0 => h.re
  | 1 => h.aa
  | 2 => h.tc
  | 3 => h.rd
  | 4 => h.ra
  | 5 => h.ad
  | _ => h.cd
theorem or_bit (a b i : Nat) (hb : b < 2 ^ i) : (a * 2 ^ (i + 1) + b) ||| 2 ^ i = a * 2 ^ (i + 1) + (2 ^ i + b) := by
  have h2 : 2 ^ (i + 1) = 2 * 2 ^ i := by rw [Nat.pow_succ]; omega
  have h1 := Nat.shiftLeft_add_eq_or_of_lt (show b < 2 ^ (i + 1) by omega) a
  have h3 := Nat.shiftLeft_add_eq_or_of_lt (show 2 ^ i + b < 2 ^ (i + 1) by omega) a
  have h4 := Nat.shiftLeft_add_eq_or_of_lt hb 1
  rw [Nat.shiftLeft_eq] at h1 h3 h4
  rw [Nat.one_mul] at h4
  rw [h1, h3, h4, Nat.or_assoc, Nat.or_comm b]
theorem fl_le (b : Bool) (m : Nat) : fl b m ≤ m := by unfold fl; split <;> omega
theorem fW_lt {h : Hd} (m : h.may) (k : Nat) : fW h k < 65536 := by
  obtain ⟨⟨_, _⟩, ⟨_, _⟩, _⟩ := m
  have := fl_le h.re 32768; have := fl_le h.aa 1024; have := fl_le h.tc 512; have := fl_le h.rd 256; have := fl_le h.ra 128; have := fl_le h.ad 32; have := fl_le h.cd 16
  unfold fW
  split <;> omega
theorem or_at {x a b i : Nat} (hx : x = a * 2 ^ (i + 1) + b) (hb : b < 2 ^ i) : x ||| 2 ^ i = x + 2 ^ i := by rw [hx, or_bit a b i hb]; omega
theorem fW_or {h : Hd} (m : h.may) : ∀ k, k < 7 → bt_ h k = true → fW h k ||| mk k = fW h (k + 1) := by
  obtain ⟨⟨o1, o2⟩, ⟨r1, r2⟩, _⟩ := m
  obtain ⟨o, ho⟩ := Int.eq_ofNat_of_zero_le o1
  obtain ⟨r, hr⟩ := Int.eq_ofNat_of_zero_le r1
  have e1 : h.op.toNat = o := by omega
  have e2 : h.rc.toNat = r := by omega
  have l1 := fl_le h.re 32768; have l2 := fl_le h.aa 1024; have l3 := fl_le h.tc 512; have l4 := fl_le h.rd 256; have l5 := fl_le h.ra 128; have l6 := fl_le h.ad 32; have l7 := fl_le h.cd 16
  intro k hk hb
  obtain rfl | rfl | rfl | rfl | rfl | rfl | rfl : k = 0 ∨ k = 1 ∨ k = 2 ∨ k = 3 ∨ k = 4 ∨ k = 5 ∨ k = 6 := by omega
  · have hb' : fl h.re 32768 = 32768 := by unfold fl; rw [show h.re = true from hb]; rfl
    simp only [fW, mk, e1, e2, hb']
    rw [show 2048 * o + r ||| 32768 = 2048 * o + r ||| 2 ^ 15 from rfl, or_at (a := 0) (b := 2048 * o + r) (i := 15) (by omega) (by omega)]; omega
  · have hb' : fl h.aa 1024 = 1024 := by unfold fl; rw [show h.aa = true from hb]; rfl
    simp only [fW, mk, e1, e2, hb']
    rw [show (1024 : Nat) = 2 ^ 10 from rfl, or_at (a := (fl h.re 32768 + 2048 * o) / 2048) (b := r) (i := 10) (by unfold fl; split <;> omega) (by omega)]; omega
  · have hb' : fl h.tc 512 = 512 := by unfold fl; rw [show h.tc = true from hb]; rfl
    simp only [fW, mk, e1, e2, hb']
    rw [show (512 : Nat) = 2 ^ 9 from rfl, or_at (a := (fl h.re 32768 + 2048 * o + fl h.aa 1024) / 1024) (b := r) (i := 9) (by unfold fl; split <;> split <;> omega) (by omega)]; omega
  · have hb' : fl h.rd 256 = 256 := by unfold fl; rw [show h.rd = true from hb]; rfl
    simp only [fW, mk, e1, e2, hb']
    rw [show (256 : Nat) = 2 ^ 8 from rfl, or_at (a := (fl h.re 32768 + 2048 * o + fl h.aa 1024 + fl h.tc 512) / 512) (b := r) (i := 8) (by unfold fl; split <;> split <;> split <;> omega) (by omega)]; omega
  · have hb' : fl h.ra 128 = 128 := by unfold fl; rw [show h.ra = true from hb]; rfl
    simp only [fW, mk, e1, e2, hb']
    rw [show (128 : Nat) = 2 ^ 7 from rfl, or_at (a := (fl h.re 32768 + 2048 * o + fl h.aa 1024 + fl h.tc 512 + fl h.rd 256) / 256) (b := r) (i := 7) (by unfold fl; split <;> split <;> split <;> split <;> omega) (by omega)]; omega
  · have hb' : fl h.ad 32 = 32 := by unfold fl; rw [show h.ad = true from hb]; rfl
    simp only [fW, mk, e1, e2, hb']
    rw [show (32 : Nat) = 2 ^ 5 from rfl, or_at (a := (fl h.re 32768 + 2048 * o + fl h.aa 1024 + fl h.tc 512 + fl h.rd 256 + fl h.ra 128) / 64) (b := r) (i := 5) (by unfold fl; split <;> split <;> split <;> split <;> split <;> omega) (by omega)]; omega
  · have hb' : fl h.cd 16 = 16 := by unfold fl; rw [show h.cd = true from hb]; rfl
    simp only [fW, mk, e1, e2, hb']
    rw [show (16 : Nat) = 2 ^ 4 from rfl, or_at (a := (fl h.re 32768 + 2048 * o + fl h.aa 1024 + fl h.tc 512 + fl h.rd 256 + fl h.ra 128 + fl h.ad 32) / 32) (b := r) (i := 4) (by unfold fl; split <;> split <;> split <;> split <;> split <;> split <;> omega) (by omega)]; omega
theorem fW_no {h : Hd} : ∀ k, k < 7 → bt_ h k = false → fW h k = fW h (k + 1) := by
  intro k hk hb
  obtain rfl | rfl | rfl | rfl | rfl | rfl | rfl : k = 0 ∨ k = 1 ∨ k = 2 ∨ k = 3 ∨ k = 4 ∨ k = 5 ∨ k = 6 := by omega
  all_goals
    simp only [bt_] at hb
    simp only [fW, hb, fl]
    simp
/-- The header that words tell. -/
def bit (f m : Nat) : Bool := decide (f / m % 2 = 1)
def ofW (i f a b c d : Nat) : Hd := ⟨i, bit f 32768, ((f / 2048 % 16 : Nat) : Int), bit f 1024, bit f 512, bit f 256, bit f 128, bit f 32, bit f 16, ((f % 16 : Nat) : Int), a, b, c, d⟩
theorem fl_bit (f m : Nat) : fl (bit f m) m = m * (f / m % 2) := by
  unfold fl bit
  rcases Nat.mod_two_eq_zero_or_one (f / m) with h | h
  · rw [h]; simp
  · rw [h]; simp
/-- What was told is put again. -/
theorem fwd_ofW (i f a b c d : Nat) (hf : f < 65536) (h6 : f / 64 % 2 = 0) : fwd (ofW i f a b c d) = f := by
  simp only [fwd, fW, ofW, fl_bit, Int.toNat_natCast]
  have h1 : f = 16 * (f / 16) + f % 16 := by omega
  have h2 : f / 16 = 2 * (f / 32) + f / 16 % 2 := by omega
  have h3 : f / 32 = 2 * (f / 64) + f / 32 % 2 := by omega
  have h4 : f / 64 = 2 * (f / 128) := by omega
  have h5 : f / 128 = 2 * (f / 256) + f / 128 % 2 := by omega
  have h7 : f / 256 = 2 * (f / 512) + f / 256 % 2 := by omega
  have h8 : f / 512 = 2 * (f / 1024) + f / 512 % 2 := by omega
  have h9 : f / 1024 = 2 * (f / 2048) + f / 1024 % 2 := by omega
  have h10 : f / 2048 = 16 * (f / 32768) + f / 2048 % 16 := by omega
  have h11 : f / 32768 % 2 = f / 32768 := by omega
  generalize f / 16 % 2 = a1 at *
  generalize f / 32 % 2 = a2 at *
  generalize f / 128 % 2 = a3 at *
  generalize f / 256 % 2 = a4 at *
  generalize f / 512 % 2 = a5 at *
  generalize f / 1024 % 2 = a6 at *
  generalize f / 2048 % 16 = a7 at *
  generalize f / 32768 % 2 = a8 at *
  generalize f / 32768 = c8 at *
  generalize f / 2048 = c7 at *
  generalize f / 1024 = c6 at *
  generalize f / 512 = c5 at *
  generalize f / 256 = c4 at *
  generalize f / 128 = c3 at *
  generalize f / 64 = c2 at *
  generalize f / 32 = c1 at *
  generalize f / 16 = c0 at *
  generalize f % 16 = r at *
  omega
theorem fl_one (v : Bool) (m : Nat) : ∃ t, fl v m = m * t ∧ t ≤ 1 := by
  unfold fl
  cases v
  · exact ⟨0, rfl, by omega⟩
  · exact ⟨1, by simp, by omega⟩
theorem bit_at {x a b m n t : Nat} {v : Bool} (hn : n = 2 * m) (ht : fl v m = m * t) (hx : x = a * n + m * t + b) (hb : b < m) : bit x m = v := by
  subst hn
  have hm : 0 < m := by omega
  unfold bit
  have h1 : x = m * (2 * a + t) + b := by rw [hx, Nat.mul_add, show m * (2 * a) = a * (2 * m) by rw [Nat.mul_comm 2 a, Nat.mul_comm m, Nat.mul_assoc]]
  have e : x / m = 2 * a + t := by rw [h1, Nat.mul_add_div hm, Nat.div_eq_of_lt hb, Nat.add_zero]
  rw [e]
  unfold fl at ht
  cases v
  · have : t = 0 := (Nat.mul_eq_zero.1 ht.symm).resolve_left (by omega)
    subst this
    simp
  · have : t = 1 := Nat.eq_of_mul_eq_mul_left hm (by simpa using ht.symm)
    subst this
    simp
set_option maxRecDepth 20000 in
theorem word_parts {F o r t1 t2 t3 t4 t5 t6 t7 : Nat} (ho : o ≤ 15) (hr : r ≤ 15) (k1 : t1 ≤ 1) (k2 : t2 ≤ 1) (k3 : t3 ≤ 1) (k4 : t4 ≤ 1) (k5 : t5 ≤ 1) (k6 : t6 ≤ 1) (k7 : t7 ≤ 1) (hF : F = 32768 * t1 + 2048 * o + 1024 * t2 + 512 * t3 + 256 * t4 + 128 * t5 + 32 * t6 + 16 * t7 + r) :
    (F = 32768 * t1 + (2048 * o + 1024 * t2 + 512 * t3 + 256 * t4 + 128 * t5 + 32 * t6 + 16 * t7 + r)) ∧ (F = (16 * t1 + o) * 2048 + 1024 * t2 + (512 * t3 + 256 * t4 + 128 * t5 + 32 * t6 + 16 * t7 + r)) ∧ (F = (32 * t1 + 2 * o + t2) * 1024 + 512 * t3 + (256 * t4 + 128 * t5 + 32 * t6 + 16 * t7 + r)) ∧ (F = (64 * t1 + 4 * o + 2 * t2 + t3) * 512 + 256 * t4 + (128 * t5 + 32 * t6 + 16 * t7 + r)) ∧ (F = (128 * t1 + 8 * o + 4 * t2 + 2 * t3 + t4) * 256 + 128 * t5 + (32 * t6 + 16 * t7 + r)) ∧ (F = (512 * t1 + 32 * o + 16 * t2 + 8 * t3 + 4 * t4 + 2 * t5) * 64 + 32 * t6 + (16 * t7 + r)) ∧ (F = (1024 * t1 + 64 * o + 32 * t2 + 16 * t3 + 8 * t4 + 4 * t5 + t6) * 32 + 16 * t7 + r) ∧ F / 2048 % 16 = o ∧ F % 16 = r ∧
    2048 * o + 1024 * t2 + 512 * t3 + 256 * t4 + 128 * t5 + 32 * t6 + 16 * t7 + r < 32768 ∧ 512 * t3 + 256 * t4 + 128 * t5 + 32 * t6 + 16 * t7 + r < 1024 ∧ 256 * t4 + 128 * t5 + 32 * t6 + 16 * t7 + r < 512 ∧ 128 * t5 + 32 * t6 + 16 * t7 + r < 256 ∧ 32 * t6 + 16 * t7 + r < 128 ∧ 16 * t7 + r < 32 ∧ r < 16 := by
  have hA : F = 2048 * (16 * t1 + o) + (1024 * t2 + 512 * t3 + 256 * t4 + 128 * t5 + 32 * t6 + 16 * t7 + r) := by clear ho hr k1 k2 k3 k4 k5 k6 k7; omega
  have hl : 1024 * t2 + 512 * t3 + 256 * t4 + 128 * t5 + 32 * t6 + 16 * t7 + r < 2048 := by clear hF hA; omega
  have hB : F = 16 * (2048 * t1 + 128 * o + 64 * t2 + 32 * t3 + 16 * t4 + 8 * t5 + 2 * t6 + t7) + r := by clear hA hl; omega
  refine ⟨?_, ?_, ?_, ?_, ?_, ?_, ?_, ?_, ?_, ?_, ?_, ?_, ?_, ?_, ?_, ?_⟩
  case refine_8 =>
    generalize 1024 * t2 + 512 * t3 + 256 * t4 + 128 * t5 + 32 * t6 + 16 * t7 + r = q at hA hl
    clear hF hB
    omega
  case refine_9 =>
    clear hF hA hl
    omega
  all_goals
    clear hA hl hB
    omega
/-- What was put is told. -/
theorem ofW_fwd {h : Hd} (m : h.may) : ofW h.id (fwd h) h.n0.toNat h.n1.toNat h.n2.toNat h.n3.toNat = h := by
  obtain ⟨i, re, op, aa, tc, rd, ra, ad, cd, rc, n0, n1, n2, n3⟩ := h
  obtain ⟨⟨o1, o2⟩, ⟨r1, r2⟩, ⟨_, _⟩, ⟨_, _⟩, ⟨_, _⟩, ⟨_, _⟩⟩ := m
  dsimp only at *
  obtain ⟨o, rfl⟩ := Int.eq_ofNat_of_zero_le o1
  obtain ⟨r, rfl⟩ := Int.eq_ofNat_of_zero_le r1
  obtain ⟨F, hF⟩ : ∃ F, F = fwd ⟨i, re, (o : Int), aa, tc, rd, ra, ad, cd, (r : Int), n0, n1, n2, n3⟩ := ⟨_, rfl⟩
  rw [← hF]
  simp only [fwd, fW, Int.toNat_natCast] at hF
  obtain ⟨t1, e1, k1⟩ := fl_one re 32768
  obtain ⟨t2, e2, k2⟩ := fl_one aa 1024
  obtain ⟨t3, e3, k3⟩ := fl_one tc 512
  obtain ⟨t4, e4, k4⟩ := fl_one rd 256
  obtain ⟨t5, e5, k5⟩ := fl_one ra 128
  obtain ⟨t6, e6, k6⟩ := fl_one ad 32
  obtain ⟨t7, e7, k7⟩ := fl_one cd 16
  rw [e1, e2, e3, e4, e5, e6, e7] at hF
  obtain ⟨g1, g2, g3, g4, g5, g6, g7, b8, b9, p1, p2, p3, p4, p5, p6, p7⟩ := word_parts (Int.ofNat_le.1 o2) (Int.ofNat_le.1 r2) k1 k2 k3 k4 k5 k6 k7 hF
  have b1 : bit F 32768 = re := bit_at (n := 65536) (a := 0) (by decide) e1 (by rw [Nat.zero_mul, Nat.zero_add]; exact g1) p1
  have b2 : bit F 1024 = aa := bit_at (n := 2048) (by decide) e2 g2 p2
  have b3 : bit F 512 = tc := bit_at (n := 1024) (by decide) e3 g3 p3
  have b4 : bit F 256 = rd := bit_at (n := 512) (by decide) e4 g4 p4
  have b5 : bit F 128 = ra := bit_at (n := 256) (by decide) e5 g5 p5
  have b6 : bit F 32 = ad := bit_at (n := 64) (by decide) e6 g6 p6
  have b7 : bit F 16 = cd := bit_at (n := 32) (by decide) e7 g7 p7
  unfold ofW
  rw [b1, b2, b3, b4, b5, b6, b7, b8, b9]
  rw [Int.toNat_of_nonneg (by assumption), Int.toNat_of_nonneg (by assumption), Int.toNat_of_nonneg (by assumption), Int.toNat_of_nonneg (by assumption)]
theorem ofW_may {i f a b c d : Nat} (ha : a < 65536) (hb : b < 65536) (hc : c < 65536) (hd : d < 65536) : (ofW i f a b c d).may := by
  refine ⟨?_, ?_, ?_, ?_, ?_, ?_⟩ <;> simp only [ofW] <;> omega
theorem fwd_64 {h : Hd} (m : h.may) : fwd h / 64 % 2 = 0 := by
  obtain ⟨⟨o1, o2⟩, ⟨r1, r2⟩, _⟩ := m
  obtain ⟨t1, e1, k1⟩ := fl_one h.re 32768
  obtain ⟨t2, e2, k2⟩ := fl_one h.aa 1024
  obtain ⟨t3, e3, k3⟩ := fl_one h.tc 512
  obtain ⟨t4, e4, k4⟩ := fl_one h.rd 256
  obtain ⟨t5, e5, k5⟩ := fl_one h.ra 128
  obtain ⟨t6, e6, k6⟩ := fl_one h.ad 32
  obtain ⟨t7, e7, k7⟩ := fl_one h.cd 16
  simp only [fwd, fW]
  rw [e1, e2, e3, e4, e5, e6, e7]
  omega
/-- The words of a header, in their order. -/
def wds (h : Hd) : List Nat := [h.id, fwd h, h.n0.toNat, h.n1.toNat, h.n2.toNat, h.n3.toNat]
/-- Its octets. -/
def ocH (h : Hd) : List UInt8 := octs h.id 2 ++ octs (fwd h) 2 ++ octs h.n0.toNat 2 ++ octs h.n1.toNat 2 ++ octs h.n2.toNat 2 ++ octs h.n3.toNat 2
theorem ocH_length (h : Hd) : (ocH h).length = 12 := by simp [ocH, octs_length]
def noH : Hd := ⟨0, false, 0, false, false, false, false, false, false, 0, 0, 0, 0, 0⟩
/-- The word at place k of octets. -/
def wdAt (l : List UInt8) (k : Nat) : Nat := num ((l.drop (2 * k)).take 2)
/-- What Read answers. -/
def rdE (l : List UInt8) : Nat := if l.length < 12 then 8 else if wdAt l 1 / 64 % 2 = 1 then 4 else 0
def rdV (l : List UInt8) : Hd := if rdE l = 0 then ofW (wdAt l 0) (wdAt l 1) (wdAt l 2) (wdAt l 3) (wdAt l 4) (wdAt l 5) else noH
/-- What Put answers. -/
def ptV (h : Hd) : List UInt8 := if mayB h then ocH h else []
theorem wdAt_lt (l : List UInt8) (k : Nat) : wdAt l k < 65536 := by
  have h := num_lt ((l.drop (2 * k)).take 2)
  have h2 : ((l.drop (2 * k)).take 2).length ≤ 2 := List.length_take_le _ _
  have := Nat.pow_le_pow_right (n := 256) (by omega) h2
  unfold wdAt
  omega
end Go.Proofs.YtadeflehdfmilaaGreat
