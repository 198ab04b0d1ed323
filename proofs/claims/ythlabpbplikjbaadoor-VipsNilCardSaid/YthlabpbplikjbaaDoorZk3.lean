/-
  Addresses as plain data: their octets, groups, texts, reverse names, and what is read of a text: the mathematics that the contracts of layer 4 name. No condition. Nothing of any program is named here. Ranges as plain data: what may be one, what it has, its places: the mathematics that the contracts of layer 5 name. No condition. Nothing of any program is named here. Ranges: heads within heads, places, meeting, nesting: mathematics. Conditions: as each theorem names them. Nothing of any program is named here.
-/
import Derived.Test.YthlabpbplikjbaaDoorZk1
import Derived.Test.YthlabpbplikjbaaDoorZk2
import Derived.Lib.Split
import Derived.Lib.CutLaws
import Derived.Lib.LastIndexLaws
import Derived.Lib.Join
import Derived.Lib.Itoa
import Derived.Lib.ItoaNum
import Derived.Lib.ParseIntB
namespace Go.Proofs.YthlabpbplikjbaaDoor
open Go.RowKit
set_option linter.unusedVariables false

/-- An address: is it of the newer kind; the higher half; the lower one. -/
abbrev Ad := Bool × Nat × Nat
/-- It fits into what holds it. -/
def fitA (a : Ad) : Prop := a.2.1 < 18446744073709551616 ∧ a.2.2 < 18446744073709551616
/-- As the program holds it. -/
def av (a : Ad) : Value := .agg #[.bool a.1, .int .u64 (a.2.1 : Int), .int .u64 (a.2.2 : Int)]
def noA : Ad := (false, 0, 0)
/-- What Check answers. -/
def chkA (a : Ad) : Nat := if a.1 = false ∧ (a.2.1 ≠ 0 ∨ 4294967295 < a.2.2) then 2 else 0

/-- Parts put together, the highest first, to the base m. -/
def jn (m : Nat) (l : List Nat) : Nat := l.foldl (fun v p => v * m + p) 0
def elderA (l : List Nat) : Ad := (false, 0, jn 256 l)
def newerA (m : Nat) (l : List Nat) : Ad := (true, jn m (l.take (l.length / 2)), jn m (l.drop (l.length / 2)))
def allO (a : Ad) : List UInt8 := octs a.2.1 8 ++ octs a.2.2 8
/-- What Octets answers of one that may be. -/
def octA (a : Ad) : List UInt8 := if a.1 then allO a else octs a.2.2 4
def pairs : List UInt8 → List Nat
  | x :: y :: r => (x.toNat * 256 + y.toNat) :: pairs r
  | _ => []
/-- The eight groups. -/
def grpA (a : Ad) : List Nat := pairs (allO a)

/-! ### Digits -/
def hexd (d : Nat) : UInt8 := if d < 10 then UInt8.ofNat (48 + d) else UInt8.ofNat (87 + d)
def hexF : Nat → Nat → List UInt8
  | 0, _ => []
  | f + 1, v => if v < 16 then [hexd v] else hexF f (v / 16) ++ [hexd (v % 16)]
/-- A number's digits by sixteen. -/
def hexT (v : Nat) : List UInt8 := hexF 16 v
/-- A number's digits by ten. -/
def decT (v : Nat) : List UInt8 := Lib.itoa (v : Int)
def hxv (c : UInt8) : Option Nat :=
  if 48 ≤ c.toNat ∧ c.toNat ≤ 57 then some (c.toNat - 48) else if 97 ≤ c.toNat ∧ c.toNat ≤ 102 then some (c.toNat - 87) else if 65 ≤ c.toNat ∧ c.toNat ≤ 70 then some (c.toNat - 55) else none
def hxF : Nat → List UInt8 → Option Nat
  | acc, [] => some acc
  | acc, c :: r => match hxv c with
    | none => none
    | some d => hxF (acc * 16 + d) r
/-- The number whose digits by sixteen these are, at most so many. -/
def hexO (most : Nat) (s : List UInt8) : Option Nat := if most < s.length ∨ s = [] then none else hxF 0 s
/-- The octet whose digits by ten these are. -/
def numO (s : List UInt8) : Option Nat := match Lib.parseUintB 8 s with
  | .ok v => if decT v = s then some v else none
  | _ => none
def eachO (f : List UInt8 → Option Nat) : List (List UInt8) → Option (List Nat)
  | [] => some []
  | x :: L => match f x with
    | none => none
    | some v => match eachO f L with
      | none => none
      | some l => some (v :: l)

/-! ### What is read -/
def splitA (s : List UInt8) (by' : UInt8) (n : Nat) : List (List UInt8) := if s = [] then [] else Lib.splitN s [by'] (n + 1)
def ofNumO (L : List (List UInt8)) : Option Ad := match eachO numO L with
  | none => none
  | some l => if l.length = 4 then some (elderA l) else none
def eldO (s : List UInt8) : Option Ad := ofNumO (splitA s 46 4)
/-- Groups with : between. -/
def grpT (g : List Nat) : List UInt8 := Lib.join (g.map hexT) [58]
/-- The place behind the last colon. -/
def lastK (s : List UInt8) : Nat := (Lib.lastIndex s [58] + 1).toNat
def withO (s : List UInt8) : Option (List UInt8) :=
  if Lib.contains (s.drop (lastK s)) [46] = false then some s
  else match eldO (s.drop (lastK s)) with
    | none => none
    | some a => some (s.take (lastK s) ++ grpT ((grpA a).drop 6))
def gapG (a b : List Nat) : List Nat := a ++ List.replicate (8 - a.length - b.length) 0 ++ b
def newO (s : List UInt8) : Option Ad := match withO s with
  | none => none
  | some p => match eachO (hexO 4) (splitA (Lib.cut p [58, 58]).1 58 8) with
    | none => none
    | some a => match eachO (hexO 4) (splitA (Lib.cut p [58, 58]).2.1 58 8) with
      | none => none
      | some b => if 8 < a.length + b.length ∨ (Lib.cut p [58, 58]).2.2 ≠ decide (a.length + b.length < 8) then none else some (newerA 65536 (gapG a b))
def readO (s : List UInt8) : Option Ad := if Lib.contains s [58] then newO s else eldO s
/-- What Read answers. -/
def rdA (s : List UInt8) : Ad × Nat := match readO s with
  | some a => (a, 0)
  | none => (noA, 7)

/-! ### What is told -/
def noF : List Nat → Nat → Nat → Nat → Nat → Nat × Nat
  | [], _, _, f, t => (f, t)
  | c :: r, e, s, f, t => if max (t - f) 1 < e - (if c ≠ 0 then e else s) then noF r (e + 1) (if c ≠ 0 then e else s) (if c ≠ 0 then e else s) e else noF r (e + 1) (if c ≠ 0 then e else s) f t
/-- Where the longest run of noughts begins, and ends. -/
def noughts (g : List Nat) : Nat × Nat := noF g 1 0 0 0
def text6 (g : List Nat) : List UInt8 := if (noughts g).1 = (noughts g).2 then grpT g else grpT (g.take (noughts g).1) ++ [58, 58] ++ grpT (g.drop (noughts g).2)
def numsT (l : List UInt8) : List (List UInt8) := l.map fun c => decT c.toNat
def digsT (l : List UInt8) : List (List UInt8) := l.flatMap fun c => [hexT (c.toNat / 16), hexT (c.toNat % 16)]
/-- What Text answers. -/
def txA (a : Ad) : List UInt8 × Nat := if chkA a ≠ 0 then ([], chkA a) else if a.1 then (text6 (grpA a), 0) else (Lib.join (numsT (octA a)) [46], 0)
/-- What Add answers. -/
def sumA (a : Ad) (n : Nat) : Ad := (a.1, (a.2.1 + (a.2.2 + n) / 18446744073709551616) % 18446744073709551616, (a.2.2 + n) % 18446744073709551616)
def addA (a : Ad) (n : Nat) : Ad × Bool :=
  if chkA a ≠ 0 then (noA, false) else if (a.2.1 + (a.2.2 + n) / 18446744073709551616) / 18446744073709551616 ≠ 0 ∨ chkA (sumA a n) ≠ 0 then (noA, false) else (sumA a n, true)
def inaddr : List UInt8 := [105, 110, 45, 97, 100, 100, 114]
def ip6 : List UInt8 := [105, 112, 54]
def arpa : List UInt8 := [97, 114, 112, 97]
/-- The labels of the reverse name. -/
def revL (a : Ad) : List (List UInt8) := if a.1 then (digsT (octA a)).reverse ++ [ip6, arpa] else (numsT (octA a)).reverse ++ [inaddr, arpa]
/-- What Reverse answers. -/
def revA (a : Ad) : List UInt8 × Nat := if chkA a ≠ 0 then ([], chkA a) else mkN (revL a)
example : rdA [49, 58, 48, 58, 48, 58, 50, 58, 48, 58, 48, 58, 48, 58, 51] = ((true, 281474976710658, 3), 0) := by decide +kernel
example : txA (true, 281474976710658, 3) = ([49, 58, 48, 58, 48, 58, 50, 58, 58, 51], 0) := by decide +kernel
example : revA (elderA [1, 2, 3, 4]) = ([1, 52, 1, 51, 1, 50, 1, 49, 7, 105, 110, 45, 97, 100, 100, 114, 4, 97, 114, 112, 97], 0) := by decide +kernel
end Go.Proofs.YthlabpbplikjbaaDoor
namespace Go.Proofs.YthlabpbplikjbaaDoor
open Go.RowKit
set_option linter.unusedVariables false

/-- How many bits addresses of a kind have. -/
def widA (six : Bool) : Nat := if six then 128 else 32
/-- How many of the lower bits of Hi, of Lo, don't count. -/
def kH (six : Bool) (n : Nat) : Nat := if six then 64 - n else 64
def kL (six : Bool) (n : Nat) : Nat := if six then (if n ≤ 64 then 64 else 128 - n) else 32 - n
/-- The bits that count. -/
def mk (k : Nat) : Nat := 18446744073709551615 * 2 ^ k % 18446744073709551616
/-- The lower k bits struck. -/
def cl (k x : Nat) : Nat := x / 2 ^ k * 2 ^ k
def headR (six : Bool) (n : Nat) (a : Ad) : Ad := (a.1, cl (kH six n) a.2.1, cl (kL six n) a.2.2)
/-- A range as the program holds it. -/
def rv (r : Ad) (n : Int) : Value := .agg #[.bool r.1, .int .u64 (r.2.1 : Int), .int .u64 (r.2.2 : Int), .int .i64 n]
/-- What Check answers. -/
def chkR (r : Ad) (n : Int) : Nat := if chkA r ≠ 0 ∨ n < 0 ∨ (widA r.1 : Int) < n ∨ headR r.1 n.toNat r ≠ r then 2 else 0
/-- What Has answers. -/
def hasR (r : Ad) (n : Int) (a : Ad) : Bool := decide (chkR r n = 0 ∧ chkA a = 0 ∧ headR r.1 n.toNat a = r)
/-- What Size answers. -/
def sizeR (r : Ad) (n : Int) : Nat := if chkR r n = 0 then 2 ^ min (widA r.1 - n.toNat) 16 else 0
/-- What At answers. -/
def atR (r : Ad) (n i : Int) : Ad × Bool := if i < 0 ∨ (sizeR r n : Int) ≤ i then (noA, false) else addA r i.toNat
/-- How far a lies behind r's Base. -/
def offR (r a : Ad) : Nat := (a.2.2 + (18446744073709551616 - r.2.2)) % 18446744073709551616
/-- What Index answers. -/
def idxR (r : Ad) (n : Int) (a : Ad) : Nat × Bool := if hasR r n a = false ∨ a.2.1 ≠ r.2.1 ∨ sizeR r n ≤ offR r a then (0, false) else (offR r a, true)
/-- What Meet answers. -/
def meetR (r : Ad) (n : Int) (s : Ad) (m : Int) : Bool := decide (chkR r n = 0 ∧ chkR s m = 0 ∧ (hasR r n s = true ∨ hasR s m r = true))

/-! ### Masks -/
theorem mk_eq {k : Nat} (h : k ≤ 64) : mk k = (2 ^ (64 - k) - 1) * 2 ^ k := by
  unfold mk
  have e : (2 : Nat) ^ (64 - k) * 2 ^ k = 18446744073709551616 := by rw [← Nat.pow_add, Nat.sub_add_cancel h]
  have h1 : 1 ≤ 2 ^ k := Nat.one_le_two_pow
  have h2 : 2 ^ k ≤ 18446744073709551616 := by rw [← e]; exact Nat.le_mul_of_pos_left _ (Nat.two_pow_pos _)
  rw [Nat.sub_mul, e, Nat.one_mul]
  generalize (2 : Nat) ^ k = p at *
  obtain ⟨q, rfl⟩ : ∃ q, p = q + 1 := ⟨p - 1, by omega⟩
  rw [Nat.mul_add]
  omega
theorem mk_lt (k : Nat) : mk k < 18446744073709551616 := Nat.mod_lt _ (by decide)
theorem mk_and {k x : Nat} (h : k ≤ 64) (hx : x < 18446744073709551616) : x &&& mk k = cl k x := by
  rw [mk_eq h]
  unfold cl
  apply Nat.eq_of_testBit_eq
  intro i
  rw [Nat.testBit_and, Nat.testBit_mul_two_pow, Nat.testBit_mul_two_pow, Nat.testBit_two_pow_sub_one, Nat.testBit_div_two_pow]
  by_cases h1 : k ≤ i
  · simp only [h1, decide_true, Bool.true_and]
    rw [Nat.sub_add_cancel h1]
    by_cases h2 : i < 64
    · rw [decide_eq_true (show i - k < 64 - k by omega), Bool.and_true]
    · have : x.testBit i = false := Nat.testBit_lt_two_pow (Nat.lt_of_lt_of_le hx (by
        have : (2 : Nat) ^ 64 ≤ 2 ^ i := Nat.pow_le_pow_right (by decide) (by omega)
        exact this))
      rw [this, Bool.false_and]
  · simp [h1]
theorem cl_le (k x : Nat) : cl k x ≤ x := Nat.div_mul_le_self _ _
theorem kH_le (six : Bool) (n : Nat) : kH six n ≤ 64 := by unfold kH; split <;> omega
theorem kL_le {six : Bool} {n : Nat} : kL six n ≤ 64 := by unfold kL; split <;> (try split) <;> omega
end Go.Proofs.YthlabpbplikjbaaDoor
namespace Go.Proofs.YthlabpbplikjbaaDoor
open Go.RowKit
set_option linter.unusedVariables false

theorem cl_cl {j k : Nat} (h : j ≤ k) (x : Nat) : cl k (cl j x) = cl k x := by
  unfold cl
  obtain ⟨d, rfl⟩ : ∃ d, k = j + d := ⟨k - j, by omega⟩
  rw [Nat.pow_add, ← Nat.div_div_eq_div_mul, ← Nat.div_div_eq_div_mul, Nat.mul_div_cancel _ (Nat.two_pow_pos j)]
/-- Less than the bits that were struck behind. -/
theorem cl_add {k x j : Nat} (h : cl k x = x) (hj : j < 2 ^ k) : cl k (x + j) = x := by
  unfold cl at h ⊢
  rw [← h, Nat.add_comm, Nat.add_mul_div_right _ _ (Nat.two_pow_pos k), Nat.div_eq_of_lt hj, Nat.zero_add]
theorem cl_room {k W x : Nat} (h : cl k x = x) (hk : k ≤ W) (hx : x < 2 ^ W) : x + 2 ^ k ≤ 2 ^ W := by
  obtain ⟨d, rfl⟩ : ∃ d, W = k + d := ⟨W - k, by omega⟩
  unfold cl at h
  rw [Nat.pow_add, Nat.mul_comm (2 ^ k)] at hx ⊢
  have h1 : x / 2 ^ k < 2 ^ d := Nat.div_lt_of_lt_mul (by rw [Nat.mul_comm]; exact hx)
  have h2 : (x / 2 ^ k + 1) * 2 ^ k ≤ 2 ^ d * 2 ^ k := Nat.mul_le_mul_right _ h1
  rw [Nat.add_mul, Nat.one_mul, h] at h2
  exact h2
theorem kH_mono {six : Bool} {m n : Nat} (h : m ≤ n) : kH six n ≤ kH six m := by unfold kH; split <;> omega
theorem kL_mono {six : Bool} {m n : Nat} (h : m ≤ n) : kL six n ≤ kL six m := by unfold kL; (repeat' split) <;> omega
theorem head_head {six : Bool} {m n : Nat} (h : m ≤ n) (a : Ad) : headR six m (headR six n a) = headR six m a := by
  unfold headR
  simp only [cl_cl (kH_mono h), cl_cl (kL_mono h)]
/-- What a range that may be is. -/
theorem chkR_yes {r : Ad} {n : Int} (h : chkR r n = 0) : chkA r = 0 ∧ ∃ b : Nat, n = b ∧ b ≤ widA r.1 ∧ headR r.1 b r = r := by
  unfold chkR at h
  split at h
  · cases h
  · rename_i hn
    simp only [not_or, Decidable.not_not] at hn
    obtain ⟨h1, h2, h3, h4⟩ := hn
    exact ⟨h1, n.toNat, by omega, by omega, h4⟩
theorem hasR_iff {r : Ad} {b : Nat} {a : Ad} (h : chkR r b = 0) : hasR r b a = true ↔ chkA a = 0 ∧ headR r.1 b a = r := by
  unfold hasR
  rw [decide_eq_true_iff, Int.toNat_natCast]
  exact ⟨fun x => x.2, fun x => ⟨h, x⟩⟩
theorem hasR_bad {r : Ad} {n : Int} (a : Ad) (h : chkR r n ≠ 0) : hasR r n a = false := by
  unfold hasR
  rw [decide_eq_false_iff_not]
  exact fun x => h x.1
theorem sizeR_yes {r : Ad} {b : Nat} (h : chkR r b = 0) : sizeR r b = 2 ^ min (widA r.1 - b) 16 := by
  unfold sizeR
  rw [if_pos h, Int.toNat_natCast]
theorem kL_min (six : Bool) (b : Nat) : min (widA six - b) 16 ≤ kL six b := by
  unfold widA kL
  (repeat' split) <;> omega
/-- The place j of a range that may be. -/
theorem place {r : Ad} {b : Nat} (hf : fitA r) (h : chkR r b = 0) {j : Nat} (hj : j < sizeR r b) :
    addA r j = ((r.1, r.2.1, r.2.2 + j), true) ∧ fitA (r.1, r.2.1, r.2.2 + j) ∧ chkA (r.1, r.2.1, r.2.2 + j) = 0 ∧ headR r.1 b (r.1, r.2.1, r.2.2 + j) = r ∧ offR r (r.1, r.2.1, r.2.2 + j) = j := by
  rw [sizeR_yes h] at hj
  obtain ⟨hc, b', e, hb, hh⟩ := chkR_yes h
  obtain rfl : b = b' := by omega
  obtain ⟨six, hi, lo⟩ := r
  have hk : cl (kL six b) lo = lo := congrArg (fun x : Ad => x.2.2) hh
  have hkh : cl (kH six b) hi = hi := congrArg (fun x : Ad => x.2.1) hh
  have hj2 : j < 2 ^ kL six b := Nat.lt_of_lt_of_le hj (Nat.pow_le_pow_right (by decide) (kL_min six b))
  have hlo : lo < 18446744073709551616 := hf.2
  have hhi : hi < 18446744073709551616 := hf.1
  have h64 : lo + j < 18446744073709551616 := by
    have := cl_room (W := 64) hk kL_le (by simpa using hlo)
    have e64 : (2 : Nat) ^ 64 = 18446744073709551616 := by decide
    omega
  have hchk : chkA (six, hi, lo + j) = 0 := by
    cases six
    · have hlo32 : hi = 0 ∧ lo < 4294967296 := by
        unfold chkA at hc
        simp only [true_and] at hc
        split at hc
        · cases hc
        · omega
      have := cl_room (W := 32) hk (by unfold kL; simp) (by simpa using hlo32.2)
      have e32 : (2 : Nat) ^ 32 = 4294967296 := by decide
      unfold chkA
      rw [if_neg]
      simp only [true_and]
      omega
    · unfold chkA
      simp
  have hsum : sumA (six, hi, lo) j = (six, hi, lo + j) := by
    unfold sumA
    simp only
    rw [Nat.div_eq_of_lt h64, Nat.add_zero, Nat.mod_eq_of_lt h64, Nat.mod_eq_of_lt hhi]
  refine ⟨?_, ⟨hhi, h64⟩, hchk, ?_, ?_⟩
  · unfold addA
    rw [if_neg (by rw [hc]; decide), if_neg, hsum]
    rw [hsum, hchk]
    simp only [Nat.div_eq_of_lt h64, Nat.add_zero, Nat.div_eq_of_lt hhi]
    simp
  · show (six, cl (kH six b) hi, cl (kL six b) (lo + j)) = (six, hi, lo)
    rw [hkh, cl_add hk hj2]
  · unfold offR
    simp only
    omega
theorem size_pos {r : Ad} {b : Nat} (h : chkR r b = 0) : 1 ≤ sizeR r b ∧ sizeR r b ≤ 65536 := by
  rw [sizeR_yes h]
  exact ⟨Nat.one_le_two_pow, Nat.pow_le_pow_right (n := 2) (j := 16) (by omega) (Nat.min_le_right _ _)⟩
/-- What has another one's place has its first one, too; the range with fewer bits leads. -/
theorem has_back {a b : Ad} {m n : Nat} (ha : chkR a m = 0) (hb : chkR b n = 0) (hmn : m ≤ n) : hasR b n a = true → hasR a m b = true := by
  intro h
  rw [hasR_iff hb] at h
  rw [hasR_iff ha]
  obtain ⟨hca, m', e, hm, hha⟩ := chkR_yes ha
  obtain rfl : m = m' := by omega
  obtain ⟨hcb, n', e', hn, hhb⟩ := chkR_yes hb
  have hk : a.1 = b.1 := by rw [← h.2]; rfl
  refine ⟨hcb, ?_⟩
  rw [← h.2, ← hk, head_head hmn, hha]
theorem meet_has {a b : Ad} {m n : Nat} (ha : chkR a m = 0) (hb : chkR b n = 0) (hmn : m ≤ n) : meetR a m b n = hasR a m b ∧ meetR b n a m = hasR a m b := by
  have h := has_back ha hb hmn
  unfold meetR
  cases e : hasR a m b <;> cases e' : hasR b n a <;> simp_all
theorem meet_bad {a b : Ad} {m n : Int} (h : chkR a m ≠ 0 ∨ chkR b n ≠ 0) : meetR a m b n = false := by
  unfold meetR
  rw [decide_eq_false_iff_not]
  rintro ⟨h1, h2, _⟩
  rcases h with h | h
  · exact h h1
  · exact h h2
/-- A place of the smaller one is the greater one's just if they meet. -/
theorem has_place {a b : Ad} {m n : Nat} (hf : fitA b) (ha : chkR a m = 0) (hb : chkR b n = 0) (hmn : m ≤ n) {j : Nat} (hj : j < sizeR b n) : hasR a m (b.1, b.2.1, b.2.2 + j) = hasR a m b := by
  obtain ⟨_, _, h3, h4, _⟩ := place hf hb hj
  have hcb := (chkR_yes hb).1
  rw [Bool.eq_iff_iff, hasR_iff ha, hasR_iff ha]
  by_cases hk : a.1 = b.1
  · have e : headR a.1 m (b.1, b.2.1, b.2.2 + j) = headR a.1 m b := by
      conv => rhs; rw [← h4]
      rw [← hk, head_head hmn]
    rw [e]
    exact ⟨fun x => ⟨hcb, x.2⟩, fun x => ⟨h3, x.2⟩⟩
  · constructor
    · rintro ⟨_, h⟩
      exact absurd (congrArg Prod.fst h).symm hk
    · rintro ⟨_, h⟩
      exact absurd (congrArg Prod.fst h).symm hk
/-- A place is found where it is. -/
theorem idx_place {r : Ad} {b : Nat} (hf : fitA r) (h : chkR r b = 0) {j : Nat} (hj : j < sizeR r b) : idxR r b (r.1, r.2.1, r.2.2 + j) = (j, true) := by
  obtain ⟨_, _, h3, h4, h5⟩ := place hf h hj
  have hh : hasR r b (r.1, r.2.1, r.2.2 + j) = true := (hasR_iff h).2 ⟨h3, h4⟩
  unfold idxR
  rw [h5, if_neg]
  rw [hh]
  simp only [Bool.true_eq_false, false_or, ne_eq, not_true_eq_false]
  omega
/-! ### Nesting -/
end Go.Proofs.YthlabpbplikjbaaDoor
