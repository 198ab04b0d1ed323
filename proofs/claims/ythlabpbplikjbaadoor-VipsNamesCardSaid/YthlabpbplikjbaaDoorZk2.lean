/-
  Addresses as plain data: their octets, groups, texts, reverse names, and what is read of a text: the mathematics that the contracts of layer 4 name. No condition. Nothing of any program is named here. Ranges as plain data: what may be one, what it has, its places: the mathematics that the contracts of layer 5 name. No condition. Nothing of any program is named here. Ranges: heads within heads, places, meeting, nesting: mathematics. Conditions: as each theorem names them. Nothing of any program is named here. Which places of a range reserved ranges take: the runs' lengths, and where they lie: plain mathematics. Conditions as each theorem names them. Nothing of any program is named here. Which places of a range reserved ranges leave, and how many: plain mathematics. Conditions: as each theorem names them. Nothing of any program is named here.
-/
import Derived.Test.YthlabpbplikjbaaDoorZk0
import Derived.Test.YthlabpbplikjbaaDoorZk1
import Derived.Lib.Split
import Derived.Lib.CutLaws
import Derived.Lib.LastIndexLaws
import Derived.Lib.Join
import Derived.Lib.Itoa
import Derived.Lib.ItoaNum
import Derived.Lib.ParseIntB
import Derived.Test.YthlabpbplikjbaaDoorZk8
namespace Go.Proofs.YthlabpbplikjbaaDoor
open Go.RowKit
set_option linter.unusedVariables false

/-- An address: is it of the newer kind; the higher half; the lower one. -/
abbrev Ad := Bool × Nat × Nat
/-- It fits into what holds it. -/
def fitA (a : Ad) : Prop := a.2.1 < 18446744073709551616 ∧ a.2.2 < 18446744073709551616
/-- As the program holds it. -/
def av (a : Ad) : Value := .agg #[.bool a.1, .int .u64 (a.2.1 : Int), .int .u64 (a.2.2 : Int)]
def noA : Ad := (false, 0, 0)
/-- What Check answers. -/
def chkA (a : Ad) : Nat := if a.1 = false ∧ (a.2.1 ≠ 0 ∨ 4294967295 < a.2.2) then 2 else 0

/-- Parts put together, the highest first, to the base m. -/
def jn (m : Nat) (l : List Nat) : Nat := l.foldl (fun v p => v * m + p) 0
def elderA (l : List Nat) : Ad := (false, 0, jn 256 l)
def newerA (m : Nat) (l : List Nat) : Ad := (true, jn m (l.take (l.length / 2)), jn m (l.drop (l.length / 2)))
def allO (a : Ad) : List UInt8 := octs a.2.1 8 ++ octs a.2.2 8
/-- What Octets answers of one that may be. -/
def octA (a : Ad) : List UInt8 := if a.1 then allO a else octs a.2.2 4
def pairs : List UInt8 → List Nat
  | x :: y :: r => (x.toNat * 256 + y.toNat) :: pairs r
  | _ => []
/-- The eight groups. -/
def grpA (a : Ad) : List Nat := pairs (allO a)

/-! ### Digits -/
def hexd (d : Nat) : UInt8 := if d < 10 then UInt8.ofNat (48 + d) else UInt8.ofNat (87 + d)
def hexF : Nat → Nat → List UInt8
  | 0, _ => []
  | f + 1, v => if v < 16 then [hexd v] else hexF f (v / 16) ++ [hexd (v % 16)]
/-- A number's digits by sixteen. -/
def hexT (v : Nat) : List UInt8 := hexF 16 v
/-- A number's digits by ten. -/
def decT (v : Nat) : List UInt8 := Lib.itoa (v : Int)
def hxv (c : UInt8) : Option Nat :=
  if 48 ≤ c.toNat ∧ c.toNat ≤ 57 then some (c.toNat - 48) else if 97 ≤ c.toNat ∧ c.toNat ≤ 102 then some (c.toNat - 87) else if 65 ≤ c.toNat ∧ c.toNat ≤ 70 then some (c.toNat - 55) else none
def hxF : Nat → List UInt8 → Option Nat
  | acc, [] => some acc
  | acc, c :: r => match hxv c with
    | none => none
    | some d => hxF (acc * 16 + d) r
/-- The number whose digits by sixteen these are, at most so many. -/
def hexO (most : Nat) (s : List UInt8) : Option Nat := if most < s.length ∨ s = [] then none else hxF 0 s
/-- The octet whose digits by ten these are. -/
def numO (s : List UInt8) : Option Nat := match Lib.parseUintB 8 s with
  | .ok v => if decT v = s then some v else none
  | _ => none
def eachO (f : List UInt8 → Option Nat) : List (List UInt8) → Option (List Nat)
  | [] => some []
  | x :: L => match f x with
    | none => none
    | some v => match eachO f L with
      | none => none
      | some l => some (v :: l)

/-! ### What is read -/
def splitA (s : List UInt8) (by' : UInt8) (n : Nat) : List (List UInt8) := if s = [] then [] else Lib.splitN s [by'] (n + 1)
def ofNumO (L : List (List UInt8)) : Option Ad := match eachO numO L with
  | none => none
  | some l => if l.length = 4 then some (elderA l) else none
def eldO (s : List UInt8) : Option Ad := ofNumO (splitA s 46 4)
/-- Groups with : between. -/
def grpT (g : List Nat) : List UInt8 := Lib.join (g.map hexT) [58]
/-- The place behind the last colon. -/
def lastK (s : List UInt8) : Nat := (Lib.lastIndex s [58] + 1).toNat
def withO (s : List UInt8) : Option (List UInt8) :=
  if Lib.contains (s.drop (lastK s)) [46] = false then some s
  else match eldO (s.drop (lastK s)) with
    | none => none
    | some a => some (s.take (lastK s) ++ grpT ((grpA a).drop 6))
def gapG (a b : List Nat) : List Nat := a ++ List.replicate (8 - a.length - b.length) 0 ++ b
def newO (s : List UInt8) : Option Ad := match withO s with
  | none => none
  | some p => match eachO (hexO 4) (splitA (Lib.cut p [58, 58]).1 58 8) with
    | none => none
    | some a => match eachO (hexO 4) (splitA (Lib.cut p [58, 58]).2.1 58 8) with
      | none => none
      | some b => if 8 < a.length + b.length ∨ (Lib.cut p [58, 58]).2.2 ≠ decide (a.length + b.length < 8) then none else some (newerA 65536 (gapG a b))
def readO (s : List UInt8) : Option Ad := if Lib.contains s [58] then newO s else eldO s
/-- What Read answers. -/
def rdA (s : List UInt8) : Ad × Nat := match readO s with
  | some a => (a, 0)
  | none => (noA, 7)

/-! ### What is told -/
def noF : List Nat → Nat → Nat → Nat → Nat → Nat × Nat
  | [], _, _, f, t => (f, t)
  | c :: r, e, s, f, t => if max (t - f) 1 < e - (if c ≠ 0 then e else s) then noF r (e + 1) (if c ≠ 0 then e else s) (if c ≠ 0 then e else s) e else noF r (e + 1) (if c ≠ 0 then e else s) f t
/-- Where the longest run of noughts begins, and ends. -/
def noughts (g : List Nat) : Nat × Nat := noF g 1 0 0 0
def text6 (g : List Nat) : List UInt8 := if (noughts g).1 = (noughts g).2 then grpT g else grpT (g.take (noughts g).1) ++ [58, 58] ++ grpT (g.drop (noughts g).2)
def numsT (l : List UInt8) : List (List UInt8) := l.map fun c => decT c.toNat
def digsT (l : List UInt8) : List (List UInt8) := l.flatMap fun c => [hexT (c.toNat / 16), hexT (c.toNat % 16)]
/-- What Text answers. -/
def txA (a : Ad) : List UInt8 × Nat := if chkA a ≠ 0 then ([], chkA a) else if a.1 then (text6 (grpA a), 0) else (Lib.join (numsT (octA a)) [46], 0)
/-- What Add answers. -/
def sumA (a : Ad) (n : Nat) : Ad := (a.1, (a.2.1 + (a.2.2 + n) / 18446744073709551616) % 18446744073709551616, (a.2.2 + n) % 18446744073709551616)
def addA (a : Ad) (n : Nat) : Ad × Bool :=
  if chkA a ≠ 0 then (noA, false) else if (a.2.1 + (a.2.2 + n) / 18446744073709551616) / 18446744073709551616 ≠ 0 ∨ chkA (sumA a n) ≠ 0 then (noA, false) else (sumA a n, true)
def inaddr : List UInt8 := [105, 110, 45, 97, 100, 100, 114]
def ip6 : List UInt8 := [105, 112, 54]
def arpa : List UInt8 := [97, 114, 112, 97]
/-- The labels of the reverse name. -/
def revL (a : Ad) : List (List UInt8) := if a.1 then (digsT (octA a)).reverse ++ [ip6, arpa] else (numsT (octA a)).reverse ++ [inaddr, arpa]
/-- What Reverse answers. -/
def revA (a : Ad) : List UInt8 × Nat := if chkA a ≠ 0 then ([], chkA a) else mkN (revL a)
example : rdA [49, 58, 48, 58, 48, 58, 50, 58, 48, 58, 48, 58, 48, 58, 51] = ((true, 281474976710658, 3), 0) := by decide +kernel
example : txA (true, 281474976710658, 3) = ([49, 58, 48, 58, 48, 58, 50, 58, 58, 51], 0) := by decide +kernel
example : revA (elderA [1, 2, 3, 4]) = ([1, 52, 1, 51, 1, 50, 1, 49, 7, 105, 110, 45, 97, 100, 100, 114, 4, 97, 114, 112, 97], 0) := by decide +kernel
end Go.Proofs.YthlabpbplikjbaaDoor
namespace Go.Proofs.YthlabpbplikjbaaDoor
open Go.RowKit
set_option linter.unusedVariables false

/-- How many bits addresses of a kind have. -/
def widA (six : Bool) : Nat := if six then 128 else 32
/-- How many of the lower bits of Hi, of Lo, don't count. -/
def kH (six : Bool) (n : Nat) : Nat := if six then 64 - n else 64
def kL (six : Bool) (n : Nat) : Nat := if six then (if n ≤ 64 then 64 else 128 - n) else 32 - n
/-- The bits that count. -/
def mk (k : Nat) : Nat := 18446744073709551615 * 2 ^ k % 18446744073709551616
/-- The lower k bits struck. -/
def cl (k x : Nat) : Nat := x / 2 ^ k * 2 ^ k
def headR (six : Bool) (n : Nat) (a : Ad) : Ad := (a.1, cl (kH six n) a.2.1, cl (kL six n) a.2.2)
/-- A range as the program holds it. -/
def rv (r : Ad) (n : Int) : Value := .agg #[.bool r.1, .int .u64 (r.2.1 : Int), .int .u64 (r.2.2 : Int), .int .i64 n]
/-- What Check answers. -/
def chkR (r : Ad) (n : Int) : Nat := if chkA r ≠ 0 ∨ n < 0 ∨ (widA r.1 : Int) < n ∨ headR r.1 n.toNat r ≠ r then 2 else 0
/-- What Has answers. -/
def hasR (r : Ad) (n : Int) (a : Ad) : Bool := decide (chkR r n = 0 ∧ chkA a = 0 ∧ headR r.1 n.toNat a = r)
/-- What Size answers. -/
def sizeR (r : Ad) (n : Int) : Nat := if chkR r n = 0 then 2 ^ min (widA r.1 - n.toNat) 16 else 0
/-- What At answers. -/
def atR (r : Ad) (n i : Int) : Ad × Bool := if i < 0 ∨ (sizeR r n : Int) ≤ i then (noA, false) else addA r i.toNat
/-- How far a lies behind r's Base. -/
def offR (r a : Ad) : Nat := (a.2.2 + (18446744073709551616 - r.2.2)) % 18446744073709551616
/-- What Index answers. -/
def idxR (r : Ad) (n : Int) (a : Ad) : Nat × Bool := if hasR r n a = false ∨ a.2.1 ≠ r.2.1 ∨ sizeR r n ≤ offR r a then (0, false) else (offR r a, true)
/-- What Meet answers. -/
def meetR (r : Ad) (n : Int) (s : Ad) (m : Int) : Bool := decide (chkR r n = 0 ∧ chkR s m = 0 ∧ (hasR r n s = true ∨ hasR s m r = true))

/-! ### Masks -/
theorem mk_eq {k : Nat} (h : k ≤ 64) : mk k = (2 ^ (64 - k) - 1) * 2 ^ k := by
  unfold mk
  have e : (2 : Nat) ^ (64 - k) * 2 ^ k = 18446744073709551616 := by rw [← Nat.pow_add, Nat.sub_add_cancel h]
  have h1 : 1 ≤ 2 ^ k := Nat.one_le_two_pow
  have h2 : 2 ^ k ≤ 18446744073709551616 := by rw [← e]; exact Nat.le_mul_of_pos_left _ (Nat.two_pow_pos _)
  rw [Nat.sub_mul, e, Nat.one_mul]
  generalize (2 : Nat) ^ k = p at *
  obtain ⟨q, rfl⟩ : ∃ q, p = q + 1 := ⟨p - 1, by omega⟩
  rw [Nat.mul_add]
  omega
theorem mk_lt (k : Nat) : mk k < 18446744073709551616 := Nat.mod_lt _ (by decide)
theorem mk_and {k x : Nat} (h : k ≤ 64) (hx : x < 18446744073709551616) : x &&& mk k = cl k x := by
  rw [mk_eq h]
  unfold cl
  apply Nat.eq_of_testBit_eq
  intro i
  rw [Nat.testBit_and, Nat.testBit_mul_two_pow, Nat.testBit_mul_two_pow, Nat.testBit_two_pow_sub_one, Nat.testBit_div_two_pow]
  by_cases h1 : k ≤ i
  · simp only [h1, decide_true, Bool.true_and]
    rw [Nat.sub_add_cancel h1]
    by_cases h2 : i < 64
    · rw [decide_eq_true (show i - k < 64 - k by omega), Bool.and_true]
    · have : x.testBit i = false := Nat.testBit_lt_two_pow (Nat.lt_of_lt_of_le hx (by
        have : (2 : Nat) ^ 64 ≤ 2 ^ i := Nat.pow_le_pow_right (by decide) (by omega)
        exact this))
      rw [this, Bool.false_and]
  · simp [h1]
theorem cl_le (k x : Nat) : cl k x ≤ x := Nat.div_mul_le_self _ _
theorem kH_le (six : Bool) (n : Nat) : kH six n ≤ 64 := by unfold kH; split <;> omega
theorem kL_le {six : Bool} {n : Nat} : kL six n ≤ 64 := by unfold kL; split <;> (try split) <;> omega
end Go.Proofs.YthlabpbplikjbaaDoor
namespace Go.Proofs.YthlabpbplikjbaaDoor
open Go.RowKit
set_option linter.unusedVariables false

theorem cl_cl {j k : Nat} (h : j ≤ k) (x : Nat) : cl k (cl j x) = cl k x := by
  unfold cl
  obtain ⟨d, rfl⟩ : ∃ d, k = j + d := ⟨k - j, by omega⟩
  rw [Nat.pow_add, ← Nat.div_div_eq_div_mul, ← Nat.div_div_eq_div_mul, Nat.mul_div_cancel _ (Nat.two_pow_pos j)]
/-- Less than the bits that were struck behind. -/
theorem cl_add {k x j : Nat} (h : cl k x = x) (hj : j < 2 ^ k) : cl k (x + j) = x := by
  unfold cl at h ⊢
  rw [← h, Nat.add_comm, Nat.add_mul_div_right _ _ (Nat.two_pow_pos k), Nat.div_eq_of_lt hj, Nat.zero_add]
theorem cl_room {k W x : Nat} (h : cl k x = x) (hk : k ≤ W) (hx : x < 2 ^ W) : x + 2 ^ k ≤ 2 ^ W := by
  obtain ⟨d, rfl⟩ : ∃ d, W = k + d := ⟨W - k, by omega⟩
  unfold cl at h
  rw [Nat.pow_add, Nat.mul_comm (2 ^ k)] at hx ⊢
  have h1 : x / 2 ^ k < 2 ^ d := Nat.div_lt_of_lt_mul (by rw [Nat.mul_comm]; exact hx)
  have h2 : (x / 2 ^ k + 1) * 2 ^ k ≤ 2 ^ d * 2 ^ k := Nat.mul_le_mul_right _ h1
  rw [Nat.add_mul, Nat.one_mul, h] at h2
  exact h2
theorem kH_mono {six : Bool} {m n : Nat} (h : m ≤ n) : kH six n ≤ kH six m := by unfold kH; split <;> omega
theorem kL_mono {six : Bool} {m n : Nat} (h : m ≤ n) : kL six n ≤ kL six m := by unfold kL; (repeat' split) <;> omega
theorem head_head {six : Bool} {m n : Nat} (h : m ≤ n) (a : Ad) : headR six m (headR six n a) = headR six m a := by
  unfold headR
  simp only [cl_cl (kH_mono h), cl_cl (kL_mono h)]
/-- What a range that may be is. -/
theorem chkR_yes {r : Ad} {n : Int} (h : chkR r n = 0) : chkA r = 0 ∧ ∃ b : Nat, n = b ∧ b ≤ widA r.1 ∧ headR r.1 b r = r := by
  unfold chkR at h
  split at h
  · cases h
  · rename_i hn
    simp only [not_or, Decidable.not_not] at hn
    obtain ⟨h1, h2, h3, h4⟩ := hn
    exact ⟨h1, n.toNat, by omega, by omega, h4⟩
theorem hasR_iff {r : Ad} {b : Nat} {a : Ad} (h : chkR r b = 0) : hasR r b a = true ↔ chkA a = 0 ∧ headR r.1 b a = r := by
  unfold hasR
  rw [decide_eq_true_iff, Int.toNat_natCast]
  exact ⟨fun x => x.2, fun x => ⟨h, x⟩⟩
theorem hasR_bad {r : Ad} {n : Int} (a : Ad) (h : chkR r n ≠ 0) : hasR r n a = false := by
  unfold hasR
  rw [decide_eq_false_iff_not]
  exact fun x => h x.1
theorem sizeR_yes {r : Ad} {b : Nat} (h : chkR r b = 0) : sizeR r b = 2 ^ min (widA r.1 - b) 16 := by
  unfold sizeR
  rw [if_pos h, Int.toNat_natCast]
theorem kL_min (six : Bool) (b : Nat) : min (widA six - b) 16 ≤ kL six b := by
  unfold widA kL
  (repeat' split) <;> omega
/-- The place j of a range that may be. -/
theorem place {r : Ad} {b : Nat} (hf : fitA r) (h : chkR r b = 0) {j : Nat} (hj : j < sizeR r b) :
    addA r j = ((r.1, r.2.1, r.2.2 + j), true) ∧ fitA (r.1, r.2.1, r.2.2 + j) ∧ chkA (r.1, r.2.1, r.2.2 + j) = 0 ∧ headR r.1 b (r.1, r.2.1, r.2.2 + j) = r ∧ offR r (r.1, r.2.1, r.2.2 + j) = j := by
  rw [sizeR_yes h] at hj
  obtain ⟨hc, b', e, hb, hh⟩ := chkR_yes h
  obtain rfl : b = b' := by omega
  obtain ⟨six, hi, lo⟩ := r
  have hk : cl (kL six b) lo = lo := congrArg (fun x : Ad => x.2.2) hh
  have hkh : cl (kH six b) hi = hi := congrArg (fun x : Ad => x.2.1) hh
  have hj2 : j < 2 ^ kL six b := Nat.lt_of_lt_of_le hj (Nat.pow_le_pow_right (by decide) (kL_min six b))
  have hlo : lo < 18446744073709551616 := hf.2
  have hhi : hi < 18446744073709551616 := hf.1
  have h64 : lo + j < 18446744073709551616 := by
    have := cl_room (W := 64) hk kL_le (by simpa using hlo)
    have e64 : (2 : Nat) ^ 64 = 18446744073709551616 := by decide
    omega
  have hchk : chkA (six, hi, lo + j) = 0 := by
    cases six
    · have hlo32 : hi = 0 ∧ lo < 4294967296 := by
        unfold chkA at hc
        simp only [true_and] at hc
        split at hc
        · cases hc
        · omega
      have := cl_room (W := 32) hk (by unfold kL; simp) (by simpa using hlo32.2)
      have e32 : (2 : Nat) ^ 32 = 4294967296 := by decide
      unfold chkA
      rw [if_neg]
      simp only [true_and]
      omega
    · unfold chkA
      simp
  have hsum : sumA (six, hi, lo) j = (six, hi, lo + j) := by
    unfold sumA
    simp only
    rw [Nat.div_eq_of_lt h64, Nat.add_zero, Nat.mod_eq_of_lt h64, Nat.mod_eq_of_lt hhi]
  refine ⟨?_, ⟨hhi, h64⟩, hchk, ?_, ?_⟩
  · unfold addA
    rw [if_neg (by rw [hc]; decide), if_neg, hsum]
    rw [hsum, hchk]
    simp only [Nat.div_eq_of_lt h64, Nat.add_zero, Nat.div_eq_of_lt hhi]
    simp
  · show (six, cl (kH six b) hi, cl (kL six b) (lo + j)) = (six, hi, lo)
    rw [hkh, cl_add hk hj2]
  · unfold offR
    simp only
    omega
theorem size_pos {r : Ad} {b : Nat} (h : chkR r b = 0) : 1 ≤ sizeR r b ∧ sizeR r b ≤ 65536 := by
  rw [sizeR_yes h]
  exact ⟨Nat.one_le_two_pow, Nat.pow_le_pow_right (n := 2) (j := 16) (by omega) (Nat.min_le_right _ _)⟩
/-- What has another one's place has its first one, too; the range with fewer bits leads. -/
theorem has_back {a b : Ad} {m n : Nat} (ha : chkR a m = 0) (hb : chkR b n = 0) (hmn : m ≤ n) : hasR b n a = true → hasR a m b = true := by
  intro h
  rw [hasR_iff hb] at h
  rw [hasR_iff ha]
  obtain ⟨hca, m', e, hm, hha⟩ := chkR_yes ha
  obtain rfl : m = m' := by omega
  obtain ⟨hcb, n', e', hn, hhb⟩ := chkR_yes hb
  have hk : a.1 = b.1 := by rw [← h.2]; rfl
  refine ⟨hcb, ?_⟩
  rw [← h.2, ← hk, head_head hmn, hha]
theorem meet_has {a b : Ad} {m n : Nat} (ha : chkR a m = 0) (hb : chkR b n = 0) (hmn : m ≤ n) : meetR a m b n = hasR a m b ∧ meetR b n a m = hasR a m b := by
  have h := has_back ha hb hmn
  unfold meetR
  cases e : hasR a m b <;> cases e' : hasR b n a <;> simp_all
theorem meet_bad {a b : Ad} {m n : Int} (h : chkR a m ≠ 0 ∨ chkR b n ≠ 0) : meetR a m b n = false := by
  unfold meetR
  rw [decide_eq_false_iff_not]
  rintro ⟨h1, h2, _⟩
  rcases h with h | h
  · exact h h1
  · exact h h2
/-- A place of the smaller one is the greater one's just if they meet. -/
theorem has_place {a b : Ad} {m n : Nat} (hf : fitA b) (ha : chkR a m = 0) (hb : chkR b n = 0) (hmn : m ≤ n) {j : Nat} (hj : j < sizeR b n) : hasR a m (b.1, b.2.1, b.2.2 + j) = hasR a m b := by
  obtain ⟨_, _, h3, h4, _⟩ := place hf hb hj
  have hcb := (chkR_yes hb).1
  rw [Bool.eq_iff_iff, hasR_iff ha, hasR_iff ha]
  by_cases hk : a.1 = b.1
  · have e : headR a.1 m (b.1, b.2.1, b.2.2 + j) = headR a.1 m b := by
      conv => rhs; rw [← h4]
      rw [← hk, head_head hmn]
    rw [e]
    exact ⟨fun x => ⟨hcb, x.2⟩, fun x => ⟨h3, x.2⟩⟩
  · constructor
    · rintro ⟨_, h⟩
      exact absurd (congrArg Prod.fst h).symm hk
    · rintro ⟨_, h⟩
      exact absurd (congrArg Prod.fst h).symm hk
/-- A place is found where it is. -/
theorem idx_place {r : Ad} {b : Nat} (hf : fitA r) (h : chkR r b = 0) {j : Nat} (hj : j < sizeR r b) : idxR r b (r.1, r.2.1, r.2.2 + j) = (j, true) := by
  obtain ⟨_, _, h3, h4, h5⟩ := place hf h hj
  have hh : hasR r b (r.1, r.2.1, r.2.2 + j) = true := (hasR_iff h).2 ⟨h3, h4⟩
  unfold idxR
  rw [h5, if_neg]
  rw [hh]
  simp only [Bool.true_eq_false, false_or, ne_eq, not_true_eq_false]
  omega
/-! ### Nesting -/
end Go.Proofs.YthlabpbplikjbaaDoor
namespace Go.Proofs.YthlabpbplikjbaaDoor
open Go.RowKit
set_option linter.unusedVariables false

/-- The narrower one of two ranges that meet. -/
def narR (r : Ad) (n : Int) (s : Ad) (m : Int) : Ad × Int := if m < n then (r, n) else (s, m)
def updA (M : Ad → Nat) (a : Ad) (v : Nat) : Ad → Nat := fun x => if x = a then v else M x
/-- What one more reserved range makes of the runs. -/
def stepR (r : Ad) (n : Int) (M : Ad → Nat) (o : Ad × Int) : Ad → Nat :=
  if meetR r n o.1 o.2 then updA M (narR r n o.1 o.2).1 (max (M (narR r n o.1 o.2).1) (sizeR (narR r n o.1 o.2).1 (narR r n o.1 o.2).2)) else M
/-- How long the runs are, by their first addresses. -/
def runsR (r : Ad) (n : Int) (L : List (Ad × Int)) : Ad → Nat := L.foldl (stepR r n) (fun _ => 0)
/-- Place j of a range. -/
def plR (r : Ad) (j : Nat) : Ad := (r.1, r.2.1, r.2.2 + j)

theorem step_lt {r : Ad} {n : Int} {M : Ad → Nat} {o : Ad × Int} {a : Ad} {v : Nat} :
    v < stepR r n M o a ↔ v < M a ∨ (meetR r n o.1 o.2 = true ∧ (narR r n o.1 o.2).1 = a ∧ v < sizeR (narR r n o.1 o.2).1 (narR r n o.1 o.2).2) := by
  unfold stepR
  by_cases h : meetR r n o.1 o.2 = true
  · rw [if_pos h]
    unfold updA
    by_cases ha : a = (narR r n o.1 o.2).1
    · subst ha
      rw [if_pos rfl, show ∀ x y : Nat, v < max x y ↔ v < x ∨ v < y from fun x y => by omega]
      simp [h]
    · rw [if_neg ha]
      simp [h, Ne.symm ha]
  · rw [if_neg h]
    simp [h]
theorem fold_lt {r : Ad} {n : Int} : ∀ (L : List (Ad × Int)) (M : Ad → Nat) {a : Ad} {v : Nat},
    v < L.foldl (stepR r n) M a ↔ v < M a ∨ ∃ o ∈ L, meetR r n o.1 o.2 = true ∧ (narR r n o.1 o.2).1 = a ∧ v < sizeR (narR r n o.1 o.2).1 (narR r n o.1 o.2).2
  | [], M, a, v => by simp
  | o :: L, M, a, v => by
    rw [List.foldl_cons, fold_lt L, step_lt]
    simp only [List.mem_cons, exists_eq_or_imp]
    exact or_assoc
theorem runs_lt {r : Ad} {n : Int} {L : List (Ad × Int)} {a : Ad} {v : Nat} :
    v < runsR r n L a ↔ ∃ o ∈ L, meetR r n o.1 o.2 = true ∧ (narR r n o.1 o.2).1 = a ∧ v < sizeR (narR r n o.1 o.2).1 (narR r n o.1 o.2).2 := by
  unfold runsR
  rw [fold_lt]
  simp

/-! ### Where a reserved range lies -/
theorem cl_less {j k x : Nat} (h : cl k x = x) (hjk : j ≤ k) : cl j x = x := by
  rw [← h]
  unfold cl
  obtain ⟨d, rfl⟩ := Nat.exists_eq_add_of_le hjk
  rw [Nat.pow_add, show x / (2 ^ j * 2 ^ d) * (2 ^ j * 2 ^ d) = (x / (2 ^ j * 2 ^ d) * 2 ^ d) * 2 ^ j by rw [Nat.mul_comm (2 ^ j) (2 ^ d), Nat.mul_assoc], Nat.mul_div_cancel _ (Nat.two_pow_pos j)]
theorem cl_sum {k x j : Nat} (h : cl k x = x) : cl k (x + j) = x + cl k j := by
  unfold cl at *
  obtain ⟨q, hq⟩ : ∃ q, x = q * 2 ^ k := ⟨_, h.symm⟩
  rw [hq, Nat.add_comm (q * 2 ^ k) j, Nat.add_mul_div_right _ _ (Nat.two_pow_pos k), Nat.add_mul, Nat.add_comm]
theorem cl_bd (k x : Nat) : cl k x ≤ x ∧ x < cl k x + 2 ^ k := by
  unfold cl
  have h1 := Nat.div_add_mod x (2 ^ k)
  have h2 := Nat.mod_lt x (Nat.two_pow_pos k)
  rw [Nat.mul_comm] at h1
  omega
theorem kL_size {six : Bool} {b : Nat} (h : widA six - b ≤ 16) : kL six b ≤ widA six - b := by
  unfold widA at *
  unfold kL
  cases six
  · simp at *
  · simp at *
    split <;> omega
/-- A reserved range has a place just if the two meet, and the place lies in the narrower one, which begins at a place. -/
theorem has_nar {r s : Ad} {b m : Int} (hf : fitA r) (hs : fitA s) (hr : chkR r b = 0) {j : Nat} (hj : j < sizeR r b) :
    hasR s m (plR r j) = true ↔ meetR r b s m = true ∧ ∃ k, k ≤ j ∧ (narR r b s m).1 = plR r k ∧ j < k + sizeR (narR r b s m).1 (narR r b s m).2 := by
  obtain ⟨_, b', rfl, hbw, hhr⟩ := chkR_yes hr
  by_cases hsm : chkR s m = 0
  · obtain ⟨hcs, m', rfl, hmw, hhs⟩ := chkR_yes hsm
    have hp0 : plR r 0 = r := rfl
    unfold narR
    by_cases hlt : (m' : Int) < b'
    · rw [if_pos hlt]
      have hle : m' ≤ b' := by omega
      have e1 : hasR s m' (plR r j) = hasR s m' r := has_place hf hsm hr hle hj
      have e2 := (meet_has hsm hr hle).2
      rw [e1, e2]
      exact ⟨fun h => ⟨h, 0, Nat.zero_le _, hp0.symm, by rw [Nat.zero_add]; exact hj⟩, fun h => h.1⟩
    · rw [if_neg hlt]
      have hle : b' ≤ m' := by omega
      have e2 := (meet_has hr hsm hle).1
      rw [e2]
      obtain ⟨_, _, hcp, hhp, _⟩ := place hf hr hj
      constructor
      · intro h
        have h' := (hasR_iff hsm).1 h
        have hk1 : s.1 = r.1 := by rw [← h'.2]; rfl
        have hs1 : headR r.1 m' (plR r j) = s := by rw [← hk1]; exact h'.2
        refine ⟨(hasR_iff hr).2 ⟨hcs, ?_⟩, cl (kL r.1 m') j, (cl_bd _ _).1, ?_, ?_⟩
        · rw [← hs1, head_head hle]
          exact hhp
        · rw [← hs1]
          have a1 : cl (kH r.1 b') r.2.1 = r.2.1 := congrArg (fun x : Ad => x.2.1) hhr
          have a2 : cl (kL r.1 b') r.2.2 = r.2.2 := congrArg (fun x : Ad => x.2.2) hhr
          show (r.1, cl (kH r.1 m') r.2.1, cl (kL r.1 m') (r.2.2 + j)) = (r.1, r.2.1, r.2.2 + cl (kL r.1 m') j)
          rw [cl_less a1 (kH_mono hle), cl_sum (cl_less a2 (kL_mono hle))]
        · have hc := cl_bd (kL r.1 m') j
          rw [sizeR_yes hsm, hk1]
          rcases Nat.lt_or_ge 16 (widA r.1 - m') with h16 | h16
          · rw [Nat.min_eq_right (by omega)]
            have := (size_pos hr).2
            omega
          · rw [Nat.min_eq_left h16]
            have := Nat.pow_le_pow_right (n := 2) (by decide) (kL_size h16)
            omega
      · rintro ⟨hm, k, hkj, hk, hlt2⟩
        dsimp only at hlt2
        obtain ⟨_, _, h3, h4, _⟩ := place hs hsm (j := j - k) (by omega)
        have hpe : plR r j = (s.1, s.2.1, s.2.2 + (j - k)) := by
          have e : s = plR r k := hk
          rw [e]
          unfold plR
          simp only [Prod.mk.injEq, true_and]
          omega
        rw [hpe]
        exact (hasR_iff hsm).2 ⟨h3, h4⟩
  · rw [hasR_bad _ hsm]
    have := meet_bad (a := r) (b := s) (m := (b' : Int)) (n := m) (.inr hsm)
    rw [this]
    simp
/-- A place is left just if none of the reserved ranges has it. -/
theorem left_iff {r : Ad} {b : Int} {L : List (Ad × Int)} (hf : fitA r) (hL : ∀ o ∈ L, fitA o.1) (hr : chkR r b = 0) {j : Nat} (hj : j < sizeR r b) :
    endF (fun i => runsR r b L (plR r i)) (j + 1) = j ↔ ∀ o ∈ L, hasR o.1 o.2 (plR r j) = false := by
  rw [endF_iff]
  constructor
  · intro h o ho
    rw [Bool.eq_false_iff]
    intro hh
    obtain ⟨hm, k, hkj, hk, hlt⟩ := (has_nar hf (hL o ho) hr hj).1 hh
    have h1 := h k hkj
    have h2 : j - k < runsR r b L (plR r k) := runs_lt.2 ⟨o, ho, hm, hk, by omega⟩
    omega
  · intro h k hk
    refine Nat.le_of_not_lt fun hlt => ?_
    obtain ⟨o, ho, hm, hn, hz⟩ := runs_lt.1 (show j - k < runsR r b L (plR r k) by omega)
    have := (has_nar hf (hL o ho) hr hj).2 ⟨hm, k, hk, hn, by omega⟩
    rw [h o ho] at this
    cases this
/-- What Free answers. -/
def freeR (r : Ad) (b : Int) (L : List (Ad × Int)) : Nat := ((List.range (sizeR r b)).filter fun j => L.all fun o => !hasR o.1 o.2 (plR r j)).length
theorem free_cnt {r : Ad} {b : Int} {L : List (Ad × Int)} (hf : fitA r) (hL : ∀ o ∈ L, fitA o.1) : freeR r b L = cntF (fun i => runsR r b L (plR r i)) (sizeR r b) := by
  by_cases hr : chkR r b = 0
  · rw [cntF_filter]
    unfold freeR
    congr 1
    apply List.filter_congr
    intro j hj
    rw [Bool.eq_iff_iff, decide_eq_true_iff, left_iff hf hL hr (List.mem_range.1 hj), List.all_eq_true]
    simp
  · have : sizeR r b = 0 := if_neg hr
    unfold freeR
    rw [this]
    rfl
theorem cntF_congr {m m' : Nat → Nat} : ∀ n, (∀ i, i < n → m i = m' i) → endF m n = endF m' n ∧ cntF m n = cntF m' n
  | 0, _ => ⟨rfl, rfl⟩
  | n + 1, h => by
    obtain ⟨h1, h2⟩ := cntF_congr n fun i hi => h i (by omega)
    have e : endF m (n + 1) = endF m' (n + 1) := by unfold endF; rw [h1, h n (by omega)]
    exact ⟨e, by unfold cntF; rw [h2, e]⟩
/-! ### Place by place -/
theorem addA_fit (a : Ad) (n : Nat) : fitA (addA a n).1 := by
  unfold addA
  split
  · unfold fitA noA; decide
  · split
    · unfold fitA noA; decide
    · unfold fitA sumA
      exact ⟨Nat.mod_lt _ (by decide), Nat.mod_lt _ (by decide)⟩
end Go.Proofs.YthlabpbplikjbaaDoor
namespace Go.Proofs.YthlabpbplikjbaaDoor
open Go.RowKit
set_option linter.unusedVariables false

def okP (r : Ad) (L : List (Ad × Int)) (j : Nat) : Bool := L.all fun o => !hasR o.1 o.2 (plR r j)
/-- How many of the first k places none has. -/
def cnP (r : Ad) (L : List (Ad × Int)) (k : Nat) : Nat := ((List.range k).filter (okP r L)).length
theorem cnP_le (r : Ad) (L : List (Ad × Int)) (k : Nat) : cnP r L k ≤ k := by
  unfold cnP
  exact Nat.le_trans (List.length_filter_le _ _) (by simp)
theorem free_cnP (r : Ad) (b : Int) (L : List (Ad × Int)) : freeR r b L = cnP r L (sizeR r b) := rfl
theorem size_chk {r : Ad} {b : Int} {j : Nat} (hj : j < sizeR r b) : chkR r b = 0 := by
  by_cases h : chkR r b = 0
  · exact h
  · have : sizeR r b = 0 := if_neg h
    omega
theorem at_pl {r : Ad} {b : Int} (hf : fitA r) {j : Nat} (hj : j < sizeR r b) : atR r b (j : Int) = (plR r j, true) := by
  have hr := size_chk hj
  obtain ⟨_, b', rfl, _, _⟩ := chkR_yes hr
  unfold atR
  rw [if_neg (by omega), Int.toNat_natCast, (place hf hr hj).1]
  rfl
theorem pl_fit {r : Ad} {b : Int} (hf : fitA r) {j : Nat} (hj : j < sizeR r b) : fitA (plR r j) := by
  have h := addA_fit r j
  have hr := size_chk hj
  obtain ⟨_, b', rfl, _, _⟩ := chkR_yes hr
  rw [(place hf hr hj).1] at h
  exact h
end Go.Proofs.YthlabpbplikjbaaDoor
