/-
  hash: sums and slots: the walks; the document's own. Condition: strings no longer than Go's own limit.
-/
import Derived.Test.YtmjhofgcfolelaaNmUse
import Derived.Test.YtmjhofgcfolelaaNmRefD
import Derived.IntWalk
namespace Go.Proofs.Ytmjhofgcfolelaa
open Go.RowKit
set_option linter.unusedVariables false

/-- A sum with an octet more. -/
def stepH (a : Int) (b : UInt8) : Int := IntKind.u64.wrap (bits BinOp.xor IntKind.u64 a (b.toNat : Int) * 1099511628211)
def moreH (a : Int) (l : List UInt8) : Int := l.foldl stepH a
theorem moreH_app (a : Int) (l m : List UInt8) : moreH a (l ++ m) = moreH (moreH a l) m := List.foldl_append
theorem moreH_take (a : Int) (s : ByteArray) (k : Nat) (h : k < s.size) : moreH a ((bs s).take (k + 1)) = stepH (moreH a ((bs s).take k)) s[k] := by
  rw [take_more s k h, moreH_app]
  rfl
theorem moreH_range (a : Int) (l : List UInt8) (h : 0 ≤ a ∧ a < 18446744073709551616) : 0 ≤ moreH a l ∧ moreH a l < 18446744073709551616 := by
  induction l generalizing a with
  | nil => exact h
  | cons b l ih => exact ih _ (by have := IntKind.wrap_u64 (bits BinOp.xor IntKind.u64 a (b.toNat : Int) * 1099511628211); unfold stepH; rw [this]; exact ⟨Int.emod_nonneg _ (by decide), Int.emod_lt_of_pos _ (by decide)⟩)

def MhRel (a : Int) (s : ByteArray) (w : World) (v i : Value) (wr : World) : Prop := ∃ k : Nat, i = .int .i64 k ∧ k ≤ s.size ∧ v = .int .u64 (moreH a ((bs s).take k)) ∧ Row wr w.heap.size (bs s) ∧ Below w.heap.size w wr

set_option maxRecDepth 100000 in
set_option maxHeartbeats 2000000 in
theorem More_any (a : Int) (s : ByteArray) (w : World) (hs : s.size ≤ maxLen) :
    Calls Try.prog 10 #[.int .u64 a, .string s] w fun e w' => e = .returned (.int .u64 (moreH a (bs s))) ∧ Below w.heap.size w w' := by
  have HM := Lib.hid hs
  unfold maxLen at hs
  go_enter Try.func10, Try.ntmps10
  go_wp2_with (refine wpList_bytes bt _ rfl _ rfl s rfl HM.out ?_; intro cap w1 hrow hb1 _ _ _; have HR0 : Hid (MhRel a s w (.int .u64 a) (.int .i64 0) w1) := Lib.hid ⟨0, rfl, Nat.zero_le _, by rw [List.take_zero]; rfl, hrow, hb1⟩; clear hrow hb1)
  go_loopw [4, 11] (fun v i wr => MhRel a s w v i wr) (fun v i _ => s.size - (intOf i).toNat)
  case atStart => exact HR0.out
  case round =>
    clear HR0
    obtain ⟨k, rfl, hk, rfl, hrow, hb⟩ := hrel
    by_cases hlt : k < s.size
    · have hc : wr.cell? ⟨w.heap.size, k, none⟩ = some (.int .u8 (s[k].toNat : Int)) := hrow.cell k (by rw [bs_length]; exact hlt)
      have hb8 := s[k].toNat_lt
      have hu : IntKind.u64.wrap (s[k].toNat : Int) = (s[k].toNat : Int) := by rw [IntKind.wrap_u64]; omega
      have HE := Lib.hid (moreH_take a s k hlt)
      have HR := Lib.hid hrow
      clear hrow
      go_wp2
      go_roundw
      case rel => exact ⟨k + 1, by go_num, hlt, by rw [HE.out]; rfl, HR.out, hb⟩
      case measure => simp [intOf]; omega
    · have hge : ¬ (k : Int) < s.size := by omega
      have e : (bs s).take k = bs s := List.take_of_length_le (by rw [bs_length]; omega)
      rw [e]
      go_wp2
      go_ret
      exact ⟨rfl, hb⟩

/-! ### The sum, a name's, its slot -/
theorem foldN_le (l : List UInt8) : (foldN l).length ≤ l.length := by
  unfold foldN
  split
  · rw [fold_length]; exact Nat.le_refl _
  · exact Nat.zero_le _
def h0 : Int := 14695981039346656037
def sumH (l : List UInt8) : Int := moreH h0 l
def nameH (l : List UInt8) : Int := sumH (foldN l)
def slotH (l : List UInt8) (k : Int) : Int := if k < 1 then 0 else nameH l % k
theorem sumH_range (l : List UInt8) : 0 ≤ sumH l ∧ sumH l < 18446744073709551616 := moreH_range _ l (by decide)
theorem nameH_range (l : List UInt8) : 0 ≤ nameH l ∧ nameH l < 18446744073709551616 := sumH_range _
theorem slotH_range (l : List UInt8) {k : Int} (h : 1 ≤ k) : 0 ≤ slotH l k ∧ slotH l k < k := by
  unfold slotH
  rw [if_neg (by omega)]
  exact ⟨Int.emod_nonneg _ (by omega), Int.emod_lt_of_pos _ (by omega)⟩

theorem gMore (a : Int) {s : ByteArray} (hs : s.size ≤ maxLen) {v : Int} (h : moreH a (bs s) = v) : Gives 10 #[.int .u64 a, .string s] (.int .u64 v) := fun w => by
  rw [← h]
  exact More_any a s w hs
theorem gSum {s : ByteArray} (hs : s.size ≤ maxLen) {v : Int} (h : sumH (bs s) = v) : Gives 11 #[.string s] (.int .u64 v) := fun w => by
  have hm := Lib.hid (gMore 14695981039346656037 hs h)
  go_enter Try.func11, Try.ntmps11
  go_wp2_with fail
  refine (hm.out.go _).mono ?_
  rintro e w' ⟨rfl, hb⟩
  go_wp2
  go_ret
  exact ⟨rfl, hb⟩
theorem gName {n : ByteArray} (hs : n.size ≤ maxLen) {v : Int} (h : nameH (bs n) = v) : Gives 12 #[.string n] (.int .u64 v) := fun w => by
  obtain ⟨F, hF⟩ : ∃ F : ByteArray, foldN (bs n) = bs F := ⟨_, (bs_mk _).symm⟩
  have hl : F.size ≤ maxLen := by
    have e : F.size = (foldN (bs n)).length := by rw [hF, bs_length]
    have := foldN_le (bs n)
    rw [bs_length] at this
    rw [e]
    exact Nat.le_trans this hs
  have h1 := Lib.hid (gFold hs hF)
  have h2 := Lib.hid (gSum (s := F) hl (v := v) (by rw [← hF]; exact h))
  clear hF h
  go_enter Try.func12, Try.ntmps12
  go_wp2_with fail
  refine (h1.out.go _).mono ?_
  rintro e w1 ⟨rfl, hb⟩
  go_wp2_with fail
  refine (h2.out.go _).mono ?_
  rintro e w2 ⟨rfl, hb2⟩
  go_wp2
  go_ret
  exact ⟨rfl, next hb hb2⟩
theorem gSlot {n : ByteArray} (hs : n.size ≤ maxLen) {k : Int} (hk : k ≤ 9223372036854775807) {v : Int} (h : slotH (bs n) k = v) : Gives 13 #[.string n, .int .i64 k] (.int .i64 v) := fun w => by
  subst h
  by_cases h1 : k < 1
  · have e : slotH (bs n) k = 0 := if_pos h1
    rw [e]
    go_enter Try.func13, Try.ntmps13
    go_wp2
    go_ret
    exact ⟨rfl, Below.refl _ _⟩
  · have e : slotH (bs n) k = nameH (bs n) % k := if_neg h1
    obtain ⟨r0, r1⟩ := slotH_range (bs n) (k := k) (by omega)
    obtain ⟨m0, m1⟩ := nameH_range (bs n)
    rw [e] at r0 r1 ⊢
    obtain ⟨m, hm⟩ : ∃ m, nameH (bs n) = m := ⟨_, rfl⟩
    rw [hm] at r0 r1 m0 m1 ⊢
    have g1 := Lib.hid (gName hs hm)
    have u1 : IntKind.u64.wrap k = k := by rw [IntKind.wrap_u64]; omega
    have u2 : IntKind.i64.wrap (m % k) = m % k := IntWalk.i64_in _ (by omega)
    have hz : ¬ k = 0 := by omega
    clear hm e
    go_enter Try.func13, Try.ntmps13
    go_wp2_with fail
    refine (g1.out.go _).mono ?_
    rintro e w1 ⟨rfl, hb⟩
    go_wp2
    go_ret
    exact ⟨rfl, hb⟩

/-! ### The document's own -/
def RhRel (a : Int) (s : ByteArray) (w : World) (v i : Value) (wr : World) : Prop := ∃ k : Nat, i = .int .i64 k ∧ k ≤ s.size ∧ v = .int .u64 (moreH a ((bs s).take k)) ∧ Below w.heap.size w wr

set_option maxRecDepth 100000 in
set_option maxHeartbeats 2000000 in
theorem rMore_any (a : Int) (s : ByteArray) (w : World) (hs : s.size ≤ maxLen) :
    Calls Try.prog 15 #[.int .u64 a, .string s] w fun e w' => e = .returned (.int .u64 (moreH a (bs s))) ∧ Below w.heap.size w w' := by
  unfold maxLen at hs
  have HR0 : Hid (RhRel a s w (.int .u64 a) (.int .i64 0) w) := Lib.hid ⟨0, rfl, Nat.zero_le _, by rw [List.take_zero]; rfl, Below.refl _ _⟩
  go_enter Try.func15, Try.ntmps15
  go_wp2
  go_loopw [0, 5] (fun v i wr => RhRel a s w v i wr) (fun v i _ => s.size - (intOf i).toNat)
  case atStart => exact HR0.out
  case round =>
    clear HR0
    obtain ⟨k, rfl, hk, rfl, hb⟩ := hrel
    by_cases hlt : k < s.size
    · have hb8 := s[k].toNat_lt
      have hu : IntKind.u64.wrap (s[k].toNat : Int) = (s[k].toNat : Int) := by rw [IntKind.wrap_u64]; omega
      have HE := Lib.hid (moreH_take a s k hlt)
      have i1 : (k : Int) < s.size := by omega
      go_wp2
      go_roundw
      case rel => exact ⟨k + 1, by go_num, hlt, by rw [HE.out]; rfl, hb⟩
      case measure => simp [intOf]; omega
    · have hge : ¬ (k : Int) < s.size := by omega
      have e : (bs s).take k = bs s := List.take_of_length_le (by rw [bs_length]; omega)
      rw [e]
      go_wp2
      go_ret
      exact ⟨rfl, hb⟩
theorem gRMore (a : Int) {s : ByteArray} (hs : s.size ≤ maxLen) {v : Int} (h : moreH a (bs s) = v) : Gives 15 #[.int .u64 a, .string s] (.int .u64 v) := fun w => by
  rw [← h]
  exact rMore_any a s w hs
theorem gRSum {s : ByteArray} (hs : s.size ≤ maxLen) {v : Int} (h : sumH (bs s) = v) : Gives 14 #[.string s] (.int .u64 v) := fun w => by
  have hm := Lib.hid (gRMore 14695981039346656037 hs h)
  go_enter Try.func14, Try.ntmps14
  go_wp2_with fail
  refine (hm.out.go _).mono ?_
  rintro e w' ⟨rfl, hb⟩
  go_wp2
  go_ret
  exact ⟨rfl, hb⟩
theorem gRName {n : ByteArray} (hs : n.size ≤ maxLen) {v : Int} (h : nameH (bs n) = v) : Gives 16 #[.string n] (.int .u64 v) := fun w => by
  obtain ⟨F, hF⟩ : ∃ F : ByteArray, F = ⟨(foldN (bs n)).toArray⟩ := ⟨_, rfl⟩
  have hFb : foldN (bs n) = bs F := by rw [hF]; exact (bs_mk _).symm
  have hl : F.size ≤ maxLen := by
    have e : F.size = (foldN (bs n)).length := by rw [hFb, bs_length]
    have := foldN_le (bs n)
    rw [bs_length] at this
    rw [e]
    exact Nat.le_trans this hs
  have h1 := Lib.hid fun wx => rnFold_any n wx hs
  rw [← hF] at h1
  have h2 := Lib.hid (gRSum (s := F) hl (v := v) (by rw [← hFb]; exact h))
  clear hF hFb h
  go_enter Try.func16, Try.ntmps16
  go_wp2_with fail
  refine (h1.out _).mono ?_
  rintro e w1 ⟨rfl, hb⟩
  go_wp2_with fail
  refine (h2.out.go _).mono ?_
  rintro e w2 ⟨rfl, hb2⟩
  go_wp2
  go_ret
  exact ⟨rfl, next hb hb2⟩
theorem gRSlot {n : ByteArray} (hs : n.size ≤ maxLen) {k : Int} (hk : k ≤ 9223372036854775807) {v : Int} (h : slotH (bs n) k = v) : Gives 17 #[.string n, .int .i64 k] (.int .i64 v) := fun w => by
  subst h
  by_cases h1 : k < 1
  · have e : slotH (bs n) k = 0 := if_pos h1
    rw [e]
    go_enter Try.func17, Try.ntmps17
    go_wp2
    go_ret
    exact ⟨rfl, Below.refl _ _⟩
  · have e : slotH (bs n) k = nameH (bs n) % k := if_neg h1
    obtain ⟨r0, r1⟩ := slotH_range (bs n) (k := k) (by omega)
    obtain ⟨m0, m1⟩ := nameH_range (bs n)
    rw [e] at r0 r1 ⊢
    obtain ⟨m, hm⟩ : ∃ m, nameH (bs n) = m := ⟨_, rfl⟩
    rw [hm] at r0 r1 m0 m1 ⊢
    have g1 := Lib.hid (gRName hs hm)
    have u1 : IntKind.u64.wrap k = k := by rw [IntKind.wrap_u64]; omega
    have u2 : IntKind.i64.wrap (m % k) = m % k := IntWalk.i64_in _ (by omega)
    have hz : ¬ k = 0 := by omega
    clear hm e
    go_enter Try.func17, Try.ntmps17
    go_wp2_with fail
    refine (g1.out.go _).mono ?_
    rintro e w1 ⟨rfl, hb⟩
    go_wp2
    go_ret
    exact ⟨rfl, hb⟩

/-- The chapter's examples. -/
theorem lives13 : Gives 8 #[] (.bool true) := fun w => by
  have h1 := Lib.hid (gSum (s := ⟨#[]⟩) (v := 14695981039346656037) (by decide) (by decide +kernel))
  have h2 := Lib.hid (gSum (s := ⟨#[97]⟩) (v := 12638187200555641996) (by decide) (by decide +kernel))
  go_enter Try.func8, Try.ntmps8
  go_wp2_with fail
  refine (h1.out.go _).mono ?_
  rintro e w1 ⟨rfl, hb⟩
  go_wp2_with fail
  refine (h2.out.go _).mono ?_
  rintro e w2 ⟨rfl, hb2⟩
  go_wp2
  go_ret
  exact ⟨rfl, next hb hb2⟩
end Go.Proofs.Ytmjhofgcfolelaa
