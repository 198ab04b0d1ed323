/-
  The walk of the law AddrNames: the chapter's examples, one by one. Conditions: as each theorem names them.
-/
import Derived.Deep.QuietTactic
import Derived.BigQuiet
import Derived.Test.YtpaocfjpnajonaaGreatDoorAdUse
namespace Go.Proofs.YtpaocfjpnajonaaGreatDoor
open Go.RowKit
set_option linter.unusedVariables false

def badT : List ByteArray := [(⟨#[]⟩ : ByteArray), (⟨#[49, 46, 50, 46, 51]⟩ : ByteArray), (⟨#[49, 46, 50, 46, 51, 46, 50, 53, 54]⟩ : ByteArray), (⟨#[48, 49, 46, 50, 46, 51, 46, 52]⟩ : ByteArray), (⟨#[49, 46, 50, 46, 51, 46, 52, 46]⟩ : ByteArray), (⟨#[49, 58, 50]⟩ : ByteArray), (⟨#[49, 58, 58, 50, 58, 58, 51]⟩ : ByteArray), (⟨#[58, 58, 58]⟩ : ByteArray), (⟨#[49, 50, 51, 52, 53, 58, 58]⟩ : ByteArray), (⟨#[49, 58, 50, 58, 51, 58, 52, 58, 53, 58, 54, 58, 55, 58, 56, 58, 57]⟩ : ByteArray), (⟨#[49, 58, 50, 58, 51, 58, 52, 58, 53, 58, 54, 58, 55, 58, 56, 58, 58]⟩ : ByteArray), (⟨#[103, 58, 58]⟩ : ByteArray), (⟨#[49, 46, 50, 46, 51, 46, 52, 58, 58]⟩ : ByteArray), (⟨#[58, 58, 49, 46, 50, 46, 51]⟩ : ByteArray), (⟨#[58, 49, 58, 50, 58, 51, 58, 52, 58, 53, 58, 54, 58, 55]⟩ : ByteArray), (⟨#[49, 58, 50, 58, 51, 58, 52, 58, 53, 58, 54, 58, 55, 58]⟩ : ByteArray)]
theorem badT_no : ∀ x ∈ badT, rdA (bs x) = (noA, 7) := by decide +kernel
theorem badT_sz : ∀ x ∈ badT, x.size ≤ 900000 := by decide +kernel
theorem badT_len : badT.length = 16 := rfl
theorem nm_f1 : GG 15 #[.string ⟨#[58, 58]⟩] (.tuple #[.agg #[.bool true, .int .u64 0, .int .u64 0], .int .i64 0]) := gRd (a := (true, 0, 0)) (e := 0) (by decide) (by decide +kernel)
theorem nm_f2 : GG 15 #[.string ⟨#[48, 58, 48, 58, 48, 58, 48, 58, 48, 58, 70, 70, 70, 70, 58, 49, 46, 50, 46, 51, 46, 52]⟩] (.tuple #[.agg #[.bool true, .int .u64 0, .int .u64 281470698652420], .int .i64 0]) := gRd (a := (true, 0, 281470698652420)) (e := 0) (by decide) (by decide +kernel)
theorem nm_f3 : GG 15 #[.string ⟨#[49, 58, 50, 58, 51, 58, 52, 58, 53, 58, 54, 58, 55, 58, 58]⟩] (.tuple #[.agg #[.bool true, .int .u64 281483566841860, .int .u64 1407400653815808], .int .i64 0]) := gRd (a := (true, 281483566841860, 1407400653815808)) (e := 0) (by decide) (by decide +kernel)
theorem nm_f4 : GG 16 #[.agg #[.bool true, .int .u64 0, .int .u64 281470698652420]] (.tuple #[.string ⟨#[58, 58, 102, 102, 102, 102, 58, 49, 48, 50, 58, 51, 48, 52]⟩, .int .i64 0]) := gTx (a := (true, 0, 281470698652420)) (x := ⟨#[58, 58, 102, 102, 102, 102, 58, 49, 48, 50, 58, 51, 48, 52]⟩) (e := 0) ⟨by decide, by decide⟩ (by decide +kernel)
theorem nm_f5 : GG 16 #[.agg #[.bool true, .int .u64 281483566841860, .int .u64 1407400653815808]] (.tuple #[.string ⟨#[49, 58, 50, 58, 51, 58, 52, 58, 53, 58, 54, 58, 55, 58, 48]⟩, .int .i64 0]) := gTx (a := (true, 281483566841860, 1407400653815808)) (x := ⟨#[49, 58, 50, 58, 51, 58, 52, 58, 53, 58, 54, 58, 55, 58, 48]⟩) (e := 0) ⟨by decide, by decide⟩ (by decide +kernel)
theorem nm_f6 : GG 16 #[.agg #[.bool true, .int .u64 0, .int .u64 0]] (.tuple #[.string ⟨#[58, 58]⟩, .int .i64 0]) := gTx (a := (true, 0, 0)) (x := ⟨#[58, 58]⟩) (e := 0) ⟨by decide, by decide⟩ (by decide +kernel)
theorem nm_f7 : GG 18 #[.int .u8 255, .int .u8 255, .int .u8 255, .int .u8 254] (.agg #[.bool false, .int .u64 0, .int .u64 4294967294]) := gFr 255 255 255 254
theorem nm_f8 : GG 17 #[.agg #[.bool false, .int .u64 0, .int .u64 4294967294], .int .u64 1] (.tuple #[.agg #[.bool false, .int .u64 0, .int .u64 4294967295], .bool true]) := gAd (a := (false, 0, 4294967294)) (n := 1) (b := (false, 0, 4294967295)) (is := true) ⟨by decide, by decide⟩ (by decide) (by decide +kernel)
theorem nm_f9 : GG 17 #[.agg #[.bool false, .int .u64 0, .int .u64 4294967295], .int .u64 1] (.tuple #[.agg #[.bool false, .int .u64 0, .int .u64 0], .bool false]) := gAd (a := (false, 0, 4294967295)) (n := 1) (b := (false, 0, 0)) (is := false) ⟨by decide, by decide⟩ (by decide) (by decide +kernel)
theorem nm_f10 : GG 17 #[.agg #[.bool true, .int .u64 0, .int .u64 18446744073709551615], .int .u64 1] (.tuple #[.agg #[.bool true, .int .u64 1, .int .u64 0], .bool true]) := gAd (a := (true, 0, 18446744073709551615)) (n := 1) (b := (true, 1, 0)) (is := true) ⟨by decide, by decide⟩ (by decide) (by decide +kernel)
theorem nm_f11 : GG 17 #[.agg #[.bool true, .int .u64 18446744073709551615, .int .u64 18446744073709551615], .int .u64 1] (.tuple #[.agg #[.bool false, .int .u64 0, .int .u64 0], .bool false]) := gAd (a := (true, 18446744073709551615, 18446744073709551615)) (n := 1) (b := (false, 0, 0)) (is := false) ⟨by decide, by decide⟩ (by decide) (by decide +kernel)
theorem nm_f12 : GG 19 #[.agg #[.bool true, .int .u64 0, .int .u64 171]] (.tuple #[.string ⟨#[1, 98, 1, 97, 1, 48, 1, 48, 1, 48, 1, 48, 1, 48, 1, 48, 1, 48, 1, 48, 1, 48, 1, 48, 1, 48, 1, 48, 1, 48, 1, 48, 1, 48, 1, 48, 1, 48, 1, 48, 1, 48, 1, 48, 1, 48, 1, 48, 1, 48, 1, 48, 1, 48, 1, 48, 1, 48, 1, 48, 1, 48, 1, 48, 3, 105, 112, 54, 4, 97, 114, 112, 97]⟩, .int .i64 0]) := gRv (a := (true, 0, 171)) (x := ⟨#[1, 98, 1, 97, 1, 48, 1, 48, 1, 48, 1, 48, 1, 48, 1, 48, 1, 48, 1, 48, 1, 48, 1, 48, 1, 48, 1, 48, 1, 48, 1, 48, 1, 48, 1, 48, 1, 48, 1, 48, 1, 48, 1, 48, 1, 48, 1, 48, 1, 48, 1, 48, 1, 48, 1, 48, 1, 48, 1, 48, 1, 48, 1, 48, 3, 105, 112, 54, 4, 97, 114, 112, 97]⟩) (e := 0) ⟨by decide, by decide⟩ (by decide +kernel)
theorem nm_f13 : GG 20 #[.string ⟨#[1, 52, 1, 51, 1, 50, 1, 49, 7, 73, 78, 45, 97, 100, 100, 114, 4, 97, 114, 112, 97]⟩] (.tuple #[.agg #[.bool false, .int .u64 0, .int .u64 16909060], .bool true]) := gBk (a := (false, 0, 16909060)) (b := true) (by decide) (by decide +kernel)
theorem nm_f14 : GG 20 #[.string ⟨#[2, 48, 52, 1, 51, 1, 50, 1, 49, 7, 105, 110, 45, 97, 100, 100, 114, 4, 97, 114, 112, 97]⟩] (.tuple #[.agg #[.bool false, .int .u64 0, .int .u64 0], .bool false]) := gBk (a := (false, 0, 0)) (b := false) (by decide) (by decide +kernel)
theorem nm_f15 : GG 18 #[.int .u8 255, .int .u8 255, .int .u8 255, .int .u8 255] (.agg #[.bool false, .int .u64 0, .int .u64 4294967295]) := gFr 255 255 255 255
theorem nm_f16 : GG 18 #[.int .u8 1, .int .u8 2, .int .u8 3, .int .u8 4] (.agg #[.bool false, .int .u64 0, .int .u64 16909060]) := gFr 1 2 3 4
theorem nm_f18 : GG 18 #[.int .u8 9, .int .u8 9, .int .u8 9, .int .u8 9] (.agg #[.bool false, .int .u64 0, .int .u64 151587081]) := gFr 9 9 9 9
theorem nm_f17 : GG 21 #[.agg #[.bool false, .int .u64 0, .int .u64 4294967296]] (.int .i64 2) := gCk (a := (false, 0, 4294967296)) (e := 2) ⟨by decide, by decide⟩ (by decide)
theorem nm_f19 : GG 22 #[.agg #[.bool false, .int .u64 0, .int .u64 151587081], .agg #[.bool true, .int .u64 0, .int .u64 0]] (.int .i64 (-1)) := gCm (a := (false, 0, 151587081)) (b := (true, 0, 0)) (c := -1) ⟨by decide, by decide⟩ ⟨by decide, by decide⟩ (by decide)
def lexL (md : Region.Mode) (ops : Array Oper) : Nat → List Oper → Bool
  | _, [] => true
  | k, o :: rest => (o.after.all fun e => !Region.binds md e || Nat.blt e.on k) && (rest.all fun oj => (oj.after.any fun e => Region.binds md e && e.on == k) || o.apart ops oj) && lexL md ops (k + 1) rest

theorem lexFrom_of {md : Region.Mode} {ops : Array Oper} : ∀ (l : List Oper) (k : Nat) (listed : Array Bool), (∀ j, l[j]? = ops[k + j]?) → k + l.length = ops.size →
    (∀ i, i < ops.size → listed[i]? = some (decide (i < k))) → lexL md ops k l = true → Region.lexFrom md ops l.length k listed = true
  | [], k, listed, _, hk, hd, _ => by
    simp only [List.length_nil, Nat.add_zero] at hk
    simp only [List.length_nil, Region.lexFrom, Region.ready, List.isEmpty_iff, List.filter_eq_nil_iff, List.mem_range]
    intro i hi
    rw [Array.getD_eq_getD_getElem?, hd i hi]
    have : i < k := by omega
    simp [this]
  | o :: rest, k, listed, hl, hk, hd, h => by
    have h0 : ops[k]? = some o := by simpa using (hl 0).symm
    simp only [List.length_cons] at hk
    have hks : k < ops.size := by omega
    simp only [lexL, Bool.and_eq_true] at h
    obtain ⟨⟨ha, hf⟩, hr⟩ := h
    simp only [List.length_cons, Region.lexFrom, Bool.and_eq_true]
    refine ⟨⟨?_, ?_⟩, ?_⟩
    · rw [List.contains_iff_mem]
      simp only [Region.ready, List.mem_filter, List.mem_range]
      refine ⟨hks, ?_⟩
      rw [Array.getD_eq_getD_getElem?, hd k hks, h0]
      simp only [Option.getD_some, Nat.lt_irrefl, decide_false, Bool.not_false, Bool.true_and, Option.map_some]
      rw [Array.all_eq_true_iff_forall_mem] at ha ⊢
      intro e he
      have := ha e he
      rw [Bool.or_eq_true] at this ⊢
      refine this.imp id fun hb => ?_
      have hlt : e.on < k := by simpa [Nat.blt_eq] using hb
      rw [Array.getD_eq_getD_getElem?, hd _ (by omega)]
      simp [hlt]
    · simp only [Region.free, h0, List.all_eq_true, List.mem_range]
      intro j hj
      rw [Array.getD_eq_getD_getElem?, hd j hj]
      by_cases hjk : j = k
      · simp [hjk]
      by_cases hlt : j < k
      · simp [hlt]
      obtain ⟨m, rfl⟩ : ∃ m, j = k + (m + 1) := ⟨j - k - 1, by omega⟩
      have hm := hl (m + 1)
      rw [List.getElem?_cons_succ] at hm
      rw [← hm]
      have hml : m < rest.length := by omega
      rw [List.getElem?_eq_getElem hml]
      have := List.all_eq_true.1 hf _ (List.getElem_mem hml)
      simp only [Bool.or_eq_true] at this ⊢
      exact Or.inr this
    · refine lexFrom_of rest (k + 1) _ (fun j => ?_) (by omega) (fun i hi => ?_) hr
      · have := hl (j + 1)
        rw [List.getElem?_cons_succ] at this
        rw [this]
        congr 1
        omega
      · by_cases hik : i = k
        · subst hik
          have hs : i < listed.size := by
            rcases Nat.lt_or_ge i listed.size with h | h
            · exact h
            · have := hd i hi
              rw [Array.getElem?_eq_none h] at this
              exact absurd this (by simp)
          rw [Array.getElem?_setIfInBounds_self_of_lt hs]
          simp
        · rw [Array.getElem?_setIfInBounds_ne (Ne.symm hik), hd i hi]
          congr 1
          simp only [decide_eq_decide]
          omega

theorem lexB_of {md : Region.Mode} {l : List Oper} (hs : Region.noSelect l.toArray = true) (h : lexL md l.toArray 0 l = true) : Region.lexB md l.toArray = true := by
  simp only [Region.lexB, Bool.and_eq_true]
  refine ⟨hs, ?_⟩
  have := lexFrom_of (md := md) (ops := l.toArray) l 0 (Array.replicate l.toArray.size false) (fun j => by simp) (by simp) (fun i hi => by simp at hi; simp [hi]) h
  simpa using this

theorem wp_region_class {P : Program} {Ix : Type} (f : Ix → World) {id : Nat} {Q : Exit → Act → World → Prop} {a : Act} {w : World} {l : List Oper} (hm : P.follows .mixedOrders = true) (hB : Region.lexB .any l.toArray = true) (i0 : Ix) (h0 : w.drew = f i0)
    (h : wpQuiet P l.toArray (fun w' => ∃ n, w' = f n) (fun a' => ∀ w', (∃ n, w' = f n) → Q .normal a' w') l a) : (Code.region id l.toArray true).wp P Q a w :=
  wp_region_quiet (C := fun w' => ∃ n, w' = f n) hm hB ⟨i0, h0⟩ (by simpa using h)
def NmsRel (w0 : World) (i : Value) (wr : World) : Prop := ∃ k : Nat, i = .int .i64 k ∧ k ≤ 16 ∧ Below w0.heap.size w0 wr
set_option maxRecDepth 100000 in
set_option maxHeartbeats 8000000 in
theorem AddrNames_walk (w : World) (hG : Ground w) : Calls Tryz.prog 3 #[] w fun e w' => e = .returned (.bool true) ∧ Below w.heap.size w w' := by
  have HGw := Lib.hid hG
  obtain ⟨R, hR⟩ : ∃ R : ByteArray, R = ⟨#[1, 98, 1, 97, 1, 48, 1, 48, 1, 48, 1, 48, 1, 48, 1, 48, 1, 48, 1, 48, 1, 48, 1, 48, 1, 48, 1, 48, 1, 48, 1, 48, 1, 48, 1, 48, 1, 48, 1, 48, 1, 48, 1, 48, 1, 48, 1, 48, 1, 48, 1, 48, 1, 48, 1, 48, 1, 48, 1, 48, 1, 48, 1, 48, 3, 105, 112, 54, 4, 97, 114, 112, 97]⟩ := ⟨_, rfl⟩
  have HV : Hid (GG 19 #[.agg #[.bool true, .int .u64 0, .int .u64 171]] (.tuple #[.string R, .int .i64 0])) := Lib.hid (by rw [hR]; exact nm_f12)
  have hR8 : ((R.extract 0 8).toList == [1, 98, 1, 97, 1, 48, 1, 48]) = true := by rw [hR]; decide +kernel
  have hRs : (R.size : Int) = 73 := by rw [hR]; rfl
  clear hG hR
  go_enter Tryz.func3, Tryz.ntmps3
  go_wp2_with (first | (go_at_call 14; (with_reducible refine (lives4.go _ HGw.out).mono ?_); rintro e w1 ⟨rfl, hb1⟩; have HB1 := Lib.hid hb1; clear hb1) | fail)
  obtain ⟨w0, hw0⟩ : ∃ w0, w0 = w1.alloc (.cells #[.string ⟨#[]⟩, .string ⟨#[49, 46, 50, 46, 51]⟩, .string ⟨#[49, 46, 50, 46, 51, 46, 50, 53, 54]⟩, .string ⟨#[48, 49, 46, 50, 46, 51, 46, 52]⟩, .string ⟨#[49, 46, 50, 46, 51, 46, 52, 46]⟩, .string ⟨#[49, 58, 50]⟩, .string ⟨#[49, 58, 58, 50, 58, 58, 51]⟩, .string ⟨#[58, 58, 58]⟩, .string ⟨#[49, 50, 51, 52, 53, 58, 58]⟩, .string ⟨#[49, 58, 50, 58, 51, 58, 52, 58, 53, 58, 54, 58, 55, 58, 56, 58, 57]⟩, .string ⟨#[49, 58, 50, 58, 51, 58, 52, 58, 53, 58, 54, 58, 55, 58, 56, 58, 58]⟩, .string ⟨#[103, 58, 58]⟩, .string ⟨#[49, 46, 50, 46, 51, 46, 52, 58, 58]⟩, .string ⟨#[58, 58, 49, 46, 50, 46, 51]⟩, .string ⟨#[58, 49, 58, 50, 58, 51, 58, 52, 58, 53, 58, 54, 58, 55]⟩, .string ⟨#[49, 58, 50, 58, 51, 58, 52, 58, 53, 58, 54, 58, 55, 58]⟩] 9) := ⟨_, rfl⟩
  have HB0 : Hid (Below w.heap.size w w0) := Lib.hid (by rw [hw0]; exact HB1.out.alloc HB1.out.size _)
  have HG := Lib.hid (HGw.out.next HB0.out)
  have HL0 : Hid (Lies w0 w1.heap.size 9 (badT.map Value.string).toArray) := Lib.hid (by rw [hw0]; exact Lies.new w1 9 #[.string ⟨#[]⟩, .string ⟨#[49, 46, 50, 46, 51]⟩, .string ⟨#[49, 46, 50, 46, 51, 46, 50, 53, 54]⟩, .string ⟨#[48, 49, 46, 50, 46, 51, 46, 52]⟩, .string ⟨#[49, 46, 50, 46, 51, 46, 52, 46]⟩, .string ⟨#[49, 58, 50]⟩, .string ⟨#[49, 58, 58, 50, 58, 58, 51]⟩, .string ⟨#[58, 58, 58]⟩, .string ⟨#[49, 50, 51, 52, 53, 58, 58]⟩, .string ⟨#[49, 58, 50, 58, 51, 58, 52, 58, 53, 58, 54, 58, 55, 58, 56, 58, 57]⟩, .string ⟨#[49, 58, 50, 58, 51, 58, 52, 58, 53, 58, 54, 58, 55, 58, 56, 58, 58]⟩, .string ⟨#[103, 58, 58]⟩, .string ⟨#[49, 46, 50, 46, 51, 46, 52, 58, 58]⟩, .string ⟨#[58, 58, 49, 46, 50, 46, 51]⟩, .string ⟨#[58, 49, 58, 50, 58, 51, 58, 52, 58, 53, 58, 54, 58, 55]⟩, .string ⟨#[49, 58, 50, 58, 51, 58, 52, 58, 53, 58, 54, 58, 55, 58]⟩])
  have HR0 : Hid (NmsRel w0 (.int .i64 0) w0) := Lib.hid ⟨0, rfl, Nat.zero_le _, Below.refl _ _⟩
  rw [← hw0]
  clear hw0
  go_loopw [2] (fun i wr => NmsRel w0 i wr) (fun i _ => 16 - (intOf i).toNat)
  case atStart => exact HR0.out
  case round =>
    clear HR0
    obtain ⟨k, rfl, hk, hbb⟩ := hrel
    rcases Nat.lt_or_ge k 16 with hlt | hge
    · have hlt' : k < badT.length := hlt
      obtain ⟨S, hS⟩ : ∃ S, S = badT[k] := ⟨_, rfl⟩
      have hmem : S ∈ badT := by rw [hS]; exact List.getElem_mem hlt'
      have HR : Hid (GG 15 #[.string S] (.tuple #[.agg #[.bool false, .int .u64 0, .int .u64 0], .int .i64 7])) := Lib.hid (gRd (a := noA) (e := 7) (badT_sz S hmem) (badT_no S hmem))
      have hcell : wr.cell? ⟨w1.heap.size, k, none⟩ = some (.string S) := by
        rw [(HL0.out.next hbb).cell, ← Array.getElem?_toList, List.toList_toArray, List.getElem?_map, List.getElem?_eq_getElem hlt', hS]
        rfl
      have hlt16 : (k : Int) < 16 := by omega
      have hk0 : (0 : Int) ≤ k := by omega
      clear hS hmem hlt'
      go_wp2_with (first | (go_at_call 15; (with_reducible refine (HR.out.go _ (HG.out.next hbb)).mono ?_); rintro e w2 ⟨rfl, hb'⟩; replace hbb := next hbb hb'; clear hb') | fail)
      go_roundw
      case rel => exact ⟨k + 1, by go_num, by omega, hbb.alloc hbb.size _⟩
      case measure => simp [intOf]; omega
    · obtain rfl : k = 16 := by omega
      clear hk hge
      go_wp2_with (first | (go_at_call 15; (with_reducible refine (nm_f1.go _ (HG.out.next hbb)).mono ?_); rintro e w2 ⟨rfl, hb'⟩; have L5 := Lib.hid (Lies.new w2 26 #[.bool true, .int .u64 0, .int .u64 0]); replace hbb := (next hbb hb').alloc (Nat.le_trans hbb.size hb'.size) (.cells #[.bool true, .int .u64 0, .int .u64 0] 26); clear hb') | (go_at_call 15; (with_reducible refine (nm_f2.go _ (HG.out.next hbb)).mono ?_); rintro e w3 ⟨rfl, hb'⟩; replace L5 := Lib.hid ((L5.out.next hb').alloc (.cells #[.bool true, .int .u64 0, .int .u64 281470698652420] 26)); have L7 := Lib.hid (Lies.new w3 26 #[.bool true, .int .u64 0, .int .u64 281470698652420]); replace hbb := (next hbb hb').alloc (Nat.le_trans hbb.size hb'.size) (.cells #[.bool true, .int .u64 0, .int .u64 281470698652420] 26); clear hb') | (go_at_call 15; (with_reducible refine (nm_f3.go _ (HG.out.next hbb)).mono ?_); rintro e w4 ⟨rfl, hb'⟩; replace L5 := Lib.hid ((L5.out.next hb').alloc (.cells #[.bool true, .int .u64 281483566841860, .int .u64 1407400653815808] 26)); replace L7 := Lib.hid ((L7.out.next hb').alloc (.cells #[.bool true, .int .u64 281483566841860, .int .u64 1407400653815808] 26)); have L9 := Lib.hid (Lies.new w4 26 #[.bool true, .int .u64 281483566841860, .int .u64 1407400653815808]); replace hbb := (next hbb hb').alloc (Nat.le_trans hbb.size hb'.size) (.cells #[.bool true, .int .u64 281483566841860, .int .u64 1407400653815808] 26); clear hb'; obtain ⟨⟨hx00, hx01, hx02⟩, _⟩ := AdB.facts L7.out) | (go_at_call 16; (with_reducible refine (nm_f4.go _ (HG.out.next hbb)).mono ?_); rintro e w5 ⟨rfl, hb'⟩; replace L5 := Lib.hid (L5.out.next hb'); replace L7 := Lib.hid (L7.out.next hb'); replace L9 := Lib.hid (L9.out.next hb'); replace hbb := next hbb hb'; clear hb'; obtain ⟨⟨hx00, hx01, hx02⟩, _⟩ := AdB.facts L9.out) | (go_at_call 16; (with_reducible refine (nm_f5.go _ (HG.out.next hbb)).mono ?_); rintro e w6 ⟨rfl, hb'⟩; replace L5 := Lib.hid (L5.out.next hb'); replace L7 := Lib.hid (L7.out.next hb'); replace hbb := next hbb hb'; clear hb'; obtain ⟨⟨hx00, hx01, hx02⟩, _⟩ := AdB.facts L5.out) | (go_at_call 16; (with_reducible refine (nm_f6.go _ (HG.out.next hbb)).mono ?_); rintro e w7 ⟨rfl, hb'⟩; replace L5 := Lib.hid (L5.out.next hb'); replace L7 := Lib.hid (L7.out.next hb'); replace hbb := next hbb hb'; clear hb') | (go_at_call 18; (with_reducible refine (nm_f7.go _ (HG.out.next hbb)).mono ?_); rintro e w8 ⟨rfl, hb'⟩; replace L5 := Lib.hid (L5.out.next hb'); replace L7 := Lib.hid (L7.out.next hb'); replace hbb := next hbb hb'; clear hb') | (go_at_call 17; (with_reducible refine (nm_f8.go _ (HG.out.next hbb)).mono ?_); rintro e w9 ⟨rfl, hb'⟩; replace L5 := Lib.hid ((L5.out.next hb').alloc (.cells #[.bool false, .int .u64 0, .int .u64 4294967295] 26)); replace L7 := Lib.hid ((L7.out.next hb').alloc (.cells #[.bool false, .int .u64 0, .int .u64 4294967295] 26)); have L17 := Lib.hid (Lies.new w9 26 #[.bool false, .int .u64 0, .int .u64 4294967295]); replace hbb := (next hbb hb').alloc (Nat.le_trans hbb.size hb'.size) (.cells #[.bool false, .int .u64 0, .int .u64 4294967295] 26); clear hb') | (go_at_call 17; (with_reducible refine (nm_f9.go _ (HG.out.next hbb)).mono ?_); rintro e w10 ⟨rfl, hb'⟩; replace L5 := Lib.hid ((L5.out.next hb').alloc (.cells #[.bool false, .int .u64 0, .int .u64 0] 26)); replace L7 := Lib.hid ((L7.out.next hb').alloc (.cells #[.bool false, .int .u64 0, .int .u64 0] 26)); replace L17 := Lib.hid ((L17.out.next hb').alloc (.cells #[.bool false, .int .u64 0, .int .u64 0] 26)); replace hbb := (next hbb hb').alloc (Nat.le_trans hbb.size hb'.size) (.cells #[.bool false, .int .u64 0, .int .u64 0] 26); clear hb') | (go_at_call 17; (with_reducible refine (nm_f10.go _ (HG.out.next hbb)).mono ?_); rintro e w11 ⟨rfl, hb'⟩; replace L5 := Lib.hid ((L5.out.next hb').alloc (.cells #[.bool true, .int .u64 1, .int .u64 0] 26)); replace L7 := Lib.hid ((L7.out.next hb').alloc (.cells #[.bool true, .int .u64 1, .int .u64 0] 26)); replace L17 := Lib.hid ((L17.out.next hb').alloc (.cells #[.bool true, .int .u64 1, .int .u64 0] 26)); have L21 := Lib.hid (Lies.new w11 26 #[.bool true, .int .u64 1, .int .u64 0]); replace hbb := (next hbb hb').alloc (Nat.le_trans hbb.size hb'.size) (.cells #[.bool true, .int .u64 1, .int .u64 0] 26); clear hb') | (go_at_call 17; (with_reducible refine (nm_f11.go _ (HG.out.next hbb)).mono ?_); rintro e w12 ⟨rfl, hb'⟩; replace L5 := Lib.hid ((L5.out.next hb').alloc (.cells #[.bool false, .int .u64 0, .int .u64 0] 26)); replace L7 := Lib.hid ((L7.out.next hb').alloc (.cells #[.bool false, .int .u64 0, .int .u64 0] 26)); replace L17 := Lib.hid ((L17.out.next hb').alloc (.cells #[.bool false, .int .u64 0, .int .u64 0] 26)); replace L21 := Lib.hid ((L21.out.next hb').alloc (.cells #[.bool false, .int .u64 0, .int .u64 0] 26)); replace hbb := (next hbb hb').alloc (Nat.le_trans hbb.size hb'.size) (.cells #[.bool false, .int .u64 0, .int .u64 0] 26); clear hb') | (go_at_call 19; (with_reducible refine (HV.out.go _ (HG.out.next hbb)).mono ?_); rintro e w13 ⟨rfl, hb'⟩; replace L5 := Lib.hid (L5.out.next hb'); replace L7 := Lib.hid (L7.out.next hb'); replace L17 := Lib.hid (L17.out.next hb'); replace L21 := Lib.hid (L21.out.next hb'); replace hbb := next hbb hb'; clear hb') | (go_at_call 20; (with_reducible refine (nm_f13.go _ (HG.out.next hbb)).mono ?_); rintro e w14 ⟨rfl, hb'⟩; replace L5 := Lib.hid ((L5.out.next hb').alloc (.cells #[.bool false, .int .u64 0, .int .u64 16909060] 26)); replace L7 := Lib.hid ((L7.out.next hb').alloc (.cells #[.bool false, .int .u64 0, .int .u64 16909060] 26)); replace L17 := Lib.hid ((L17.out.next hb').alloc (.cells #[.bool false, .int .u64 0, .int .u64 16909060] 26)); replace L21 := Lib.hid ((L21.out.next hb').alloc (.cells #[.bool false, .int .u64 0, .int .u64 16909060] 26)); have L27 := Lib.hid (Lies.new w14 26 #[.bool false, .int .u64 0, .int .u64 16909060]); replace hbb := (next hbb hb').alloc (Nat.le_trans hbb.size hb'.size) (.cells #[.bool false, .int .u64 0, .int .u64 16909060] 26); clear hb') | (go_at_call 20; (with_reducible refine (nm_f14.go _ (HG.out.next hbb)).mono ?_); rintro e w15 ⟨rfl, hb'⟩; replace L5 := Lib.hid ((L5.out.next hb').alloc (.cells #[.bool false, .int .u64 0, .int .u64 0] 26)); replace L7 := Lib.hid ((L7.out.next hb').alloc (.cells #[.bool false, .int .u64 0, .int .u64 0] 26)); replace L17 := Lib.hid ((L17.out.next hb').alloc (.cells #[.bool false, .int .u64 0, .int .u64 0] 26)); replace L21 := Lib.hid ((L21.out.next hb').alloc (.cells #[.bool false, .int .u64 0, .int .u64 0] 26)); replace L27 := Lib.hid ((L27.out.next hb').alloc (.cells #[.bool false, .int .u64 0, .int .u64 0] 26)); replace hbb := (next hbb hb').alloc (Nat.le_trans hbb.size hb'.size) (.cells #[.bool false, .int .u64 0, .int .u64 0] 26); clear hb') | fail)
      obtain ⟨wS, hwS⟩ : ∃ wS, wS = w15.alloc (.cells #[.bool false, .int .u64 0, .int .u64 0] 26) := ⟨_, rfl⟩
      rw [← hwS]
      rw [← hwS] at L5
      rw [← hwS] at L7
      rw [← hwS] at L17
      rw [← hwS] at L21
      rw [← hwS] at L27
      have HBS : Hid (Below w0.heap.size w0 wS) := Lib.hid (by rw [hwS]; exact hbb)
      clear hwS hbb
      obtain ⟨Ix, f, i0, hf0, hCn', hstep'⟩ : ∃ (Ix : Type) (f : Ix → World) (i0 : Ix), wS.drew = f i0 ∧ (∀ n, Below wS.heap.size wS (f n)) ∧ (∀ n w'', Below (f n).heap.size (f n) w'' → ∃ m, w'' = f m) := ⟨{w' // Below wS.heap.size wS w'}, Subtype.val, ⟨wS.drew, ⟨rfl, rfl, rfl, Nat.le_refl _, fun _ _ => rfl⟩⟩, rfl, fun n => n.2, fun n w'' h => ⟨⟨w'', next n.2 h⟩, rfl⟩⟩
      have HCn := Lib.hid hCn'
      have Hstep := Lib.hid hstep'
      clear hCn' hstep'
      haveI : Nonempty Ix := ⟨i0⟩
      have HGn : Hid (∀ n, Ground (f n)) := Lib.hid (fun n => HG.out.next (next HBS.out (HCn.out n)))
      have hx00 := fun n => (AdB.facts (L5.out.next (HCn.out n))).1.1
      have hx01 := fun n => (AdB.facts (L5.out.next (HCn.out n))).1.2.1
      have hx02 := fun n => (AdB.facts (L5.out.next (HCn.out n))).1.2.2
      have hx10 := fun n => (AdB.facts (L7.out.next (HCn.out n))).1.1
      have hx11 := fun n => (AdB.facts (L7.out.next (HCn.out n))).1.2.1
      have hx12 := fun n => (AdB.facts (L7.out.next (HCn.out n))).1.2.2
      have hx20 := fun n => (AdB.facts (L17.out.next (HCn.out n))).1.1
      have hx21 := fun n => (AdB.facts (L17.out.next (HCn.out n))).1.2.1
      have hx22 := fun n => (AdB.facts (L17.out.next (HCn.out n))).1.2.2
      have hx30 := fun n => (AdB.facts (L21.out.next (HCn.out n))).1.1
      have hx31 := fun n => (AdB.facts (L21.out.next (HCn.out n))).1.2.1
      have hx32 := fun n => (AdB.facts (L21.out.next (HCn.out n))).1.2.2
      have hx40 := fun n => (AdB.facts (L27.out.next (HCn.out n))).1.1
      have hx41 := fun n => (AdB.facts (L27.out.next (HCn.out n))).1.2.1
      have hx42 := fun n => (AdB.facts (L27.out.next (HCn.out n))).1.2.2
      have HV1 : Hid (∀ n, Calls Tryz.prog 14 #[] (f n) fun e w'' => e = .returned (.bool true) ∧ ∃ m, w'' = f m) := Lib.hid (fun n => (lives4.go _ (HGn.out n)).mono (fun _ _ h => ⟨h.1, Hstep.out n _ h.2⟩))
      have HV2 : Hid (∀ n, Calls Tryz.prog 18 #[.int .u8 255, .int .u8 255, .int .u8 255, .int .u8 255] (f n) fun e w'' => e = .returned (.agg #[.bool false, .int .u64 0, .int .u64 4294967295]) ∧ ∃ m, w'' = f m) := Lib.hid (fun n => (nm_f15.go _ (HGn.out n)).mono (fun _ _ h => ⟨h.1, Hstep.out n _ h.2⟩))
      have HV3 : Hid (∀ n, Calls Tryz.prog 18 #[.int .u8 1, .int .u8 2, .int .u8 3, .int .u8 4] (f n) fun e w'' => e = .returned (.agg #[.bool false, .int .u64 0, .int .u64 16909060]) ∧ ∃ m, w'' = f m) := Lib.hid (fun n => (nm_f16.go _ (HGn.out n)).mono (fun _ _ h => ⟨h.1, Hstep.out n _ h.2⟩))
      have HV4 : Hid (∀ n, Calls Tryz.prog 21 #[.agg #[.bool false, .int .u64 0, .int .u64 4294967296]] (f n) fun e w'' => e = .returned (.int .i64 2) ∧ ∃ m, w'' = f m) := Lib.hid (fun n => (nm_f17.go _ (HGn.out n)).mono (fun _ _ h => ⟨h.1, Hstep.out n _ h.2⟩))
      have HV5 : Hid (∀ n, Calls Tryz.prog 18 #[.int .u8 9, .int .u8 9, .int .u8 9, .int .u8 9] (f n) fun e w'' => e = .returned (.agg #[.bool false, .int .u64 0, .int .u64 151587081]) ∧ ∃ m, w'' = f m) := Lib.hid (fun n => (nm_f18.go _ (HGn.out n)).mono (fun _ _ h => ⟨h.1, Hstep.out n _ h.2⟩))
      have HV6 : Hid (∀ n, Calls Tryz.prog 22 #[.agg #[.bool false, .int .u64 0, .int .u64 151587081], .agg #[.bool true, .int .u64 0, .int .u64 0]] (f n) fun e w'' => e = .returned (.int .i64 (-1)) ∧ ∃ m, w'' = f m) := Lib.hid (fun n => (nm_f19.go _ (HGn.out n)).mono (fun _ _ h => ⟨h.1, Hstep.out n _ h.2⟩))
      simp only [List.append_eq, List.cons_append, List.nil_append]
      refine wp_region_class f (by kernel_rfl) (lexB_of (by kernel_rfl) (by as_aux_lemma => kernel_rfl)) i0 hf0 ?_
      clear hf0
      repeat (go_big_quiet_step (first | (with_reducible exact HV1.out _) | (with_reducible exact HV2.out _) | (with_reducible exact HV3.out _) | (with_reducible exact HV4.out _) | (with_reducible exact HV5.out _) | (with_reducible exact HV6.out _)))
      refine wpQuiet_nil ?_
      intro _ hw'
      obtain ⟨nE, hw''⟩ := hw'
      subst hw''
      have hbE := next HB0.out (next HBS.out (HCn.out nE))
      go_wp2
      go_ret
      exact ⟨rfl, hbE⟩
end Go.Proofs.YtpaocfjpnajonaaGreatDoor
