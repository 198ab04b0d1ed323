/-
  Numbers' digits by sixteen, as the library writes them: the walk of strconv.FormatUint at base 16 below 2^16. Conditions: as each theorem names them.
-/
import Derived.Test.YtpmlldgjbmingaaGreatDoorZk6
import Derived.Lib.TrailingZeros
import Derived.Laws.Rows
namespace Go.Proofs.YtpmlldgjbmingaaGreatDoor
open Go.RowKit
set_option linter.unusedVariables false

/-- What calls into the library read of its variables. -/
structure Ground (w : World) : Prop where
  maxlen : ∃ m, w.cell? ⟨2, 0, none⟩ = some (.int .i64 m)
  pow10 : Lib.TabIs Tryz.prog w "internal/strconv.uint64pow10" .u64 Lib.pow10Tab
  bruijn : w.cell? ⟨1, 15, none⟩ = some (.int .u8 4)
  bruijn16 : w.cell? ⟨1, 39, none⟩ = some (.int .u8 16)
  syn : ∃ tp p, w.var? Tryz.prog "strconv.ErrSyntax" = some #[.iface tp p]
  rng : ∃ tp p, w.var? Tryz.prog "strconv.ErrRange" = some #[.iface tp p]

theorem isPow16 (w : World) : Calls Tryz.prog 179 #[.int .i64 16] w fun e w' => e = .returned (.bool true) ∧ w = w' := by
  have h : bits BinOp.and IntKind.i64 16 15 = 0 := by decide
  go_enter Tryz.func179, Tryz.ntmps179
  go_wp2
  go_ret
  exact ⟨rfl, rfl⟩
theorem tz16 (w : World) (h : w.cell? ⟨1, 15, none⟩ = some (.int .u8 4)) : Calls Tryz.prog 87 #[.int .u64 16] w fun e w' => e = .returned (.int .i64 4) ∧ w = w' := by
  have h1 : bits BinOp.and IntKind.u64 16 (IntKind.u64.wrap (-16)) = 16 := by decide
  go_enter Tryz.func87, Tryz.ntmps87
  go_wp2
  go_ret
  exact ⟨rfl, rfl⟩

theorem hexF_more : ∀ (f g v : Nat), v < 16 ^ (f + 1) → v < 16 ^ (g + 1) → hexF (f + 1) v = hexF (g + 1) v
  | f, g, v, hf, hg => by
    unfold hexF
    split
    · rfl
    · rename_i h
      rcases f with _ | f
      · exfalso; simp at hf; omega
      · rcases g with _ | g
        · exfalso; simp at hg; omega
        · rw [hexF_more f g (v / 16) (by rw [Nat.pow_succ] at hf; omega) (by rw [Nat.pow_succ] at hg; omega)]
theorem hexT_step (v : Nat) (h : 16 ≤ v) (h2 : v < 65536) : hexT v = hexT (v / 16) ++ [hexd (v % 16)] := by
  show (if v < 16 then _ else hexF 15 (v / 16) ++ _) = _
  rw [if_neg (by omega)]
  congr 1
  have h3 : v / 16 < 16 ^ 14 := by
    have : v / 16 < 16 ^ 4 := by omega
    exact Nat.lt_of_lt_of_le this (by decide)
  exact hexF_more 14 15 (v / 16) (Nat.lt_of_lt_of_le h3 (by decide)) (Nat.lt_of_lt_of_le h3 (by decide))
theorem hexT_one (v : Nat) (h : v < 16) : hexT v = [hexd v] := by
  show (if v < 16 then _ else _) = _
  rw [if_pos h]
/-- The array: noughts, and the digits that are written so far. -/
def dig65 (sfx : List UInt8) : List UInt8 := List.replicate (65 - sfx.length) 0 ++ sfx
theorem dig65_len {sfx : List UInt8} (h : sfx.length ≤ 65) : (dig65 sfx).length = 65 := by simp [dig65]; omega
theorem dig65_set {sfx : List UInt8} (h : sfx.length ≤ 64) (d : UInt8) : (dig65 sfx).set (64 - sfx.length) d = dig65 (d :: sfx) := by
  unfold dig65
  rw [List.length_cons, List.set_append_left _ _ (by simp; omega), show 65 - sfx.length = (64 - sfx.length) + 1 by omega, List.replicate_succ', List.set_append_right _ _ (by simp), List.length_replicate, Nat.sub_self, List.append_assoc, show 65 - (sfx.length + 1) = 64 - sfx.length by omega]
  rfl
theorem dig65_drop {sfx : List UInt8} (h : sfx.length ≤ 65) : (dig65 sfx).drop (65 - sfx.length) = sfx := by
  unfold dig65
  exact List.drop_left' (by simp)
theorem dig65_put {w : World} {g : Nat} {t : TypeId} {sfx : List UInt8} (hL : Lies w g t ((dig65 sfx).map B).toArray) (h : sfx.length ≤ 64) (d : UInt8) : Lies (w.setCell ⟨g, 64 - sfx.length, none⟩ (B d)) g t ((dig65 (d :: sfx)).map B).toArray := by
  have := hL.set (64 - sfx.length) (B d)
  rw [show ((dig65 sfx).map B).toArray.setIfInBounds (64 - sfx.length) (B d) = ((dig65 (d :: sfx)).map B).toArray by rw [← dig65_set h, List.map_set]; simp] at this
  exact this
theorem zero65 : Tryz.zeroCells190 = ((dig65 []).map B).toArray := by kernel_rfl
/-- A part of a block of bytes as a string. -/
theorem conv_at {P : Program} {tb ts tt : TypeId} (T : BT P tb ts tt) {w : World} {g off cap : Nat} {l : List UInt8} (h : At B w g off cap l) : (convert ts tt (.slice (some ⟨g, off, none⟩) l.length cap)).run P w = .ok (.string ⟨l.toArray⟩) w := by
  refine run_convert_bytes_back w ts tt tb ⟨g, off, none⟩ cap l T.us T.ub T.ut fun j hj => ?_
  rw [add_offA]
  exact h.cell j hj
theorem at_dig {w : World} {g : Nat} {t : TypeId} {sfx : List UInt8} (hL : Lies w g t ((dig65 sfx).map B).toArray) (h : sfx.length ≤ 65) : At B w g (65 - sfx.length) sfx.length sfx := by
  have h0 := At.of_lies (enc := B) (L := dig65 sfx) hL rfl (by rw [dig65_len h]; decide)
  refine ⟨h0.lt, Nat.le_refl _, by unfold maxLen; omega, fun j hj => ?_⟩
  have h1 := h0.cell (65 - sfx.length + j) (by rw [dig65_len h]; omega)
  rw [Nat.zero_add] at h1
  rw [h1]
  congr 2
  have h2 := congrArg (·[j]?) (dig65_drop h)
  simp only [List.getElem?_drop] at h2
  rw [List.getElem?_eq_getElem (by rw [dig65_len h]; omega), List.getElem?_eq_getElem hj] at h2
  exact Option.some.inj h2
/-- The digits' letters. -/
theorem letters : ∀ d : Fin 16, (⟨#[48, 49, 50, 51, 52, 53, 54, 55, 56, 57, 97, 98, 99, 100, 101, 102, 103, 104, 105, 106, 107, 108, 109, 110, 111, 112, 113, 114, 115, 116, 117, 118, 119, 120, 121, 122]⟩ : ByteArray)[d.val]'(by have := d.isLt; show d.val < 36; omega) = hexd d.val := by decide +kernel
theorem and15 (v : Nat) (h : v < 18446744073709551616) : bits BinOp.and IntKind.u64 (v : Int) 15 = ((v % 16 : Nat) : Int) := by
  have := u64_and_nat v 15 h (by decide)
  rw [Nat.and_two_pow_sub_one_eq_mod v 4] at this
  exact this
/-- The relation of formatBits' loop. -/
def FbRel (u0 : Nat) (w0 : World) (g : Nat) (u i : Value) (wr : World) : Prop :=
  ∃ (v : Nat) (sfx : List UInt8), u = .int .u64 v ∧ i = .int .i64 ((65 - sfx.length : Nat) : Int) ∧ hexT u0 = hexT v ++ sfx ∧ v * 16 ^ sfx.length ≤ u0 ∧ sfx.length ≤ 3 ∧ Lies wr g 190 ((dig65 sfx).map B).toArray ∧ Below w0.heap.size w0 wr
set_option maxHeartbeats 1000000 in
set_option maxRecDepth 4000 in
theorem formatBits16 (u0 : Nat) (w : World) (hu : u0 < 65536) (hG : Ground w) :
    Calls Tryz.prog 168 #[.slice none 0 0, .int .u64 u0, .int .i64 16, .bool false, .bool false] w fun e w' => e = .returned (.tuple #[.slice none 0 0, .string ⟨(hexT u0).toArray⟩]) ∧ Below w.heap.size w w' := by
  have HT : Hid (∀ o, Calls Tryz.prog 87 #[.int .u64 16] (w.alloc o) fun e w' => e = .returned (.int .i64 4) ∧ w.alloc o = w') := Lib.hid (fun o => tz16 _ ((((Below.refl w.heap.size w).alloc (Nat.le_refl _) o).cell (p := ⟨1, 15, none⟩) (block_lt_of_cell hG.bruijn)).trans hG.bruijn))
  have HR0 : Hid (FbRel u0 w w.heap.size (.int .u64 u0) (.int .i64 65) (w.alloc (.cells Tryz.zeroCells190 190))) := Lib.hid ⟨u0, [], rfl, rfl, by simp, by simp, by decide, by rw [zero65]; exact Lies.new _ _ _, (Below.refl _ _).alloc (Nat.le_refl _) _⟩
  clear hG
  go_enter Tryz.func168, Tryz.ntmps168
  go_wp2_with (first | (go_at_call 179; (with_reducible refine (isPow16 _).mono ?_); rintro e w' ⟨rfl, rfl⟩) | (go_at_call 87; (with_reducible refine (HT.out _).mono ?_); rintro e w' ⟨rfl, rfl⟩) | fail)
  go_loopw [1, 13] (fun u i wr => FbRel u0 w w.heap.size u i wr) (fun u _ _ => (intOf u).toNat)
  case atStart => exact HR0.out
  case round =>
    clear HR0
    obtain ⟨v, sfx, rfl, rfl, hx, hle, hsl, hL, hb⟩ := hrel
    have hv : v < 65536 := by
      have h1 := Nat.le_mul_of_pos_right v (Nat.pow_pos (n := sfx.length) (show 0 < 16 by decide))
      omega
    have ha15 := and15 v (by omega)
    have HL := Lib.hid hL
    have HB := Lib.hid hb
    have HX := Lib.hid hx
    have hi : ((65 - sfx.length : Nat) : Int) - 1 = ((64 - sfx.length : Nat) : Int) := by omega
    obtain ⟨c, hc⟩ : ∃ c, wr.cell? ⟨w.heap.size, 64 - sfx.length, none⟩ = some c := ⟨_, by rw [hL.cell, List.getElem?_toArray, List.getElem?_map, List.getElem?_eq_getElem (by rw [dig65_len (by omega)]; omega)]; rfl⟩
    have hf : wr.frozen? ⟨w.heap.size, 64 - sfx.length, none⟩ = false := hL.free _
    have hm1 : ((64 - sfx.length : Nat) : Int) < 65 := by omega
    clear hL hb hx
    by_cases h16 : 16 ≤ v
    · have hlt := letters ⟨v % 16, Nat.mod_lt _ (by decide)⟩
      have hsl2 : sfx.length ≤ 2 := by
        have h1 := Nat.mul_le_mul_right (16 ^ sfx.length) h16
        obtain h | h | h | h : sfx.length = 0 ∨ sfx.length = 1 ∨ sfx.length = 2 ∨ sfx.length = 3 := by omega
        all_goals rw [h] at h1 hle
        all_goals omega
      go_wp2
      go_roundw
      case rel =>
        refine ⟨v / 16, hexd (v % 16) :: sfx, by go_num, ?_, ?_, ?_, by simp; omega, dig65_put HL.out (by omega) _, HB.out.setCell (p := ⟨w.heap.size, 64 - sfx.length, none⟩) (Nat.le_refl _) _⟩
        · rw [List.length_cons]
          congr 1
          omega
        · rw [HX.out, hexT_step v h16 hv, List.append_assoc]
          rfl
        · rw [List.length_cons, Nat.pow_succ, Nat.mul_comm (16 ^ sfx.length) 16, ← Nat.mul_assoc]
          exact Nat.le_trans (Nat.mul_le_mul_right _ (Nat.div_mul_le_self v 16)) hle
      case measure => simp [intOf]; omega
    · have hv16 : v < 16 := by omega
      have hlt := letters ⟨v, hv16⟩
      have HC : Hid (∀ w', Lies w' w.heap.size 190 ((dig65 (hexd v :: sfx)).map B).toArray → (convert 74 9 (.slice (some ⟨w.heap.size, 64 - sfx.length, none⟩) (65 - (64 - sfx.length)) (65 - (64 - sfx.length)))).run Tryz.prog w' = .ok (.string ⟨(hexT u0).toArray⟩) w') := Lib.hid (fun w' hL => by
        have h1 := conv_at bt (at_dig hL (by simp; omega))
        rw [List.length_cons, show 65 - (sfx.length + 1) = 64 - sfx.length by omega] at h1
        rw [show 65 - (64 - sfx.length) = sfx.length + 1 by omega, HX.out, hexT_one v hv16]
        exact h1)
      have hcv := HC.out _ (dig65_put HL.out (by omega) (hexd v))
      unfold B at hcv
      clear HC HX HL hi
      have hi : ((65 - sfx.length : Nat) : Int) - 1 = ((64 - sfx.length : Nat) : Int) := by omega
      have hm2 : (0 : Int) ≤ ((64 - sfx.length : Nat) : Int) := by omega
      have hm3 : ((64 - sfx.length : Nat) : Int) ≤ 65 := by omega
      have hm4 : (((64 - sfx.length : Nat) : Int)).toNat = 64 - sfx.length := by omega
      go_wp2
      go_ret2
      exact ⟨rfl, HB.out.setCell (p := ⟨w.heap.size, 64 - sfx.length, none⟩) (Nat.le_refl _) _⟩
end Go.Proofs.YtpmlldgjbmingaaGreatDoor
