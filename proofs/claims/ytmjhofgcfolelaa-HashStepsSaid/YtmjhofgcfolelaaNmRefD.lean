/-
  What the document's own Fold, Same, Compare, Under answer for layer 2: the walks. Condition: the names are no longer than Go's own limit.
-/
import Derived.Test.YtmjhofgcfolelaaNmRefC
import Derived.Shelf.RegionOpen
import Derived.Deep.QuietTactic
import Derived.IntWalk
namespace Go.Proofs.Ytmjhofgcfolelaa
open Go.RowKit
set_option linter.unusedVariables false

def fB (x : ByteArray) : ByteArray := ⟨(fold (bs x)).toArray⟩
theorem bs_fB (x : ByteArray) : bs (fB x) = fold (bs x) := bs_mk _
def fR (L : List ByteArray) (k : Nat) : List ByteArray := (L.take k).map fB ++ L.drop k
theorem fR_len (L : List ByteArray) (k : Nat) (h : k ≤ L.length) : (fR L k).length = L.length := by
  unfold fR
  rw [List.length_append, List.length_map, List.length_take, List.length_drop]
  omega
theorem fR_get (L : List ByteArray) (k : Nat) (h : k < L.length) : (fR L k)[k]? = some L[k] := by
  have hk : ((L.take k).map fB).length = k := by rw [List.length_map, List.length_take]; omega
  unfold fR
  rw [List.getElem?_append_right (by omega), hk, Nat.sub_self, List.getElem?_drop, Nat.add_zero, List.getElem?_eq_getElem h]
theorem fR_set (L : List ByteArray) (k : Nat) (h : k < L.length) : (fR L k).set k (fB L[k]) = fR L (k + 1) := by
  have hk : ((L.take k).map fB).length = k := by rw [List.length_map, List.length_take]; omega
  unfold fR
  rw [List.set_append_right _ _ (by omega), hk, Nat.sub_self, List.drop_eq_getElem_cons h, List.set_cons_zero, List.take_succ_eq_append_getElem h, List.map_append, List.append_assoc]
  rfl
theorem fR_all (L : List ByteArray) (k : Nat) (h : L.length ≤ k) : fR L k = L.map fB := by
  unfold fR
  rw [List.take_of_length_le h, List.drop_eq_nil_of_le h, List.append_nil]
theorem map_fB (L : List ByteArray) : (L.map fB).map bs = (L.map bs).map fold := by
  rw [List.map_map, List.map_map]
  apply List.map_congr_left
  intro x _
  exact bs_fB x
theorem mk_fold (l : List UInt8) : mkN ((nlabs l).map fold) = (foldN l, 0) := by
  by_cases h : chkN l = 0
  · have f := foldN_facts h
    have e : foldN l = fold l := if_pos h
    have hok := okN_fold (nlabs_ok l)
    unfold mkN named
    rw [if_pos (badL_ok.2 hok), nlabs_yes h, ← f.1, if_neg (by rw [e, fold_length]; have := (chkN_iff.1 h).1; omega)]
  · have e : foldN l = [] := if_neg h
    rw [nlabs_no h, e]
    rfl

/-- The relation of Fold's loop. -/
def RfRel (L : List ByteArray) (w : World) (v i : Value) (wr : World) : Prop :=
  ∃ k : Nat, i = .int .i64 k ∧ k ≤ L.length ∧ TOwn 9 wr w.heap.size v (fR L k) ∧ Below w.heap.size w wr

set_option maxHeartbeats 2000000 in
theorem rnFold_any (n : ByteArray) (w : World) (hs : n.size ≤ maxLen) : Calls Try.prog 25 #[.string n] w fun e w' => e = .returned (.string ⟨(foldN (bs n)).toArray⟩) ∧ Below w.heap.size w w' := by
  have HL := Lib.hid (fun wx => rLabels_any n wx hs)
  have hN := nlabs_len (bs n)
  go_enter Try.func25, Try.ntmps25
  go_wp2_with fail
  refine (HL.out _).mono ?_
  rintro e w1 ⟨v, L, rfl, hown, hLL, hb1⟩
  have hLn : L.length ≤ 127 := by rw [labs_len hLL]; exact hN
  have HLL := Lib.hid hLL
  obtain ⟨A, ca, rfl⟩ := hown.shape
  have HR0 : Hid (RfRel L w (.slice A L.length ca) (.int .i64 0) w1) := Lib.hid ⟨0, rfl, Nat.zero_le _, hown, hb1⟩
  clear hown hLL hN hb1
  go_wp2
  go_loopw [4] (fun i wr => RfRel L w (.slice A L.length ca) i wr) (fun i _ => L.length - (intOf i).toNat)
  case atStart => exact HR0.out
  case round =>
    clear HR0
    obtain ⟨k, rfl, hk, hown, hb⟩ := hrel
    have hlen := fR_len L k hk
    by_cases hlt : k < L.length
    · obtain ⟨g, hA⟩ : ∃ g, A = some ⟨g, 0, none⟩ := by
        rcases hown.2 with ⟨h, _⟩ | ⟨g, cap, cur, h, _⟩
        · injection h with _ h
          omega
        · injection h with h
          exact ⟨g, h⟩
      subst hA
      have hown' : wr.ownsRow w.heap.size 9 1 (.slice (some ⟨g, 0, none⟩) L.length ca) L.length ((fR L k).map Value.string) := by
        have := hown
        unfold TOwn at this
        rw [hlen] at this
        exact this
      have hget : ((fR L k).map Value.string)[k]? = some (Value.string L[k]) := by
        rw [List.getElem?_map, fR_get L k hlt]
        rfl
      have hcell : wr.cell? ⟨g, k, none⟩ = some (.string L[k]) := (World.ownsRow.cellAt hown' k (by omega)).trans hget
      have hxs : L[k].size ≤ 1099511627776 := by
        have := (nlabs_ok (bs n) (bs L[k]) (by rw [← HLL.out]; exact List.mem_map_of_mem (List.getElem_mem hlt))).2
        rw [bs_length] at this
        omega
      have HX := Lib.hid (fun wx => rFold_any L[k] wx hxs)
      have HOWN := Lib.hid hown'
      have HG := Lib.hid hget
      have i1 : (k : Int) < L.length := by omega
      have hbz := hb.size
      obtain ⟨F, hF⟩ : ∃ F : ByteArray, F = fB L[k] := ⟨_, rfl⟩
      have HX2 : Hid (∀ wx, Calls Try.prog 34 #[.string L[k]] wx fun e w' => e = .returned (.string F) ∧ Below wx.heap.size wx w') := Lib.hid (fun wx => by rw [hF]; exact HX.out wx)
      have HF := Lib.hid hF
      clear hown hown' hget hlen hF HX
      go_wp2_with (go_at_call 34; refine (HX2.out _).mono ?_; rintro e w2 ⟨rfl, hb2⟩; have hown2 := World.ownsRow.kept (row := none) HOWN.out (below_to_grown hb2) (.inr (by simp [Value.ownBlock])); have hcell2 := (World.ownsRow.cellAt hown2 k (by omega)).trans HG.out; have hfree2 := World.ownsRow.frozenAt hown2 k)
      go_roundw
      case rel =>
        refine ⟨k + 1, by go_num, hlt, ?_, ?_⟩
        · have h1 := (World.ownsRow.stored hown2 k (Value.string F)).1
          unfold TOwn
          rw [fR_len L (k + 1) hlt, ← fR_set L k hlt, ← HF.out, List.map_set]
          exact h1
        · exact (hb.trans (hb2.mono hbz)).setCell (p := ⟨g, k, none⟩) (by
            rcases HOWN.out.2 with ⟨h, _⟩ | ⟨g', cap, cur, h, hbg, _⟩
            · cases h
            · injection h with h
              injection h with h
              injection h with h
              subst h
              exact hbg) _
      case measure => simp [intOf]; omega
    · have hge : ¬ (k : Int) < L.length := by omega
      rw [fR_all L k (by omega)] at hown
      have hl2 : (L.map fB).length = L.length := List.length_map ..
      have HM := Lib.hid (rMake_any (.slice A L.length ca) (L.map fB) wr hown.row (by omega) (fun x hx => by
        obtain ⟨y, hy, rfl⟩ := List.mem_map.1 hx
        have := (nlabs_ok (bs n) (bs y) (by rw [← HLL.out]; exact List.mem_map_of_mem hy)).2
        rw [← bs_length, bs_fB, fold_length]
        unfold maxLen
        omega))
      rw [map_fB, HLL.out, mk_fold] at HM
      clear hown hlt hlen
      go_wp2_with (go_at_call 35; refine HM.out.mono ?_; rintro e w2 ⟨rfl, hb2⟩)
      go_ret
      exact ⟨rfl, hb.trans (hb2.mono hb.size)⟩

theorem samN_fold {a b : List UInt8} (ha : chkN a = 0) (hb : chkN b = 0) : samN a b = decide (foldN a = foldN b) := by
  have e1 : foldN a = fold a := if_pos ha
  have e2 : foldN b = fold b := if_pos hb
  rw [e1, e2]
  unfold samN cmpN
  rw [ha, hb, Bool.eq_iff_iff]
  simp [cmpR_zero, rows_inj ha hb]

end Go.Proofs.Ytmjhofgcfolelaa
