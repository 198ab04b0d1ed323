/-
  What name.put, Make, Read answer: the walks. Conditions: as each theorem names them.
-/
import Derived.Test.YtmjhofgcfolelaaNmCut
import Derived.Test.YtmjhofgcfolelaaNmKit
namespace Go.Proofs.Ytmjhofgcfolelaa
open Go.RowKit
set_option linter.unusedVariables false

/-- What put answers: the bytes with a label behind; nothing else that lay has turned. -/
def Put (tb : TypeId) (base : Nat) (v : Value) (l : List UInt8) (w : World) (e : Ending) (w' : World) : Prop := ∃ v', e = .returned v' ∧ Own tb w' base v' l ∧ w.grownBy w' v.ownBlock
set_option maxHeartbeats 1000000 in
theorem put_any (base : Nat) (v : Value) (l : List UInt8) (x : ByteArray) (w : World) (hown : Own 5 w base v l) (hbase : base ≤ w.heap.size) (hx : x.size ≤ 63) (hl : l.length ≤ 1099511627776) :
    Calls Try.prog 27 #[v, .string x] w (Put 5 base v (l ++ enc1 (bs x)) w) := by
  have hb1 : [UInt8.ofNat x.size].map B = [Value.int .u8 x.size] := by
    have : (UInt8.ofNat x.size).toNat = x.size := UInt8.toNat_ofNat_of_lt' (by show _ < 256; omega)
    simp only [List.map_cons, List.map_nil, B, this]
  have hl1 : l.length + [UInt8.ofNat x.size].length ≤ 70368744177664 := by simp; omega
  have hl2 : (l ++ [UInt8.ofNat x.size]).length + x.size ≤ 70368744177664 := by simp; omega
  have he : l ++ [UInt8.ofNat x.size] ++ bs x = l ++ enc1 (bs x) := by unfold enc1; rw [bs_length]; simp
  have HB := Lib.hid hb1
  have HE := Lib.hid he
  clear hb1 he
  obtain ⟨A, cap, rfl⟩ := hown.shape
  go_enter Try.func27, Try.ntmps27
  go_wp2_with (first | (at_builtin; refine wpList_appendB bt _ rfl (.tmp 5) (.tmp 9) rfl base (.slice A l.length cap) l rfl (hown.alloc _) ⟨w.heap.size, 0, none⟩ 1 1 [UInt8.ofNat x.size] rfl rfl (cellsN _ _ _ [UInt8.ofNat x.size] HB.out.symm _ rfl) hl1 (le_alloc hbase _) ?_; intro v2 w2 hown2 hg2 hob2; have HG2 := Lib.hid hg2; have HO2 := Lib.hid hob2; clear hg2 hob2) | (at_builtin; refine wpList_appendS bt _ rfl (.tmp 10) (.tmp 11) rfl base v2 (l ++ [UInt8.ofNat x.size]) rfl hown2 x rfl hl2 (Nat.le_trans (le_alloc hbase _) HG2.out.size) ?_; intro v3 w3 hown3 hg3; have HG3 := Lib.hid hg3; clear hg3))
  go_ret
  refine ⟨v3, rfl, HE.out ▸ hown3, grown_trans (grown_alloc HG2.out) HG3.out ?_⟩
  rcases HO2.out with h | h
  · exact .inl h
  · refine .inr fun k hk => ?_
    rw [h] at hk
    injection hk with hk
    simp at hk
    omega

/-- A name and an error. -/
def Nm (w : World) (x : List UInt8 × Nat) (e : Ending) (w' : World) : Prop := e = .returned (.tuple #[.string ⟨x.1.toArray⟩, .int .i64 x.2]) ∧ Below w.heap.size w w'
theorem nm_ret {w w' : World} {x : List UInt8 × Nat} (s : ByteArray) (l : List UInt8) (er : Int) (m : Nat) (hx : x = (l, m)) (hs : s = ⟨l.toArray⟩) (he : er = m) (hb : Below w.heap.size w w') :
    Nm w x (.returned (.tuple #[.string s, .int .i64 er])) w' := by
  subst hx; subst hs; subst he; exact ⟨rfl, hb⟩

theorem enc_le : ∀ {L : List (List UInt8)}, okN L → (enc L).length ≤ 64 * L.length
  | [], _ => by simp [enc]
  | x :: L, h => by
    have h' := okN_cons.1 h
    have h1 := enc_le h'.2
    have h2 := h'.1.2
    rw [enc_cons, List.length_append, enc1_length, List.length_cons]
    omega

theorem badL_cons (x : List UInt8) (L : List (List UInt8)) : badL (x :: L) = if chk x = 0 then badL L else chk x := rfl
theorem badL_append : ∀ (X Y : List (List UInt8)), badL (X ++ Y) = if badL X = 0 then badL Y else badL X
  | [], Y => by simp [badL]
  | x :: X, Y => by
    rw [List.cons_append, badL_cons, badL_cons]
    by_cases h : chk x = 0
    · rw [if_pos h, if_pos h, badL_append X Y]
    · rw [if_neg h, if_neg h, if_neg h]
theorem map_take (L : List ByteArray) (k : Nat) : (L.take k).map bs = (L.map bs).take k := List.map_take
theorem take_one (L : List ByteArray) (k : Nat) (h : k < L.length) : (L.map bs).take (k + 1) = (L.map bs).take k ++ [bs L[k]] := by
  rw [List.take_succ_eq_append_getElem (by simpa using h)]
  simp
theorem drop_one (L : List ByteArray) (k : Nat) (h : k < L.length) : L.map bs = (L.map bs).take k ++ (bs L[k] :: (L.map bs).drop (k + 1)) := by
  have h' : k < (L.map bs).length := by simpa using h
  have := List.drop_eq_getElem_cons h'
  rw [List.getElem_map] at this
  rw [← this, List.take_append_drop]

/-- The relation of Make's loop. -/
def MkRel (L : List ByteArray) (w : World) (v i : Value) (wr : World) : Prop :=
  ∃ k : Nat, i = .int .i64 k ∧ k ≤ L.length ∧ okN ((L.map bs).take k) ∧ Own 5 wr w.heap.size v (enc ((L.map bs).take k)) ∧ Below w.heap.size w wr

end Go.Proofs.Ytmjhofgcfolelaa
