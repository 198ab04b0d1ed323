/-
  What name.put, Make, Read answer: the walks. Conditions: as each theorem names them. Names read: the walk of name.Read. Condition: the text is no longer than 2^30.
-/
import Derived.Test.YthlabpbplikjbaaDoorZk11
import Derived.Test.YthlabpbplikjbaaDoorZk12
import Derived.Test.YthlabpbplikjbaaDoorZk9
namespace Go.Proofs.YthlabpbplikjbaaDoor
open Go.RowKit
set_option linter.unusedVariables false

/-- What put answers: the bytes with a label behind; nothing else that lay has turned. -/
def Put (tb : TypeId) (base : Nat) (v : Value) (l : List UInt8) (w : World) (e : Ending) (w' : World) : Prop := ∃ v', e = .returned v' ∧ Own tb w' base v' l ∧ w.grownBy w' v.ownBlock
set_option maxHeartbeats 1000000 in
theorem put_any (base : Nat) (v : Value) (l : List UInt8) (x : ByteArray) (w : World) (hown : Own 5 w base v l) (hbase : base ≤ w.heap.size) (hx : x.size ≤ 63) (hl : l.length ≤ 1099511627776) :
    Calls Tryd.prog 49 #[v, .string x] w (Put 5 base v (l ++ enc1 (bs x)) w) := by
  have hb1 : [UInt8.ofNat x.size].map B = [Value.int .u8 x.size] := by
    have : (UInt8.ofNat x.size).toNat = x.size := UInt8.toNat_ofNat_of_lt' (by show _ < 256; omega)
    simp only [List.map_cons, List.map_nil, B, this]
  have hl1 : l.length + [UInt8.ofNat x.size].length ≤ 70368744177664 := by simp; omega
  have hl2 : (l ++ [UInt8.ofNat x.size]).length + x.size ≤ 70368744177664 := by simp; omega
  have he : l ++ [UInt8.ofNat x.size] ++ bs x = l ++ enc1 (bs x) := by unfold enc1; rw [bs_length]; simp
  have HB := Lib.hid hb1
  have HE := Lib.hid he
  clear hb1 he
  obtain ⟨A, cap, rfl⟩ := hown.shape
  go_enter Tryd.func49, Tryd.ntmps49
  go_wp2_with (first | (at_builtin; refine wpList_appendB bt _ rfl (.tmp 5) (.tmp 9) rfl base (.slice A l.length cap) l rfl (hown.alloc _) ⟨w.heap.size, 0, none⟩ 1 1 [UInt8.ofNat x.size] rfl rfl (cellsN _ _ _ [UInt8.ofNat x.size] HB.out.symm _ rfl) hl1 (le_alloc hbase _) ?_; intro v2 w2 hown2 hg2 hob2; have HG2 := Lib.hid hg2; have HO2 := Lib.hid hob2; clear hg2 hob2) | (at_builtin; refine wpList_appendS bt _ rfl (.tmp 10) (.tmp 11) rfl base v2 (l ++ [UInt8.ofNat x.size]) rfl hown2 x rfl hl2 (Nat.le_trans (le_alloc hbase _) HG2.out.size) ?_; intro v3 w3 hown3 hg3; have HG3 := Lib.hid hg3; clear hg3))
  go_ret
  refine ⟨v3, rfl, HE.out ▸ hown3, grown_trans (grown_alloc HG2.out) HG3.out ?_⟩
  rcases HO2.out with h | h
  · exact .inl h
  · refine .inr fun k hk => ?_
    rw [h] at hk
    injection hk with hk
    simp at hk
    omega

theorem map_take (L : List ByteArray) (k : Nat) : (L.take k).map bs = (L.map bs).take k := List.map_take
end Go.Proofs.YthlabpbplikjbaaDoor
namespace Go.Proofs.YthlabpbplikjbaaDoor
open Go.RowKit
set_option linter.unusedVariables false

end Go.Proofs.YthlabpbplikjbaaDoor
