/-
  What a packer's calls answer, but for Name and Plain: the walks. Conditions: as each theorem names them.
-/
import Derived.Test.YtodedbokeodmkaaGreatZk12
import Derived.Test.YtodedbokeodmkaaGreatZk18
import Derived.Test.YtodedbokeodmkaaGreatZk19
import Derived.Maps.AppendAt
namespace Go.Proofs.YtodedbokeodmkaaGreat
open Go.RowKit Go.Maps
set_option linter.unusedVariables false
set_option maxRecDepth 100000

theorem infoP : (Tryz.prog.info? 75).isSome = true := by kernel_rfl
theorem eqlP (w : World) (a : Addr) : (binOp .eql 35 (.pointer (some a)) (.pointer (some a))).run Tryz.prog w = .ok (.bool true) w := by
  obtain ⟨j, hj⟩ := Option.isSome_iff_exists.1 infoP
  exact run_eql_ptr_same w a Tryz.underlying35 hj
abbrev pp (g : Nat) : Value := .pointer (some ⟨g, 0, none⟩)

section
variable {w : World} {base g gw gm n M : Nat} {F : Nat → Prop} {sv : Value} {s : PS}
theorem pmade_yes (h : PK w base F g M s) : Calls Tryz.prog 41 #[pp g] w fun e w' => e = .returned (.bool true) ∧ w = w' := by
  obtain ⟨gw, gm, n, sv, h⟩ := h
  have hc : w.cell? ⟨g, 3, none⟩ = some (.pointer (some ⟨g, 0, none⟩)) := h.lies.cell 3
  have he := eqlP w ⟨g, 0, none⟩
  clear h
  go_enter Tryz.func41, Tryz.ntmps41
  go_wp2
  go_ret
  exact ⟨rfl, rfl⟩
/-- The writer's place in the packer, as facts. -/
theorem PKx.cw (h : PKx w base F g gw gm n sv M s) : w.cell? ⟨g, 1, none⟩ = some (.pointer (some ⟨gw, 0, none⟩)) := h.lies.cell 1
theorem PKx.cm (h : PKx w base F g gw gm n sv M s) : w.cell? ⟨g, 2, none⟩ = some (.map (some gm)) := h.lies.cell 2
theorem PKx.co (h : PKx w base F g gw gm n sv M s) : w.cell? ⟨g, 0, none⟩ = some sv := h.lies.cell 0
theorem PKx.pk (h : PKx w base F g gw gm n sv M s) : PK w base F g M s := ⟨gw, gm, n, sv, h⟩

theorem pErr_any (h : PK w base F g M s) : Calls Tryz.prog 38 #[pp g] w fun e w' => e = .returned (.int .i64 s.f) ∧ w = w' := by
  have HM := Lib.hid (pmade_yes h)
  obtain ⟨gw, gm, n, sv, h⟩ := h
  have hc := h.cw
  have HW := Lib.hid (wErr_any h.wr)
  clear h
  go_enter Tryz.func38, Tryz.ntmps38
  go_wp2_with (first | (go_at_call 41; (with_reducible refine HM.out.mono ?_); rintro e w' ⟨rfl, rfl⟩) | (go_at_call 80; (with_reducible refine HW.out.mono ?_); rintro e w' ⟨rfl, rfl⟩))
  go_ret
  exact ⟨rfl, rfl⟩
theorem pLen_any (h : PK w base F g M s) : Calls Tryz.prog 73 #[pp g] w fun e w' => e = .returned (.int .i64 s.l.length) ∧ w = w' := by
  have HM := Lib.hid (pmade_yes h)
  obtain ⟨gw, gm, n, sv, h⟩ := h
  have hc := h.cw
  have HW := Lib.hid (wLen_any h.wr)
  clear h
  go_enter Tryz.func73, Tryz.ntmps73
  go_wp2_with (first | (go_at_call 41; (with_reducible refine HM.out.mono ?_); rintro e w' ⟨rfl, rfl⟩) | (go_at_call 78; (with_reducible refine HW.out.mono ?_); rintro e w' ⟨rfl, rfl⟩))
  go_ret
  exact ⟨rfl, rfl⟩
theorem pText_any (h : PK w base F g M s) : Calls Tryz.prog 11 #[pp g] w fun e w' => e = .returned (.string ⟨s.l.toArray⟩) ∧ w = w' := by
  have HM := Lib.hid (pmade_yes h)
  obtain ⟨gw, gm, n, sv, h⟩ := h
  have hc := h.cw
  have HW := Lib.hid (wText_any h.wr)
  clear h
  go_enter Tryz.func11, Tryz.ntmps11
  go_wp2_with (first | (go_at_call 41; (with_reducible refine HM.out.mono ?_); rintro e w' ⟨rfl, rfl⟩) | (go_at_call 42; (with_reducible refine HW.out.mono ?_); rintro e w' ⟨rfl, rfl⟩))
  go_ret
  exact ⟨rfl, rfl⟩
/-! ### cut, Size, refusal -/
theorem pcut_any (r : ByteArray) (w : World) (c : UInt8) (t : List UInt8) (hr : bs r = c :: t) (hc : c.toNat ≤ t.length) (hs : r.size ≤ 1099511627776) (x y : ByteArray) (hx : bs x = headN (bs r)) (hy : bs y = restN (bs r)) :
    Calls Tryz.prog 105 #[.string r] w fun e w' => e = .returned (.tuple #[.string x, .string y]) ∧ Below w.heap.size w w' := by
  have h0 : 0 < r.size := by rw [← bs_length, hr]; simp
  have hn : r.size = t.length + 1 := by rw [← bs_length, hr]; simp
  have hh : r[0] = c := by
    have := head_at r h0
    rw [hr] at this
    injection this with h _
    exact h.symm
  have hX : Hid (r.extract 0 (1 + r[0].toNat) = x) := Lib.hid (bs_inj (by rw [bs_extract, hx, hr, hh, headN, List.headD_cons]; simp))
  have hY : Hid (r.extract (1 + r[0].toNat) r.size = y) := Lib.hid (bs_inj (by rw [bs_extract, hy, hr, hh, restN, List.headD_cons, List.take_of_length_le (by rw [List.length_drop, ← hr, bs_length]; omega)]))
  have hcl : r[0].toNat + 1 ≤ r.size := by rw [hh]; omega
  clear hr hc hn hh hx hy
  go_enter Tryz.func105, Tryz.ntmps105
  go_wp2
  go_quiet (fail)
  go_wp2
  go_ret2
  rw [hX.out, hY.out]
  exact ⟨rfl, below_draws (Below.refl _ _) _⟩
theorem pSize_any (x : ByteArray) (w : World) (hs : x.size ≤ maxLen) :
    Calls Tryz.prog 69 #[.string x] w fun e w' => e = .returned (.int .i64 (sizeN (bs x))) ∧ Below w.heap.size w w' := by
  have HC := Lib.hid (nCheck_any x w hs)
  unfold maxLen at hs
  by_cases h : chkN (bs x) = 0
  · have h254 : x.size ≤ 254 := by have := (chkN_iff.1 h).1; rw [bs_length] at this; exact this
    have hv : Hid (sizeN (bs x) = x.size + 1) := Lib.hid (by unfold sizeN; rw [if_pos h, bs_length])
    rw [h] at HC
    clear h
    go_enter Tryz.func69, Tryz.ntmps69
    go_wp2_with (go_at_call 81; (with_reducible refine HC.out.mono ?_); rintro e w' ⟨rfl, hb⟩; have HB := Lib.hid hb; clear hb)
    go_ret
    rw [hv.out]
    exact ⟨rfl, HB.out⟩
  · have hv : Hid (sizeN (bs x) = 0) := Lib.hid (if_neg h)
    have hne : (((chkN (bs x) : Nat) : Int) != 0) = true := by rw [bne_iff_ne]; omega
    clear h
    go_enter Tryz.func69, Tryz.ntmps69
    go_wp2_with (go_at_call 81; (with_reducible refine HC.out.mono ?_); rintro e w' ⟨rfl, hb⟩; have HB := Lib.hid hb; clear hb)
    go_ret
    rw [hv.out]
    exact ⟨rfl, HB.out⟩
/-- Why a name is not put at all. -/
def refN (s : PS) (n : List UInt8) : Nat := if s.f ≠ 0 then s.f else chkN n
theorem prefusal_any (h : PK w base F g M s) (x : ByteArray) (hs : x.size ≤ maxLen) :
    Calls Tryz.prog 103 #[pp g, .string x] w fun e w' => e = .returned (.int .i64 (refN s (bs x))) ∧ Below w.heap.size w w' := by
  have HE := Lib.hid (pErr_any h)
  have HC := Lib.hid (nCheck_any x w hs)
  clear h
  by_cases hf : s.f = 0
  · have hv : Hid (refN s (bs x) = chkN (bs x)) := Lib.hid (by unfold refN; rw [if_neg (by simp [hf])])
    rw [hf] at HE
    clear hf
    go_enter Tryz.func103, Tryz.ntmps103
    go_wp2_with (first | (go_at_call 38; (with_reducible refine HE.out.mono ?_); rintro e w' ⟨rfl, rfl⟩) | (go_at_call 81; (with_reducible refine HC.out.mono ?_); rintro e w' ⟨rfl, hb⟩; have HB := Lib.hid hb; clear hb))
    go_ret
    rw [hv.out]
    exact ⟨rfl, HB.out⟩
  · have hv : Hid (refN s (bs x) = s.f) := Lib.hid (by unfold refN; rw [if_pos hf])
    have hne : ((s.f : Int) != 0) = true := by rw [bne_iff_ne]; omega
    clear hf
    go_enter Tryz.func103, Tryz.ntmps103
    go_wp2_with (go_at_call 38; (with_reducible refine HE.out.mono ?_); rintro e w' ⟨rfl, rfl⟩)
    go_ret
    rw [hv.out]
    exact ⟨rfl, Below.refl _ _⟩
end
end Go.Proofs.YtodedbokeodmkaaGreat
