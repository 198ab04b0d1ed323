/-
  What a packer's calls answer, but for Name and Plain: the walks. Conditions: as each theorem names them.
-/
import Derived.Test.YtbbglpjhblhkdaaGreatPkKit
import Derived.Test.YtbbglpjhblhkdaaGreatNmCheck
import Derived.Test.YtbbglpjhblhkdaaGreatPkClone
import Derived.Maps.AppendAt
namespace Go.Proofs.YtbbglpjhblhkdaaGreat
open Go.RowKit Go.Maps
set_option linter.unusedVariables false
set_option maxRecDepth 100000

theorem infoP : (Tryz.prog.info? 91).isSome = true := by kernel_rfl
theorem eqlP (w : World) (a : Addr) : (binOp .eql 49 (.pointer (some a)) (.pointer (some a))).run Tryz.prog w = .ok (.bool true) w := by
  obtain ⟨j, hj⟩ := Option.isSome_iff_exists.1 infoP
  exact run_eql_ptr_same w a Tryz.underlying49 hj
abbrev pp (g : Nat) : Value := .pointer (some ⟨g, 0, none⟩)

section
variable {w : World} {base g gw gm n M : Nat} {F : Nat → Prop} {sv : Value} {s : PS}
theorem pmade_yes (h : PK w base F g M s) : Calls Tryz.prog 44 #[pp g] w fun e w' => e = .returned (.bool true) ∧ w = w' := by
  obtain ⟨gw, gm, n, sv, h⟩ := h
  have hc : w.cell? ⟨g, 3, none⟩ = some (.pointer (some ⟨g, 0, none⟩)) := h.lies.cell 3
  have he := eqlP w ⟨g, 0, none⟩
  clear h
  go_enter Tryz.func44, Tryz.ntmps44
  go_wp2
  go_ret
  exact ⟨rfl, rfl⟩
theorem pmade_no (w : World) : Calls Tryz.prog 44 #[.pointer none] w fun e w' => e = .returned (.bool false) ∧ w = w' := by
  go_enter Tryz.func44, Tryz.ntmps44
  go_wp2
  exact bodyPost_ret (v := .bool false) (by simp [results, Tryz.results44, go_sem]) rfl ⟨rfl, rfl⟩
/-- The writer's place in the packer, as facts. -/
theorem PKx.cw (h : PKx w base F g gw gm n sv M s) : w.cell? ⟨g, 1, none⟩ = some (.pointer (some ⟨gw, 0, none⟩)) := h.lies.cell 1
theorem PKx.cm (h : PKx w base F g gw gm n sv M s) : w.cell? ⟨g, 2, none⟩ = some (.map (some gm)) := h.lies.cell 2
theorem PKx.co (h : PKx w base F g gw gm n sv M s) : w.cell? ⟨g, 0, none⟩ = some sv := h.lies.cell 0
theorem PKx.pk (h : PKx w base F g gw gm n sv M s) : PK w base F g M s := ⟨gw, gm, n, sv, h⟩

theorem pErr_any (h : PK w base F g M s) : Calls Tryz.prog 36 #[pp g] w fun e w' => e = .returned (.int .i64 s.f) ∧ w = w' := by
  have HM := Lib.hid (pmade_yes h)
  obtain ⟨gw, gm, n, sv, h⟩ := h
  have hc := h.cw
  have HW := Lib.hid (wErr_any h.wr)
  clear h
  go_enter Tryz.func36, Tryz.ntmps36
  go_wp2_with (first | (go_at_call 44; (with_reducible refine HM.out.mono ?_); rintro e w' ⟨rfl, rfl⟩) | (go_at_call 75; (with_reducible refine HW.out.mono ?_); rintro e w' ⟨rfl, rfl⟩))
  go_ret
  exact ⟨rfl, rfl⟩
theorem pLen_any (h : PK w base F g M s) : Calls Tryz.prog 17 #[pp g] w fun e w' => e = .returned (.int .i64 s.l.length) ∧ w = w' := by
  have HM := Lib.hid (pmade_yes h)
  obtain ⟨gw, gm, n, sv, h⟩ := h
  have hc := h.cw
  have HW := Lib.hid (wLen_any h.wr)
  clear h
  go_enter Tryz.func17, Tryz.ntmps17
  go_wp2_with (first | (go_at_call 44; (with_reducible refine HM.out.mono ?_); rintro e w' ⟨rfl, rfl⟩) | (go_at_call 45; (with_reducible refine HW.out.mono ?_); rintro e w' ⟨rfl, rfl⟩))
  go_ret
  exact ⟨rfl, rfl⟩
theorem pText_any (h : PK w base F g M s) : Calls Tryz.prog 19 #[pp g] w fun e w' => e = .returned (.string ⟨s.l.toArray⟩) ∧ w = w' := by
  have HM := Lib.hid (pmade_yes h)
  obtain ⟨gw, gm, n, sv, h⟩ := h
  have hc := h.cw
  have HW := Lib.hid (wText_any h.wr)
  clear h
  go_enter Tryz.func19, Tryz.ntmps19
  go_wp2_with (first | (go_at_call 44; (with_reducible refine HM.out.mono ?_); rintro e w' ⟨rfl, rfl⟩) | (go_at_call 47; (with_reducible refine HW.out.mono ?_); rintro e w' ⟨rfl, rfl⟩))
  go_ret
  exact ⟨rfl, rfl⟩
theorem pErr_nil (w : World) : Calls Tryz.prog 36 #[.pointer none] w fun e w' => e = .returned (.int .i64 1) ∧ w = w' := by
  go_enter Tryz.func36, Tryz.ntmps36
  go_wp2_with (go_at_call 44; (with_reducible refine (pmade_no _).mono ?_); rintro e w' ⟨rfl, rfl⟩)
  go_ret
  exact ⟨rfl, rfl⟩
theorem pLen_nil (w : World) : Calls Tryz.prog 17 #[.pointer none] w fun e w' => e = .returned (.int .i64 0) ∧ w = w' := by
  go_enter Tryz.func17, Tryz.ntmps17
  go_wp2_with (go_at_call 44; (with_reducible refine (pmade_no _).mono ?_); rintro e w' ⟨rfl, rfl⟩)
  go_ret
  exact ⟨rfl, rfl⟩
theorem pText_nil (w : World) : Calls Tryz.prog 19 #[.pointer none] w fun e w' => e = .returned (.string ⟨#[]⟩) ∧ w = w' := by
  go_enter Tryz.func19, Tryz.ntmps19
  go_wp2_with (go_at_call 44; (with_reducible refine (pmade_no _).mono ?_); rintro e w' ⟨rfl, rfl⟩)
  go_ret
  exact ⟨rfl, rfl⟩
theorem pPut_nil (x : ByteArray) (w : World) : Calls Tryz.prog 128 #[.pointer none, .string x] w fun e w' => e = .returned (.int .i64 1) ∧ w = w' := by
  go_enter Tryz.func128, Tryz.ntmps128
  go_wp2_with (go_at_call 44; (with_reducible refine (pmade_no _).mono ?_); rintro e w' ⟨rfl, rfl⟩)
  go_ret
  exact ⟨rfl, rfl⟩
theorem pNumber_nil (v k : Int) (w : World) : Calls Tryz.prog 32 #[.pointer none, .int .u32 v, .int .i64 k] w fun e w' => e = .returned (.int .i64 1) ∧ w = w' := by
  go_enter Tryz.func32, Tryz.ntmps32
  go_wp2_with (go_at_call 44; (with_reducible refine (pmade_no _).mono ?_); rintro e w' ⟨rfl, rfl⟩)
  go_ret
  exact ⟨rfl, rfl⟩
theorem prefusal_nil (x : ByteArray) (w : World) : Calls Tryz.prog 76 #[.pointer none, .string x] w fun e w' => e = .returned (.int .i64 1) ∧ w = w' := by
  go_enter Tryz.func76, Tryz.ntmps76
  go_wp2_with (go_at_call 36; (with_reducible refine (pErr_nil _).mono ?_); rintro e w' ⟨rfl, rfl⟩)
  go_ret
  exact ⟨rfl, rfl⟩
theorem pName_nil (x : ByteArray) (w : World) : Calls Tryz.prog 37 #[.pointer none, .string x] w fun e w' => e = .returned (.int .i64 1) ∧ w = w' := by
  go_enter Tryz.func37, Tryz.ntmps37
  go_wp2_with (go_at_call 76; (with_reducible refine (prefusal_nil _ _).mono ?_); rintro e w' ⟨rfl, rfl⟩)
  go_ret
  exact ⟨rfl, rfl⟩
theorem pPlain_nil (x : ByteArray) (w : World) : Calls Tryz.prog 171 #[.pointer none, .string x] w fun e w' => e = .returned (.int .i64 1) ∧ w = w' := by
  go_enter Tryz.func171, Tryz.ntmps171
  go_wp2_with (go_at_call 76; (with_reducible refine (prefusal_nil _ _).mono ?_); rintro e w' ⟨rfl, rfl⟩)
  go_ret
  exact ⟨rfl, rfl⟩
theorem pEnd_nil (k : Int) (w : World) : Calls Tryz.prog 35 #[.pointer none, .int .i64 k] w fun e w' => e = .returned (.int .i64 1) ∧ w = w' := by
  go_enter Tryz.func35, Tryz.ntmps35
  go_wp2_with (go_at_call 36; (with_reducible refine (pErr_nil _).mono ?_); rintro e w' ⟨rfl, rfl⟩)
  go_ret
  exact ⟨rfl, rfl⟩
theorem pBegin_nil (w : World) : Calls Tryz.prog 33 #[.pointer none] w fun e w' => e = .returned (.tuple #[.int .i64 0, .int .i64 1]) ∧ w = w' := by
  go_enter Tryz.func33, Tryz.ntmps33
  go_wp2_with (first | (go_at_call 17; (with_reducible refine (pLen_nil _).mono ?_); rintro e w' ⟨rfl, rfl⟩) | (go_at_call 32; (with_reducible refine (pNumber_nil _ _ _).mono ?_); rintro e w' ⟨rfl, rfl⟩))
  go_ret2
  exact ⟨rfl, rfl⟩

/-! ### cut, Size, refusal -/
theorem pcut_any (r : ByteArray) (w : World) (c : UInt8) (t : List UInt8) (hr : bs r = c :: t) (hc : c.toNat ≤ t.length) (hs : r.size ≤ 1099511627776) (x y : ByteArray) (hx : bs x = headN (bs r)) (hy : bs y = restN (bs r)) :
    Calls Tryz.prog 78 #[.string r] w fun e w' => e = .returned (.tuple #[.string x, .string y]) ∧ Below w.heap.size w w' := by
  have h0 : 0 < r.size := by rw [← bs_length, hr]; simp
  have hn : r.size = t.length + 1 := by rw [← bs_length, hr]; simp
  have hh : r[0] = c := by
    have := head_at r h0
    rw [hr] at this
    injection this with h _
    exact h.symm
  have hX : Hid (r.extract 0 (1 + r[0].toNat) = x) := Lib.hid (bs_inj (by rw [bs_extract, hx, hr, hh, headN, List.headD_cons]; simp))
  have hY : Hid (r.extract (1 + r[0].toNat) r.size = y) := Lib.hid (bs_inj (by rw [bs_extract, hy, hr, hh, restN, List.headD_cons, List.take_of_length_le (by rw [List.length_drop, ← hr, bs_length]; omega)]))
  have hcl : r[0].toNat + 1 ≤ r.size := by rw [hh]; omega
  clear hr hc hn hh hx hy
  go_enter Tryz.func78, Tryz.ntmps78
  go_wp2
  go_quiet (fail)
  go_wp2
  go_ret2
  rw [hX.out, hY.out]
  exact ⟨rfl, below_draws (Below.refl _ _) _⟩
theorem pSize_any (x : ByteArray) (w : World) (hs : x.size ≤ maxLen) :
    Calls Tryz.prog 41 #[.string x] w fun e w' => e = .returned (.int .i64 (sizeN (bs x))) ∧ Below w.heap.size w w' := by
  have HC := Lib.hid (nCheck_any x w hs)
  unfold maxLen at hs
  by_cases h : chkN (bs x) = 0
  · have h254 : x.size ≤ 254 := by have := (chkN_iff.1 h).1; rw [bs_length] at this; exact this
    have hv : Hid (sizeN (bs x) = x.size + 1) := Lib.hid (by unfold sizeN; rw [if_pos h, bs_length])
    rw [h] at HC
    clear h
    go_enter Tryz.func41, Tryz.ntmps41
    go_wp2_with (go_at_call 39; (with_reducible refine HC.out.mono ?_); rintro e w' ⟨rfl, hb⟩; have HB := Lib.hid hb; clear hb)
    go_ret
    rw [hv.out]
    exact ⟨rfl, HB.out⟩
  · have hv : Hid (sizeN (bs x) = 0) := Lib.hid (if_neg h)
    have hne : (((chkN (bs x) : Nat) : Int) != 0) = true := by rw [bne_iff_ne]; omega
    clear h
    go_enter Tryz.func41, Tryz.ntmps41
    go_wp2_with (go_at_call 39; (with_reducible refine HC.out.mono ?_); rintro e w' ⟨rfl, hb⟩; have HB := Lib.hid hb; clear hb)
    go_ret
    rw [hv.out]
    exact ⟨rfl, HB.out⟩
/-- Why a name is not put at all. -/
def refN (s : PS) (n : List UInt8) : Nat := if s.f ≠ 0 then s.f else chkN n
theorem prefusal_any (h : PK w base F g M s) (x : ByteArray) (hs : x.size ≤ maxLen) :
    Calls Tryz.prog 76 #[pp g, .string x] w fun e w' => e = .returned (.int .i64 (refN s (bs x))) ∧ Below w.heap.size w w' := by
  have HE := Lib.hid (pErr_any h)
  have HC := Lib.hid (nCheck_any x w hs)
  clear h
  by_cases hf : s.f = 0
  · have hv : Hid (refN s (bs x) = chkN (bs x)) := Lib.hid (by unfold refN; rw [if_neg (by simp [hf])])
    rw [hf] at HE
    clear hf
    go_enter Tryz.func76, Tryz.ntmps76
    go_wp2_with (first | (go_at_call 36; (with_reducible refine HE.out.mono ?_); rintro e w' ⟨rfl, rfl⟩) | (go_at_call 39; (with_reducible refine HC.out.mono ?_); rintro e w' ⟨rfl, hb⟩; have HB := Lib.hid hb; clear hb))
    go_ret
    rw [hv.out]
    exact ⟨rfl, HB.out⟩
  · have hv : Hid (refN s (bs x) = s.f) := Lib.hid (by unfold refN; rw [if_pos hf])
    have hne : ((s.f : Int) != 0) = true := by rw [bne_iff_ne]; omega
    clear hf
    go_enter Tryz.func76, Tryz.ntmps76
    go_wp2_with (go_at_call 36; (with_reducible refine HE.out.mono ?_); rintro e w' ⟨rfl, rfl⟩)
    go_ret
    rw [hv.out]
    exact ⟨rfl, Below.refl _ _⟩
end
end Go.Proofs.YtbbglpjhblhkdaaGreat
