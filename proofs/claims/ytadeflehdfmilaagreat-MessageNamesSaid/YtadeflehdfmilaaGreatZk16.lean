/-
  What a packer's calls answer, but for Name and Plain: the walks. Conditions: as each theorem names them. What a packer's New, Put, Number, Begin, End answer, and its own keep, begin, end: the walks. Conditions: as each theorem names them.
-/
import Derived.Test.YtadeflehdfmilaaGreatZk9
import Derived.Test.YtadeflehdfmilaaGreatZk14
import Derived.Test.YtadeflehdfmilaaGreatZk15
import Derived.Maps.AppendAt
namespace Go.Proofs.YtadeflehdfmilaaGreat
open Go.RowKit Go.Maps
set_option linter.unusedVariables false
set_option maxRecDepth 100000

theorem infoP : (Tryz.prog.info? 80).isSome = true := by kernel_rfl
theorem eqlP (w : World) (a : Addr) : (binOp .eql 35 (.pointer (some a)) (.pointer (some a))).run Tryz.prog w = .ok (.bool true) w := by
  obtain ⟨j, hj⟩ := Option.isSome_iff_exists.1 infoP
  exact run_eql_ptr_same w a Tryz.underlying35 hj
abbrev pp (g : Nat) : Value := .pointer (some ⟨g, 0, none⟩)

section
variable {w : World} {base g gw gm n M : Nat} {F : Nat → Prop} {sv : Value} {s : PS}
theorem pmade_yes (h : PK w base F g M s) : Calls Tryz.prog 46 #[pp g] w fun e w' => e = .returned (.bool true) ∧ w = w' := by
  obtain ⟨gw, gm, n, sv, h⟩ := h
  have hc : w.cell? ⟨g, 3, none⟩ = some (.pointer (some ⟨g, 0, none⟩)) := h.lies.cell 3
  have he := eqlP w ⟨g, 0, none⟩
  clear h
  go_enter Tryz.func46, Tryz.ntmps46
  go_wp2
  go_ret
  exact ⟨rfl, rfl⟩
/-- The writer's place in the packer, as facts. -/
theorem PKx.cw (h : PKx w base F g gw gm n sv M s) : w.cell? ⟨g, 1, none⟩ = some (.pointer (some ⟨gw, 0, none⟩)) := h.lies.cell 1
theorem PKx.cm (h : PKx w base F g gw gm n sv M s) : w.cell? ⟨g, 2, none⟩ = some (.map (some gm)) := h.lies.cell 2
theorem PKx.co (h : PKx w base F g gw gm n sv M s) : w.cell? ⟨g, 0, none⟩ = some sv := h.lies.cell 0
theorem PKx.pk (h : PKx w base F g gw gm n sv M s) : PK w base F g M s := ⟨gw, gm, n, sv, h⟩

theorem pErr_any (h : PK w base F g M s) : Calls Tryz.prog 43 #[pp g] w fun e w' => e = .returned (.int .i64 s.f) ∧ w = w' := by
  have HM := Lib.hid (pmade_yes h)
  obtain ⟨gw, gm, n, sv, h⟩ := h
  have hc := h.cw
  have HW := Lib.hid (wErr_any h.wr)
  clear h
  go_enter Tryz.func43, Tryz.ntmps43
  go_wp2_with (first | (go_at_call 46; (with_reducible refine HM.out.mono ?_); rintro e w' ⟨rfl, rfl⟩) | (go_at_call 89; (with_reducible refine HW.out.mono ?_); rintro e w' ⟨rfl, rfl⟩))
  go_ret
  exact ⟨rfl, rfl⟩
theorem pLen_any (h : PK w base F g M s) : Calls Tryz.prog 82 #[pp g] w fun e w' => e = .returned (.int .i64 s.l.length) ∧ w = w' := by
  have HM := Lib.hid (pmade_yes h)
  obtain ⟨gw, gm, n, sv, h⟩ := h
  have hc := h.cw
  have HW := Lib.hid (wLen_any h.wr)
  clear h
  go_enter Tryz.func82, Tryz.ntmps82
  go_wp2_with (first | (go_at_call 46; (with_reducible refine HM.out.mono ?_); rintro e w' ⟨rfl, rfl⟩) | (go_at_call 87; (with_reducible refine HW.out.mono ?_); rintro e w' ⟨rfl, rfl⟩))
  go_ret
  exact ⟨rfl, rfl⟩
theorem pText_any (h : PK w base F g M s) : Calls Tryz.prog 13 #[pp g] w fun e w' => e = .returned (.string ⟨s.l.toArray⟩) ∧ w = w' := by
  have HM := Lib.hid (pmade_yes h)
  obtain ⟨gw, gm, n, sv, h⟩ := h
  have hc := h.cw
  have HW := Lib.hid (wText_any h.wr)
  clear h
  go_enter Tryz.func13, Tryz.ntmps13
  go_wp2_with (first | (go_at_call 46; (with_reducible refine HM.out.mono ?_); rintro e w' ⟨rfl, rfl⟩) | (go_at_call 47; (with_reducible refine HW.out.mono ?_); rintro e w' ⟨rfl, rfl⟩))
  go_ret
  exact ⟨rfl, rfl⟩
/-! ### cut, Size, refusal -/
theorem pcut_any (r : ByteArray) (w : World) (c : UInt8) (t : List UInt8) (hr : bs r = c :: t) (hc : c.toNat ≤ t.length) (hs : r.size ≤ 1099511627776) (x y : ByteArray) (hx : bs x = headN (bs r)) (hy : bs y = restN (bs r)) :
    Calls Tryz.prog 114 #[.string r] w fun e w' => e = .returned (.tuple #[.string x, .string y]) ∧ Below w.heap.size w w' := by
  have h0 : 0 < r.size := by rw [← bs_length, hr]; simp
  have hn : r.size = t.length + 1 := by rw [← bs_length, hr]; simp
  have hh : r[0] = c := by
    have := head_at r h0
    rw [hr] at this
    injection this with h _
    exact h.symm
  have hX : Hid (r.extract 0 (1 + r[0].toNat) = x) := Lib.hid (bs_inj (by rw [bs_extract, hx, hr, hh, headN, List.headD_cons]; simp))
  have hY : Hid (r.extract (1 + r[0].toNat) r.size = y) := Lib.hid (bs_inj (by rw [bs_extract, hy, hr, hh, restN, List.headD_cons, List.take_of_length_le (by rw [List.length_drop, ← hr, bs_length]; omega)]))
  have hcl : r[0].toNat + 1 ≤ r.size := by rw [hh]; omega
  clear hr hc hn hh hx hy
  go_enter Tryz.func114, Tryz.ntmps114
  go_wp2
  go_quiet (fail)
  go_wp2
  go_ret2
  rw [hX.out, hY.out]
  exact ⟨rfl, below_draws (Below.refl _ _) _⟩
theorem pSize_any (x : ByteArray) (w : World) (hs : x.size ≤ maxLen) :
    Calls Tryz.prog 78 #[.string x] w fun e w' => e = .returned (.int .i64 (sizeN (bs x))) ∧ Below w.heap.size w w' := by
  have HC := Lib.hid (nCheck_any x w hs)
  unfold maxLen at hs
  by_cases h : chkN (bs x) = 0
  · have h254 : x.size ≤ 254 := by have := (chkN_iff.1 h).1; rw [bs_length] at this; exact this
    have hv : Hid (sizeN (bs x) = x.size + 1) := Lib.hid (by unfold sizeN; rw [if_pos h, bs_length])
    rw [h] at HC
    clear h
    go_enter Tryz.func78, Tryz.ntmps78
    go_wp2_with (go_at_call 90; (with_reducible refine HC.out.mono ?_); rintro e w' ⟨rfl, hb⟩; have HB := Lib.hid hb; clear hb)
    go_ret
    rw [hv.out]
    exact ⟨rfl, HB.out⟩
  · have hv : Hid (sizeN (bs x) = 0) := Lib.hid (if_neg h)
    have hne : (((chkN (bs x) : Nat) : Int) != 0) = true := by rw [bne_iff_ne]; omega
    clear h
    go_enter Tryz.func78, Tryz.ntmps78
    go_wp2_with (go_at_call 90; (with_reducible refine HC.out.mono ?_); rintro e w' ⟨rfl, hb⟩; have HB := Lib.hid hb; clear hb)
    go_ret
    rw [hv.out]
    exact ⟨rfl, HB.out⟩
/-- Why a name is not put at all. -/
def refN (s : PS) (n : List UInt8) : Nat := if s.f ≠ 0 then s.f else chkN n
theorem prefusal_any (h : PK w base F g M s) (x : ByteArray) (hs : x.size ≤ maxLen) :
    Calls Tryz.prog 112 #[pp g, .string x] w fun e w' => e = .returned (.int .i64 (refN s (bs x))) ∧ Below w.heap.size w w' := by
  have HE := Lib.hid (pErr_any h)
  have HC := Lib.hid (nCheck_any x w hs)
  clear h
  by_cases hf : s.f = 0
  · have hv : Hid (refN s (bs x) = chkN (bs x)) := Lib.hid (by unfold refN; rw [if_neg (by simp [hf])])
    rw [hf] at HE
    clear hf
    go_enter Tryz.func112, Tryz.ntmps112
    go_wp2_with (first | (go_at_call 43; (with_reducible refine HE.out.mono ?_); rintro e w' ⟨rfl, rfl⟩) | (go_at_call 90; (with_reducible refine HC.out.mono ?_); rintro e w' ⟨rfl, hb⟩; have HB := Lib.hid hb; clear hb))
    go_ret
    rw [hv.out]
    exact ⟨rfl, HB.out⟩
  · have hv : Hid (refN s (bs x) = s.f) := Lib.hid (by unfold refN; rw [if_pos hf])
    have hne : ((s.f : Int) != 0) = true := by rw [bne_iff_ne]; omega
    clear hf
    go_enter Tryz.func112, Tryz.ntmps112
    go_wp2_with (go_at_call 43; (with_reducible refine HE.out.mono ?_); rintro e w' ⟨rfl, rfl⟩)
    go_ret
    rw [hv.out]
    exact ⟨rfl, Below.refl _ _⟩
end
end Go.Proofs.YtadeflehdfmilaaGreat
namespace Go.Proofs.YtadeflehdfmilaaGreat
open Go.RowKit Go.Maps
set_option linter.unusedVariables false

/-- What New does. -/
def NewP (w : World) (M : Nat) (e : Ending) (w' : World) : Prop := ∃ g F, e = .returned (pp g) ∧ PK w' w.heap.size F g M ps0 ∧ Below w.heap.size w w'
theorem NewP.mk {w w1 : World} {M : Nat} (hM : M ≤ 65535) (h : WR w1 w.heap.size w.heap.size M [] 0) (hr : rowOf w1 w.heap.size = none) (hb : Below w.heap.size w w1) :
    NewP w M (.returned (pp (w1.heap.size + 1))) ((w1.alloc (.map #[] 0)).alloc (.cells #[.slice none 0 0, .pointer (some ⟨w.heap.size, 0, none⟩), .map (some w1.heap.size), pp (w1.heap.size + 1)] 80)) := by
  have hs2 : (w1.alloc (.map #[] 0)).heap.size = w1.heap.size + 1 := by simp
  rw [← hs2]
  obtain ⟨w2, h2⟩ : ∃ w2, w2 = w1.alloc (.map #[] 0) := ⟨_, rfl⟩
  have hw12 : Below w1.heap.size w1 w2 := by rw [h2]; exact (Below.refl _ _).alloc (Nat.le_refl _) _
  have hm2 : MapIs w2 w1.heap.size 0 (fun _ => none) := by rw [h2]; exact MapIs.new w1
  rw [← h2] at hs2 ⊢
  clear h2
  have hL4 := Lies.new w2 80 #[.slice none 0 0, .pointer (some ⟨w.heap.size, 0, none⟩), .map (some w1.heap.size), pp w2.heap.size]
  have h24 : Below w2.heap.size w2 (w2.alloc (.cells #[.slice none 0 0, .pointer (some ⟨w.heap.size, 0, none⟩), .map (some w1.heap.size), pp w2.heap.size] 80)) := (Below.refl _ _).alloc (Nat.le_refl _) _
  have h14 := hw12.trans (h24.mono hw12.size)
  have hw := h.next h14
  have hsz1 := hb.size
  have hsz := hw12.size
  have hsz4 := h24.size
  have hlt4 := hL4.lt
  have hmlt := hm2.lt
  refine ⟨_, Gw (fun _ => False) w _, rfl, ⟨w.heap.size, w1.heap.size, 0, .slice none 0 0, hL4, hw, OwnI.nil _ _, hm2.same (h24.block _ hmlt), Nat.zero_le _, inv0 hM, by omega, Nat.le_refl _, by omega, .inr ⟨by omega, hlt4⟩, .inr ⟨Nat.le_refl _, by omega⟩, .inr ⟨by omega, by omega⟩, (fun k (hk : (none : Option Nat) = some k) => nomatch hk), fun k hk => ?_, fun k hk => hk.elim False.elim id⟩, hb.trans (h14.mono hsz1)⟩
  rw [rowOf_same (h14.block _ h.lt), hr] at hk
  cases hk
set_option maxHeartbeats 1000000 in
theorem pNew_any (n : Int) (w : World) (hn : n ≤ 9223372036854775807) :
    Calls Tryz.prog 10 #[.int .i64 n] w (NewP w (min n 65535).toNat) := by
  have hmm := @run_makeMap Tryz.prog
  have hM : (min n 65535).toNat ≤ 65535 := by omega
  have HN := Lib.hid (NewWriter_any (min n 65535) w (by omega))
  have HP := Lib.hid fun w1 (h : WR w1 w.heap.size w.heap.size (min n 65535).toNat [] 0) hr hb => NewP.mk hM h hr hb
  obtain ⟨M, hM'⟩ : ∃ M, M = (min n 65535).toNat := ⟨_, rfl⟩
  rw [← hM'] at HP HN ⊢
  clear hM hM'
  go_enter Tryz.func10, Tryz.ntmps10
  go_wp2_with (go_at_call 35; (with_reducible refine HN.out.mono ?_); rintro e w1 ⟨rfl, hw1, hr1, hb1⟩; have HW := Lib.hid hw1; have HR := Lib.hid hr1; have HB := Lib.hid hb1; clear hw1 hr1 hb1)
  go_ret
  exact HP.out _ HW.out HR.out HB.out

section
variable {w : World} {base g M : Nat} {F : Nat → Prop} {s : PS}
theorem PKx.wput {gw gm n : Nat} {sv : Value} (h : PKx w base F g gw gm n sv M s) (x : ByteArray) (hs : x.size ≤ 1099511627776) :
    Calls Tryz.prog 115 #[.pointer (some ⟨gw, 0, none⟩), .string x] w (Pkr w base F g M (putS M s (bs x)).2 (.int .i64 (putS M s (bs x)).1)) := by
  have h1 := h.inv.le
  have h2 := h.inv.most
  refine (wPut_any x h.wr h.bw h1 (by omega) (by omega) hs).mono ?_
  rintro e w' ⟨rfl, hw, hk⟩
  obtain ⟨a, b⟩ := h.writer hw hk (putW_grow ..) (h.inv.put (bs x))
  exact ⟨rfl, _, a.pk, b⟩
theorem PKx.wnum {gw gm n : Nat} {sv : Value} (h : PKx w base F g gw gm n sv M s) (v : Nat) (k : Int) (hv : v < 4294967296) :
    Calls Tryz.prog 81 #[.pointer (some ⟨gw, 0, none⟩), .int .u32 v, .int .i64 k] w (Pkr w base F g M (numS M s v k).2 (.int .i64 (numS M s v k).1)) := by
  have h1 := h.inv.le
  have h2 := h.inv.most
  refine (wNumber_any v k h.wr hv h.bw h1 (by omega) (by omega)).mono ?_
  rintro e w' ⟨rfl, hw, hk⟩
  obtain ⟨a, b⟩ := h.writer hw hk (numW_grow ..) (h.inv.num v k)
  exact ⟨rfl, _, a.pk, b⟩
theorem pPut_any (h : PK w base F g M s) (x : ByteArray) (hs : x.size ≤ 1099511627776) :
    Calls Tryz.prog 99 #[pp g, .string x] w (Pkr w base F g M (putS M s (bs x)).2 (.int .i64 (putS M s (bs x)).1)) := by
  have HM := Lib.hid (pmade_yes h)
  obtain ⟨gw, gm, n, sv, h⟩ := h
  have hc := h.cw
  have HW := Lib.hid (h.wput x hs)
  clear h
  obtain ⟨q, hq⟩ : ∃ q, putS M s (bs x) = q := ⟨_, rfl⟩
  rw [hq] at HW ⊢
  clear hq
  go_enter Tryz.func99, Tryz.ntmps99
  go_wp2_with (first | (go_at_call 46; (with_reducible refine HM.out.mono ?_); rintro e w' ⟨rfl, rfl⟩) | (go_at_call 115; (with_reducible refine HW.out.mono ?_); rintro e w' ⟨rfl, hp⟩; have HP := Lib.hid hp; clear hp))
  go_ret
  exact ⟨rfl, HP.out⟩
theorem pNumber_any (h : PK w base F g M s) (v : Nat) (k : Int) (hv : v < 4294967296) :
    Calls Tryz.prog 39 #[pp g, .int .u32 v, .int .i64 k] w (Pkr w base F g M (numS M s v k).2 (.int .i64 (numS M s v k).1)) := by
  have HM := Lib.hid (pmade_yes h)
  obtain ⟨gw, gm, n, sv, h⟩ := h
  have hc := h.cw
  have HW := Lib.hid (h.wnum v k hv)
  clear h
  obtain ⟨q, hq⟩ : ∃ q, numS M s v k = q := ⟨_, rfl⟩
  rw [hq] at HW ⊢
  clear hq
  go_enter Tryz.func39, Tryz.ntmps39
  go_wp2_with (first | (go_at_call 46; (with_reducible refine HM.out.mono ?_); rintro e w' ⟨rfl, rfl⟩) | (go_at_call 81; (with_reducible refine HW.out.mono ?_); rintro e w' ⟨rfl, hp⟩; have HP := Lib.hid hp; clear hp))
  go_ret
  exact ⟨rfl, HP.out⟩
set_option maxRecDepth 100000 in
/-- keep: a rest that stands at a place. -/
theorem pkeep_any {gw gm n : Nat} {sv : Value} (h : PKx w base F g gw gm n sv M s) (r : ByteArray) (a : Nat) (hs : r.size ≤ maxLen) (ha : a ≤ 65535) (hn : n + 1 ≤ s.l.length) :
    Calls Tryz.prog 116 #[pp g, .string r, .int .i64 a] w (Pkr w base F g M (keepS s (bs r) a) (.tuple #[])) := by
  have hc := h.cm
  have hi := h.inv
  by_cases hlt : a < 16384
  · have hd : decide ((a : Int) < 16384) = true := by simpa using (by omega : (a : Int) < 16384)
    have hv : Hid (keepS s (bs r) a = { s with m := upd s.m (bs r) a }) := Lib.hid (if_pos hlt)
    have hm := h.mp
    have HK := Lib.hid fun w1 (h1 : MapIs w1 gm (n + 1) (upd s.m (bs r) a)) (h2 : w.grownBy w1 (some gm)) => h.map h1 h2 hn (hi.upd (bs r) hlt)
    have hn' : n < maxLen := by have := hi.le; have := hi.most; unfold maxLen; omega
    have HM := Lib.hid hm
    clear h hm hi
    go_enter Tryz.func116, Tryz.ntmps116
    go_wp2_with (at_mapUpdate; refine wpList_keep _ rfl _ _ _ rfl gm n s.m rfl HM.out hn' r rfl hs a rfl hlt ?_; intro w1 h1 h2; have H1 := Lib.hid h1; have H2 := Lib.hid h2; clear h1 h2)
    refine bodyPost_ret (v := .tuple #[]) (by simp [results, Tryz.results116, go_sem]) rfl ?_
    rw [hv.out]
    obtain ⟨x, y⟩ := HK.out _ H1.out H2.out
    exact ⟨rfl, F, x.pk, y⟩
  · have hd : decide ((a : Int) < 16384) = false := by simpa using (by omega : (16384 : Int) ≤ a)
    have hv : Hid (keepS s (bs r) a = s) := Lib.hid (if_neg hlt)
    have HK := Lib.hid h.pk
    clear h hi
    go_enter Tryz.func116, Tryz.ntmps116
    go_wp2
    refine bodyPost_ret (v := .tuple #[]) (by simp [results, Tryz.results116, go_sem]) rfl ?_
    rw [hv.out]
    exact Pkr.keep HK.out _
end
end Go.Proofs.YtadeflehdfmilaaGreat
