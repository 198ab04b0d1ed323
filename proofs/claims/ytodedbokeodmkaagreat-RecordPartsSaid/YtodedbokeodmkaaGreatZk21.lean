/-
  What a packer's New, Put, Number, Begin, End answer, and its own keep, begin, end: the walks. Conditions: as each theorem names them.
-/
import Derived.Test.YtodedbokeodmkaaGreatZk20
namespace Go.Proofs.YtodedbokeodmkaaGreat
open Go.RowKit Go.Maps
set_option linter.unusedVariables false

/-- What New does. -/
def NewP (w : World) (M : Nat) (e : Ending) (w' : World) : Prop := ∃ g F, e = .returned (pp g) ∧ PK w' w.heap.size F g M ps0 ∧ Below w.heap.size w w'
theorem NewP.mk {w w1 : World} {M : Nat} (hM : M ≤ 65535) (h : WR w1 w.heap.size w.heap.size M [] 0) (hr : rowOf w1 w.heap.size = none) (hb : Below w.heap.size w w1) :
    NewP w M (.returned (pp (w1.heap.size + 1))) ((w1.alloc (.map #[] 0)).alloc (.cells #[.slice none 0 0, .pointer (some ⟨w.heap.size, 0, none⟩), .map (some w1.heap.size), pp (w1.heap.size + 1)] 75)) := by
  have hs2 : (w1.alloc (.map #[] 0)).heap.size = w1.heap.size + 1 := by simp
  rw [← hs2]
  obtain ⟨w2, h2⟩ : ∃ w2, w2 = w1.alloc (.map #[] 0) := ⟨_, rfl⟩
  have hw12 : Below w1.heap.size w1 w2 := by rw [h2]; exact (Below.refl _ _).alloc (Nat.le_refl _) _
  have hm2 : MapIs w2 w1.heap.size 0 (fun _ => none) := by rw [h2]; exact MapIs.new w1
  rw [← h2] at hs2 ⊢
  clear h2
  have hL4 := Lies.new w2 75 #[.slice none 0 0, .pointer (some ⟨w.heap.size, 0, none⟩), .map (some w1.heap.size), pp w2.heap.size]
  have h24 : Below w2.heap.size w2 (w2.alloc (.cells #[.slice none 0 0, .pointer (some ⟨w.heap.size, 0, none⟩), .map (some w1.heap.size), pp w2.heap.size] 75)) := (Below.refl _ _).alloc (Nat.le_refl _) _
  have h14 := hw12.trans (h24.mono hw12.size)
  have hw := h.next h14
  have hsz1 := hb.size
  have hsz := hw12.size
  have hsz4 := h24.size
  have hlt4 := hL4.lt
  have hmlt := hm2.lt
  refine ⟨_, Gw (fun _ => False) w _, rfl, ⟨w.heap.size, w1.heap.size, 0, .slice none 0 0, hL4, hw, OwnI.nil _ _, hm2.same (h24.block _ hmlt), Nat.zero_le _, inv0 hM, by omega, Nat.le_refl _, by omega, .inr ⟨by omega, hlt4⟩, .inr ⟨Nat.le_refl _, by omega⟩, .inr ⟨by omega, by omega⟩, (fun k (hk : (none : Option Nat) = some k) => nomatch hk), fun k hk => ?_, fun k hk => hk.elim False.elim id⟩, hb.trans (h14.mono hsz1)⟩
  rw [rowOf_same (h14.block _ h.lt), hr] at hk
  cases hk
set_option maxHeartbeats 1000000 in
theorem pNew_any (n : Int) (w : World) (hn : n ≤ 9223372036854775807) :
    Calls Tryz.prog 8 #[.int .i64 n] w (NewP w (min n 65535).toNat) := by
  have hmm := @run_makeMap Tryz.prog
  have hM : (min n 65535).toNat ≤ 65535 := by omega
  have HN := Lib.hid (NewWriter_any (min n 65535) w (by omega))
  have HP := Lib.hid fun w1 (h : WR w1 w.heap.size w.heap.size (min n 65535).toNat [] 0) hr hb => NewP.mk hM h hr hb
  obtain ⟨M, hM'⟩ : ∃ M, M = (min n 65535).toNat := ⟨_, rfl⟩
  rw [← hM'] at HP HN ⊢
  clear hM hM'
  go_enter Tryz.func8, Tryz.ntmps8
  go_wp2_with (go_at_call 30; (with_reducible refine HN.out.mono ?_); rintro e w1 ⟨rfl, hw1, hr1, hb1⟩; have HW := Lib.hid hw1; have HR := Lib.hid hr1; have HB := Lib.hid hb1; clear hw1 hr1 hb1)
  go_ret
  exact HP.out _ HW.out HR.out HB.out

section
variable {w : World} {base g M : Nat} {F : Nat → Prop} {s : PS}
theorem PKx.wput {gw gm n : Nat} {sv : Value} (h : PKx w base F g gw gm n sv M s) (x : ByteArray) (hs : x.size ≤ 1099511627776) :
    Calls Tryz.prog 106 #[.pointer (some ⟨gw, 0, none⟩), .string x] w (Pkr w base F g M (putS M s (bs x)).2 (.int .i64 (putS M s (bs x)).1)) := by
  have h1 := h.inv.le
  have h2 := h.inv.most
  refine (wPut_any x h.wr h.bw h1 (by omega) (by omega) hs).mono ?_
  rintro e w' ⟨rfl, hw, hk⟩
  obtain ⟨a, b⟩ := h.writer hw hk (putW_grow ..) (h.inv.put (bs x))
  exact ⟨rfl, _, a.pk, b⟩
theorem PKx.wnum {gw gm n : Nat} {sv : Value} (h : PKx w base F g gw gm n sv M s) (v : Nat) (k : Int) (hv : v < 4294967296) :
    Calls Tryz.prog 72 #[.pointer (some ⟨gw, 0, none⟩), .int .u32 v, .int .i64 k] w (Pkr w base F g M (numS M s v k).2 (.int .i64 (numS M s v k).1)) := by
  have h1 := h.inv.le
  have h2 := h.inv.most
  refine (wNumber_any v k h.wr hv h.bw h1 (by omega) (by omega)).mono ?_
  rintro e w' ⟨rfl, hw, hk⟩
  obtain ⟨a, b⟩ := h.writer hw hk (numW_grow ..) (h.inv.num v k)
  exact ⟨rfl, _, a.pk, b⟩
theorem pPut_any (h : PK w base F g M s) (x : ByteArray) (hs : x.size ≤ 1099511627776) :
    Calls Tryz.prog 92 #[pp g, .string x] w (Pkr w base F g M (putS M s (bs x)).2 (.int .i64 (putS M s (bs x)).1)) := by
  have HM := Lib.hid (pmade_yes h)
  obtain ⟨gw, gm, n, sv, h⟩ := h
  have hc := h.cw
  have HW := Lib.hid (h.wput x hs)
  clear h
  obtain ⟨q, hq⟩ : ∃ q, putS M s (bs x) = q := ⟨_, rfl⟩
  rw [hq] at HW ⊢
  clear hq
  go_enter Tryz.func92, Tryz.ntmps92
  go_wp2_with (first | (go_at_call 41; (with_reducible refine HM.out.mono ?_); rintro e w' ⟨rfl, rfl⟩) | (go_at_call 106; (with_reducible refine HW.out.mono ?_); rintro e w' ⟨rfl, hp⟩; have HP := Lib.hid hp; clear hp))
  go_ret
  exact ⟨rfl, HP.out⟩
theorem pNumber_any (h : PK w base F g M s) (v : Nat) (k : Int) (hv : v < 4294967296) :
    Calls Tryz.prog 34 #[pp g, .int .u32 v, .int .i64 k] w (Pkr w base F g M (numS M s v k).2 (.int .i64 (numS M s v k).1)) := by
  have HM := Lib.hid (pmade_yes h)
  obtain ⟨gw, gm, n, sv, h⟩ := h
  have hc := h.cw
  have HW := Lib.hid (h.wnum v k hv)
  clear h
  obtain ⟨q, hq⟩ : ∃ q, numS M s v k = q := ⟨_, rfl⟩
  rw [hq] at HW ⊢
  clear hq
  go_enter Tryz.func34, Tryz.ntmps34
  go_wp2_with (first | (go_at_call 41; (with_reducible refine HM.out.mono ?_); rintro e w' ⟨rfl, rfl⟩) | (go_at_call 72; (with_reducible refine HW.out.mono ?_); rintro e w' ⟨rfl, hp⟩; have HP := Lib.hid hp; clear hp))
  go_ret
  exact ⟨rfl, HP.out⟩
set_option maxRecDepth 100000 in
/-- keep: a rest that stands at a place. -/
theorem pkeep_any {gw gm n : Nat} {sv : Value} (h : PKx w base F g gw gm n sv M s) (r : ByteArray) (a : Nat) (hs : r.size ≤ maxLen) (ha : a ≤ 65535) (hn : n + 1 ≤ s.l.length) :
    Calls Tryz.prog 107 #[pp g, .string r, .int .i64 a] w (Pkr w base F g M (keepS s (bs r) a) (.tuple #[])) := by
  have hc := h.cm
  have hi := h.inv
  by_cases hlt : a < 16384
  · have hd : decide ((a : Int) < 16384) = true := by simpa using (by omega : (a : Int) < 16384)
    have hv : Hid (keepS s (bs r) a = { s with m := upd s.m (bs r) a }) := Lib.hid (if_pos hlt)
    have hm := h.mp
    have HK := Lib.hid fun w1 (h1 : MapIs w1 gm (n + 1) (upd s.m (bs r) a)) (h2 : w.grownBy w1 (some gm)) => h.map h1 h2 hn (hi.upd (bs r) hlt)
    have hn' : n < maxLen := by have := hi.le; have := hi.most; unfold maxLen; omega
    have HM := Lib.hid hm
    clear h hm hi
    go_enter Tryz.func107, Tryz.ntmps107
    go_wp2_with (at_mapUpdate; refine wpList_keep _ rfl _ _ _ rfl gm n s.m rfl HM.out hn' r rfl hs a rfl hlt ?_; intro w1 h1 h2; have H1 := Lib.hid h1; have H2 := Lib.hid h2; clear h1 h2)
    refine bodyPost_ret (v := .tuple #[]) (by simp [results, Tryz.results107, go_sem]) rfl ?_
    rw [hv.out]
    obtain ⟨x, y⟩ := HK.out _ H1.out H2.out
    exact ⟨rfl, F, x.pk, y⟩
  · have hd : decide ((a : Int) < 16384) = false := by simpa using (by omega : (16384 : Int) ≤ a)
    have hv : Hid (keepS s (bs r) a = s) := Lib.hid (if_neg hlt)
    have HK := Lib.hid h.pk
    clear h hi
    go_enter Tryz.func107, Tryz.ntmps107
    go_wp2
    refine bodyPost_ret (v := .tuple #[]) (by simp [results, Tryz.results107, go_sem]) rfl ?_
    rw [hv.out]
    exact Pkr.keep HK.out _
end
end Go.Proofs.YtodedbokeodmkaaGreat
