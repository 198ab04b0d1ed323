/-
  A walk's steps: the walks of unpack.found's fail and unpack.walk's step, atPointer, follow, keep. Conditions: as each theorem names them.
-/
import Derived.Test.YtodedbokeodmkaaGreatZk26
import Derived.Deep.DeepCutAuto
namespace Go.Proofs.YtodedbokeodmkaaGreat
open Go.RowKit
set_option linter.unusedVariables false

section
variable {w w' : World} {base g : Nat} {S : ByteArray} {s : US}
theorem Kp.stored {row : List UInt8} (hb : base ≤ g) (hbw : base ≤ w.heap.size) (hg : w.grownBy w' (some g)) (hr : rowOf w' g = rowOf w g ∨ rowOf w' g = none) : Kp base g w w' :=
  ⟨(Below.refl base w).grown hg hbw fun k hk => by injection hk with hk; omega, fun k hk hne _ => hg.block k hk (fun e => hne (by injection e)), hr.imp id fun h k hk => by rw [h] at hk; cases hk⟩
/-- What fail does. -/
def Failed (w : World) (g e : Nat) (c4 c5 c6 c7 : Value) (en : Ending) (w' : World) : Prop := en = .returned (.tuple #[]) ∧ Lies w' g 252 #[.slice none 0 0, .int .i64 0, .int .i64 0, .int .i64 e, c4, c5, c6, c7] ∧ w.grownBy w' (some g)
set_option maxHeartbeats 400000 in
theorem fail_cells {c0 c4 c5 c6 c7 : Value} {x1 x2 x3 : Int} (h : Lies w g 252 #[c0, .int .i64 x1, .int .i64 x2, .int .i64 x3, c4, c5, c6, c7]) (e : Nat) :
    Calls Tryz.prog 222 #[wp_ g, .int .i64 e] w (Failed w g e c4 c5 c6 c7) := by
  have HL := Lib.hid h
  have hlt := h.lt
  have hc0 := h.cell 0
  have hc1 := h.cell 1
  have hc2 := h.cell 2
  have hc3 := h.cell 3
  have hf0 := h.free 0
  have hf1 := h.free 1
  have hf2 := h.free 2
  have hf3 := h.free 3
  clear h
  go_enter Tryz.func222, Tryz.ntmps222
  go_wp2
  refine bodyPost_ret (v := .tuple #[]) (by simp [results, Tryz.results222, go_sem]) rfl ?_
  exact ⟨rfl, (((HL.out.set 0 (.slice none 0 0)).set 1 (.int .i64 0)).set 2 (.int .i64 0)).set 3 (.int .i64 e), grown_next (grown_next (grown_next (grown_set (base := 0) _ g 0 _) (grown_set (base := 0) _ g 1 _)) (grown_set (base := 0) _ g 2 _)) (grown_set (base := 0) _ g 3 _)⟩
theorem fail_any (h : WK w base g S s) (hb : base ≤ g) (e : Nat) (he : e ≠ 0) :
    Calls Tryz.prog 222 #[wp_ g, .int .i64 e] w (Wlk w base g S (failU s e) (.tuple #[])) := by
  obtain ⟨v, R, P, T, hL, hown, _⟩ := h
  refine (fail_cells hL e).mono ?_
  rintro en w' ⟨rfl, hL', hg⟩
  exact ⟨rfl, ⟨.slice none 0 0, R, P, T, hL', Own.none_ _ _, fun h => absurd h he⟩, Kp.stored (row := []) hb (Nat.le_of_lt (Nat.lt_of_le_of_lt hb hL.lt)) hg (.inr (rowOf_lies (u := .slice none 0 0) hL' rfl))⟩

theorem step_no (h : WK w base g S s) (hf : s.f ≠ 0) :
    Calls Tryz.prog 215 #[wp_ g] w (Wlk w base g S s (.bool false)) := by
  have HW := Lib.hid h
  obtain ⟨v, R, P, T, hL, hown, _⟩ := h
  have hc3 : w.cell? ⟨g, 3, none⟩ = some (.int .i64 s.f) := hL.cell 3
  have hfb : ((s.f : Int) != 0) = true := by rw [bne_iff_ne]; omega
  clear hL hown hf
  go_enter Tryz.func215, Tryz.ntmps215
  go_wp2
  go_ret
  exact Wlk.keep HW.out
set_option maxHeartbeats 400000 in
theorem step_bad (h : WK w base g S s) (hb : base ≤ g) (hf : s.f = 0) (hi : InvU S.size s) (hs : S.size ≤ maxLen) (he : (partU ((bs S).drop s.p)).2 ≠ 0) :
    Calls Tryz.prog 215 #[wp_ g] w (Wlk w base g S (failU s (partU ((bs S).drop s.p)).2) (.bool false)) := by
  have HW := Lib.hid h
  have HPA := Lib.hid fun wx => partAt_any S s.p wx hs hi.p
  have HF := Lib.hid fun wx (hx : WK wx base g S s) => fail_any hx hb _ he
  obtain ⟨e, hE⟩ : ∃ e, (partU ((bs S).drop s.p)).2 = e := ⟨_, rfl⟩
  rw [hE] at HPA HF he ⊢
  obtain ⟨t, hT⟩ : ∃ t : ByteArray, (⟨(((bs S).drop s.p).take (partU ((bs S).drop s.p)).1).toArray⟩ : ByteArray) = t := ⟨_, rfl⟩
  rw [hT] at HPA
  obtain ⟨v, R, P, T, hL, hown, hz⟩ := h
  obtain ⟨rfl, rfl, rfl⟩ := hz hf
  have hc3 : w.cell? ⟨g, 3, none⟩ = some (.int .i64 0) := by rw [← show ((s.f : Nat) : Int) = 0 by omega]; exact hL.cell 3
  have hc4 : w.cell? ⟨g, 4, none⟩ = some (.string S) := hL.cell 4
  have hc6 : w.cell? ⟨g, 6, none⟩ = some (.int .i64 s.p) := hL.cell 6
  have hne : ((e : Int) != 0) = true := by rw [bne_iff_ne]; omega
  clear hL hown hE hT hz hf he
  go_enter Tryz.func215, Tryz.ntmps215
  go_wp2
  go_quiet ((go_at_call 223; exact Calls.quiet_of_same ((HPA.out _).mono fun _ _ h => ⟨h.1, h.2.symm⟩)))
  go_wp2_with (go_at_call 222; refine (HF.out _ (HW.out.drewN _)).mono ?_; rintro e1 w1 ⟨rfl, hw1, hk1⟩; have HW1 := Lib.hid hw1; have HK1 := Lib.hid hk1; clear hw1 hk1)
  go_ret
  exact ⟨rfl, HW1.out, Kp.from_drewN HK1.out⟩
set_option maxHeartbeats 400000 in
theorem step_yes (h : WK w base g S s) (hb : base ≤ g) (hf : s.f = 0) (hi : InvU S.size s) (hs : S.size ≤ maxLen) (he : (partU ((bs S).drop s.p)).2 = 0) :
    Calls Tryz.prog 215 #[wp_ g] w (Wlk w base g S (overU (bs S) s (partU ((bs S).drop s.p)).1) (.bool true)) := by
  have HPA := Lib.hid fun wx => partAt_any S s.p wx hs hi.p
  obtain ⟨h1, h2, _⟩ := partU_ok he
  rw [he] at HPA
  obtain ⟨n, hN⟩ : ∃ n, (partU ((bs S).drop s.p)).1 = n := ⟨_, rfl⟩
  rw [hN] at h1 h2 HPA ⊢
  rw [List.length_drop, bs_length] at h2
  have hp := hi.p
  obtain ⟨t, hT⟩ : ∃ t : ByteArray, t = (⟨(((bs S).drop s.p).take n).toArray⟩ : ByteArray) := ⟨_, rfl⟩
  have hts : t.size = n := by rw [hT, ← bs_length, bs_mk, List.length_take, List.length_drop, bs_length]; omega
  rw [← hT] at HPA
  have HT := Lib.hid hT
  obtain ⟨v, R, P, T, hL, hown, hz⟩ := h
  obtain ⟨rfl, rfl, rfl⟩ := hz hf
  have HL := Lib.hid hL
  have HO := Lib.hid hown
  have HFz := Lib.hid hf
  have hlt := hL.lt
  have hc3 : w.cell? ⟨g, 3, none⟩ = some (.int .i64 0) := by rw [← show ((s.f : Nat) : Int) = 0 by omega]; exact hL.cell 3
  have hc1 : w.cell? ⟨g, 1, none⟩ = some (.int .i64 s.e) := hL.cell 1
  have hc2 : w.cell? ⟨g, 2, none⟩ = some (.int .i64 s.j) := hL.cell 2
  have hc4 : w.cell? ⟨g, 4, none⟩ = some (.string S) := hL.cell 4
  have hc6 : w.cell? ⟨g, 6, none⟩ = some (.int .i64 s.p) := hL.cell 6
  have hc7 := hL.cell 7
  have hf1 := hL.free 1
  have hf6 := hL.free 6
  have hf7 := hL.free 7
  unfold maxLen at hs
  have HN := Lib.hid hN
  clear hL hown hT hz hf he hN
  have HPN := Lib.hid (show (s.p : Int) + (t.size : Int) = ((s.p + n : Nat) : Int) by omega)
  have hsum : s.p + t.size ≤ S.size := by omega
  by_cases hj : s.j = 0
  · have hjb : ((s.j : Int) == 0) = true := by rw [beq_iff_eq]; omega
    have HJ := Lib.hid hj
    clear hj hts hi
    go_enter Tryz.func215, Tryz.ntmps215
    go_wp2
    go_quiet ((go_at_call 223; exact Calls.quiet_of_same ((HPA.out _).mono fun _ _ h => ⟨h.1, h.2.symm⟩)))
    go_wp2
    go_ret
    have hL' := (((HL.out.drewN nq).set 7 (.string t)).set 6 (.int .i64 ((s.p + n : Nat) : Int))).set 1 (.int .i64 ((s.p + n : Nat) : Int))
    rw [HPN.out]
    refine ⟨rfl, ⟨v, .int .i64 s.r, .int .i64 ((s.p + n : Nat) : Int), .string t, ?_, Own.grown (w := w.drewN nq) HO.out (grown_next (grown_next (grown_set (base := 0) _ g 7 _) (grown_set (base := 0) _ g 6 _)) (grown_set (base := 0) _ g 1 _)) (.inr (Own.ne_lies HO.out HL.out (by decide)).symm), fun _ => ⟨rfl, rfl, by rw [HT.out]; rfl⟩⟩, Kp.from_drewN (n := nq) (Kp.stored (w := w.drewN nq) (row := []) hb (Nat.le_of_lt (Nat.lt_of_le_of_lt hb hlt)) (grown_next (grown_next (grown_set (base := 0) _ g 7 _) (grown_set (base := 0) _ g 6 _)) (grown_set (base := 0) _ g 1 _)) (.inl ?_))⟩
    · have e : (overU (bs S) s n).e = s.p + n := if_pos HJ.out
      rw [e]
      exact hL'
    · exact (rowOf_lies (u := v) hL' rfl).trans (rowOf_lies (u := v) (HL.out.drewN nq) rfl).symm
  · have hjb : ((s.j : Int) == 0) = false := by rw [beq_eq_false_iff_ne]; omega
    have HJ := Lib.hid hj
    clear hj hts hi
    go_enter Tryz.func215, Tryz.ntmps215
    go_wp2
    go_quiet ((go_at_call 223; exact Calls.quiet_of_same ((HPA.out _).mono fun _ _ h => ⟨h.1, h.2.symm⟩)))
    go_wp2
    go_ret
    have hL' := ((HL.out.drewN nq).set 7 (.string t)).set 6 (.int .i64 ((s.p + n : Nat) : Int))
    rw [HPN.out]
    refine ⟨rfl, ⟨v, .int .i64 s.r, .int .i64 ((s.p + n : Nat) : Int), .string t, ?_, Own.grown (w := w.drewN nq) HO.out (grown_next (grown_set (base := 0) _ g 7 _) (grown_set (base := 0) _ g 6 _)) (.inr (Own.ne_lies HO.out HL.out (by decide)).symm), fun _ => ⟨rfl, rfl, by rw [HT.out]; rfl⟩⟩, Kp.from_drewN (n := nq) (Kp.stored (w := w.drewN nq) (row := []) hb (Nat.le_of_lt (Nat.lt_of_le_of_lt hb hlt)) (grown_next (grown_set (base := 0) _ g 7 _) (grown_set (base := 0) _ g 6 _)) (.inl ?_))⟩
    · have e : (overU (bs S) s n).e = s.e := if_neg HJ.out
      rw [e]
      exact hL'
    · exact (rowOf_lies (u := v) hL' rfl).trans (rowOf_lies (u := v) (HL.out.drewN nq) rfl).symm
theorem ptr_any (h : WK w base g S s) (hf : s.f = 0) (ht : s.t ≠ []) :
    Calls Tryz.prog 216 #[wp_ g] w fun e w' => e = .returned (.bool (isPtr s.t)) ∧ w = w' := by
  obtain ⟨v, R, P, T, hL, hown, hz⟩ := h
  obtain ⟨rfl, rfl, rfl⟩ := hz hf
  obtain ⟨c, r, hcr⟩ := List.exists_cons_of_ne_nil ht
  obtain ⟨t, hT⟩ : ∃ t : ByteArray, t = (⟨s.t.toArray⟩ : ByteArray) := ⟨_, rfl⟩
  have hTb : bs t = c :: r := by rw [hT, bs_mk, hcr]
  have hts : 0 < t.size := by rw [← bs_length, hTb]; simp
  have ht0 : t[0] = c := by
    obtain ⟨r', h1, _⟩ := bs_cons hts
    rw [hTb] at h1
    injection h1 with h1
    exact h1.symm
  have hc7 : w.cell? ⟨g, 7, none⟩ = some (.string t) := by rw [hT]; exact hL.cell 7
  have hp : isPtr s.t = decide ((192 : Int) ≤ (c.toNat : Int)) := by rw [hcr]; unfold isPtr; simp; omega
  rw [hp]
  clear hL hown hz hf ht hcr hT hTb hp
  go_enter Tryz.func216, Tryz.ntmps216
  go_wp2
  go_ret
  exact ⟨rfl, rfl⟩
theorem or64u (a d : Nat) (ha : a < 64) (hd : d < 256) : bits BinOp.or IntKind.i64 ((a : Int) * 256) d = ((256 * a + d : Nat) : Int) := by
  have h1 : ∀ n : Nat, n < 18446744073709551616 → (BitVec.ofInt 64 (n : Int)).toNat = n := fun n hn => by
    rw [BitVec.toNat_ofInt]
    omega
  have h2 := Nat.shiftLeft_add_eq_or_of_lt (show d < 2 ^ 8 by omega) a
  rw [Nat.shiftLeft_eq] at h2
  show IntKind.i64.wrap ((BitVec.ofInt 64 ((a : Int) * 256) ||| BitVec.ofInt 64 (d : Int)).toNat : Int) = _
  rw [BitVec.toNat_or, show (a : Int) * 256 = ((a * 256 : Nat) : Int) by omega, h1 _ (by omega), h1 _ (by omega), show (256 : Nat) = 2 ^ 8 by decide, ← h2, IntWalk.i64_in _ (by omega)]
  omega
set_option maxHeartbeats 400000 in
theorem follow_any (h : WK w base g S s) (hb : base ≤ g) (hf : s.f = 0) (hi : InvU S.size s) (hs : S.size ≤ maxLen) (hp : isPtr s.t = true) (ht : s.t.length = 2) :
    Calls Tryz.prog 217 #[wp_ g] w (Wlk w base g S (followU s) (.tuple #[])) := by
  have HW := Lib.hid h
  obtain ⟨v, R, P, T, hL, hown, hz⟩ := h
  obtain ⟨rfl, rfl, rfl⟩ := hz hf
  obtain ⟨c, d, hcd⟩ : ∃ c d, s.t = [c, d] := by
    rcases hst : s.t with _ | ⟨c, _ | ⟨d, _ | ⟨x, y⟩⟩⟩
    · rw [hst] at ht; simp at ht
    · rw [hst] at ht; simp at ht
    · exact ⟨c, d, rfl⟩
    · rw [hst] at ht; simp at ht
  obtain ⟨t, hT⟩ : ∃ t : ByteArray, t = (⟨s.t.toArray⟩ : ByteArray) := ⟨_, rfl⟩
  have hTb : bs t = [c, d] := by rw [hT, bs_mk, hcd]
  have hts : t.size = 2 := by rw [← bs_length, hTb]; rfl
  have h1 : 1 < t.size := by omega
  have h0 : 0 < t.size := by omega
  have ht0 : t[0] = c := by
    have := drop_at t 0 h0
    rw [hTb] at this
    injection this with this
    exact this.symm
  have ht1 : t[1] = d := by
    have := drop_at t 1 h1
    rw [hTb] at this
    injection this with this
    exact this.symm
  have hc192 : 192 ≤ c.toNat := by rw [hcd] at hp; simpa [isPtr] using hp
  have hc8 := c.toNat_lt
  have hd8 := d.toNat_lt
  obtain ⟨q, hto⟩ : ∃ n, n = toU s.t := ⟨_, rfl⟩
  have hor : bits BinOp.or IntKind.i64 (((c.toNat : Int) - 192) * 256) (d.toNat : Int) = (q : Int) := by
    rw [show (c.toNat : Int) - 192 = ((c.toNat - 192 : Nat) : Int) by omega, or64u _ _ (by omega) hd8, hto, hcd]
    rfl
  have HTo := Lib.hid hto
  have hjr := hi.jr
  unfold maxLen at hs
  have HL := Lib.hid hL
  have HO := Lib.hid hown
  have hlt := hL.lt
  have hc7 : w.cell? ⟨g, 7, none⟩ = some (.string t) := by rw [hT]; exact hL.cell 7
  have hc5 : w.cell? ⟨g, 5, none⟩ = some (.int .i64 s.r) := hL.cell 5
  have hc6 : w.cell? ⟨g, 6, none⟩ = some (.int .i64 s.p) := hL.cell 6
  have hc2 : w.cell? ⟨g, 2, none⟩ = some (.int .i64 s.j) := hL.cell 2
  have hf5 := hL.free 5
  have hf6 := hL.free 6
  have hf2 := hL.free 2
  have HFz := Lib.hid hf
  have HF := Lib.hid fun wx (hx : WK wx base g S s) => fail_any hx hb 4 (by decide)
  have HI := Lib.hid hi
  clear hL hown hz hf hT hTb hcd hp ht hto hi
  by_cases hr : s.r ≤ q
  · have hd1 : decide (s.r ≤ q) = true := by simp; omega
    have HR : Hid (followU s = failU s 4) := Lib.hid (by unfold followU; rw [← HTo.out, if_pos hr])
    clear hr
    go_enter Tryz.func217, Tryz.ntmps217
    go_wp2
    go_quiet (fail)
    go_wp2_with (go_at_call 222; refine (HF.out _ (HW.out.drewN _)).mono ?_; rintro e1 w1 ⟨rfl, hw1, hk1⟩; have HW1 := Lib.hid hw1; have HK1 := Lib.hid hk1; clear hw1 hk1)
    refine bodyPost_ret (v := .tuple #[]) (by simp [results, Tryz.results217, go_sem]) rfl ?_
    rw [HR.out]
    exact ⟨rfl, HW1.out, Kp.from_drewN HK1.out⟩
  · have hd1 : decide (s.r ≤ q) = false := by simp; omega
    have hj1 : s.j + 1 ≤ 9223372036854775807 := by omega
    have HR : Hid (followU s = { s with r := q, p := q, j := s.j + 1 }) := Lib.hid (by unfold followU; rw [← HTo.out, if_neg hr])
    clear hr
    go_enter Tryz.func217, Tryz.ntmps217
    go_wp2
    go_quiet (fail)
    go_wp2
    refine bodyPost_ret (v := .tuple #[]) (by simp [results, Tryz.results217, go_sem]) rfl ?_
    rw [HR.out]
    have hL' := (((HL.out.drewN nq).set 5 (.int .i64 q)).set 6 (.int .i64 q)).set 2 (.int .i64 ((s.j : Int) + 1))
    refine ⟨rfl, ⟨v, .int .i64 q, .int .i64 q, .string ⟨s.t.toArray⟩, ?_, Own.grown (w := w.drewN nq) HO.out (grown_next (grown_next (grown_set (base := 0) _ g 5 _) (grown_set (base := 0) _ g 6 _)) (grown_set (base := 0) _ g 2 _)) (.inr (Own.ne_lies HO.out HL.out (by decide)).symm), fun _ => ⟨rfl, rfl, rfl⟩⟩, Kp.from_drewN (n := nq) (Kp.stored (w := w.drewN nq) (row := []) hb (Nat.le_of_lt (Nat.lt_of_le_of_lt hb hlt)) (grown_next (grown_next (grown_set (base := 0) _ g 5 _) (grown_set (base := 0) _ g 6 _)) (grown_set (base := 0) _ g 2 _)) (.inl ?_))⟩
    · simp only [Int.natCast_add, Int.natCast_one]
      exact hL'
    · exact (rowOf_lies (u := v) hL' rfl).trans (rowOf_lies (u := v) (HL.out.drewN nq) rfl).symm

set_option maxHeartbeats 1000000 in
theorem keep_any (h : WK w base g S s) (hb : base ≤ g) (hf : s.f = 0) (hi : InvU S.size s) :
    Calls Tryz.prog 218 #[wp_ g] w (Wlk w base g S (keepU s) (.tuple #[])) := by
  have HW := Lib.hid h
  have HF := Lib.hid fun wx (hx : WK wx base g S s) => fail_any hx hb 3 (by decide)
  obtain ⟨v, R, P, T, hL, hown, hz⟩ := h
  obtain ⟨rfl, rfl, rfl⟩ := hz hf
  obtain ⟨A, cap, rfl⟩ := hown.shape
  obtain ⟨t, hT⟩ : ∃ t : ByteArray, t = (⟨s.t.toArray⟩ : ByteArray) := ⟨_, rfl⟩
  have hTb : bs t = s.t := by rw [hT, bs_mk]
  have hts : t.size = s.t.length := by rw [← bs_length, hTb]
  have hl1 := hi.l
  have hl2 := hi.t
  have HL := Lib.hid hL
  have HO := Lib.hid hown
  have hlt := hL.lt
  have hc0 : w.cell? ⟨g, 0, none⟩ = some (.slice A s.l.length cap) := hL.cell 0
  have hc7 : w.cell? ⟨g, 7, none⟩ = some (.string t) := by rw [hT]; exact hL.cell 7
  have hf0 := hL.free 0
  have hw : IntKind.i64.wrap ((s.l.length : Int) + (t.size : Int)) = (s.l.length : Int) + (t.size : Int) := IntWalk.i64_in _ (by omega)
  have HFz := Lib.hid hf
  have HTT := Lib.hid hT
  have HTB := Lib.hid hTb
  have HTS := Lib.hid hts
  have hbw : base ≤ w.heap.size := Nat.le_of_lt (Nat.lt_of_le_of_lt hb hlt)
  have hlen : s.l.length + t.size ≤ 70368744177664 := by omega
  clear hL hown hz hf hT hTb hi
  by_cases hr : 254 < s.l.length + s.t.length
  · have hd1 : decide ((254 : Int) < (s.l.length : Int) + (t.size : Int)) = true := by simp; omega
    have HR : Hid (keepU s = failU s 3) := Lib.hid (by unfold keepU; rw [if_pos hr])
    clear hr hts
    go_enter Tryz.func218, Tryz.ntmps218
    go_wp2
    go_quiet (fail)
    go_wp2_with (go_at_call 222; refine (HF.out _ (HW.out.drewN _)).mono ?_; rintro e1 w1 ⟨rfl, hw1, hk1⟩; have HW1 := Lib.hid hw1; have HK1 := Lib.hid hk1; clear hw1 hk1)
    refine bodyPost_ret (v := .tuple #[]) (by simp [results, Tryz.results218, go_sem]) rfl ?_
    rw [HR.out]
    exact ⟨rfl, HW1.out, Kp.from_drewN HK1.out⟩
  · have hd1 : decide ((254 : Int) < (s.l.length : Int) + (t.size : Int)) = false := by simp; omega
    have HR : Hid (keepU s = { s with l := s.l ++ s.t }) := Lib.hid (by unfold keepU; rw [if_neg hr])
    obtain ⟨l', hl'⟩ : ∃ l', s.l ++ bs t = l' := ⟨_, rfl⟩
    have HLL := Lib.hid hl'
    clear hr hts hl'
    go_enter Tryz.func218, Tryz.ntmps218
    go_wp2
    go_quiet (fail)
    go_wp2
    clear hw hd1
    have HO2 : Hid (Own 5 (w.drewN nq).drew base (.slice A s.l.length cap) s.l) := Lib.hid HO.out
    have HL2 : Hid (Lies (w.drewN nq).drew g 252 #[.slice A s.l.length cap, .int .i64 s.e, .int .i64 s.j, .int .i64 s.f, .string S, .int .i64 s.r, .int .i64 s.p, .string ⟨s.t.toArray⟩]) := Lib.hid HL.out
    have hbw2 : base ≤ (w.drewN nq).drew.heap.size := hbw
    go_region_law ((refine step_appendL bt (by rfl) (.tmp 24) (.tmp 28) (by rfl) base (.slice A s.l.length cap) s.l (by rfl) HO2.out t (by rfl) hlen hbw2 l' HLL.out ?_; intro A3 cap3 w3 hown3 hg3 hob3; have HB3 := Lib.hid hob3; have HO3 := Lib.hid hown3; have HG3 := Lib.hid hg3; have HL3 := Lib.hid (Lies.grown HL2.out hg3 (Own.ne_lies HO2.out HL2.out (by decide))); clear hown3 hg3 hob3; have hc3 := HL3.out.cell 0; have hf3 := HL3.out.free 0))
    all_goals
      go_wp2
      refine bodyPost_ret (v := .tuple #[]) (by simp [results, Tryz.results218, go_sem]) rfl ?_
      rw [HR.out]
      have hL' := HL3.out.set 0 (.slice A3 l'.length cap3)
      have e : s.l ++ s.t = l' := by rw [← HTB.out]; exact HLL.out
      rw [e]
      refine ⟨rfl, ⟨_, .int .i64 s.r, .int .i64 s.p, .string ⟨s.t.toArray⟩, hL', Own.grown HO3.out (grown_set (base := 0) _ g 0 _) (.inr (Own.ne_lies HO3.out HL3.out (by decide)).symm), fun _ => ⟨rfl, rfl, rfl⟩⟩, ?_⟩
      exact Kp.from_drewN (n := nq + 1) (Kp.of_put (w := w.drewN (nq + 1)) (HL.out.drewN (nq + 1)) rfl HO.out (by decide) HG3.out hbw hb HB3.out)
end
end Go.Proofs.YtodedbokeodmkaaGreat
