/-
  A walk's steps: the walks of unpack.found's fail and unpack.walk's step, atPointer, follow, keep. Conditions: as each theorem names them. A name read where it stands: the walks of unpack.begin, read, Name, Plain, Jumps, Skip. Conditions: as each theorem names them.
-/
import Derived.Test.YtdpgcgaalamgkaaGreatZk16
import Derived.Deep.DeepCutAuto
import Derived.Deep.LoopGhost
namespace Go.Proofs.YtdpgcgaalamgkaaGreat
open Go.RowKit
set_option linter.unusedVariables false

section
variable {w w' : World} {base g : Nat} {S : ByteArray} {s : US}
theorem Kp.stored {row : List UInt8} (hb : base ≤ g) (hbw : base ≤ w.heap.size) (hg : w.grownBy w' (some g)) (hr : rowOf w' g = rowOf w g ∨ rowOf w' g = none) : Kp base g w w' :=
  ⟨(Below.refl base w).grown hg hbw fun k hk => by injection hk with hk; omega, fun k hk hne _ => hg.block k hk (fun e => hne (by injection e)), hr.imp id fun h k hk => by rw [h] at hk; cases hk⟩
/-- What fail does. -/
def Failed (w : World) (g e : Nat) (c4 c5 c6 c7 : Value) (en : Ending) (w' : World) : Prop := en = .returned (.tuple #[]) ∧ Lies w' g 276 #[.slice none 0 0, .int .i64 0, .int .i64 0, .int .i64 e, c4, c5, c6, c7] ∧ w.grownBy w' (some g)
set_option maxHeartbeats 400000 in
theorem fail_cells {c0 c4 c5 c6 c7 : Value} {x1 x2 x3 : Int} (h : Lies w g 276 #[c0, .int .i64 x1, .int .i64 x2, .int .i64 x3, c4, c5, c6, c7]) (e : Nat) :
    Calls Tryz.prog 265 #[wp_ g, .int .i64 e] w (Failed w g e c4 c5 c6 c7) := by
  have HL := Lib.hid h
  have hlt := h.lt
  have hc0 := h.cell 0
  have hc1 := h.cell 1
  have hc2 := h.cell 2
  have hc3 := h.cell 3
  have hf0 := h.free 0
  have hf1 := h.free 1
  have hf2 := h.free 2
  have hf3 := h.free 3
  clear h
  go_enter Tryz.func265, Tryz.ntmps265
  go_wp2
  refine bodyPost_ret (v := .tuple #[]) (by simp [results, Tryz.results265, go_sem]) rfl ?_
  exact ⟨rfl, (((HL.out.set 0 (.slice none 0 0)).set 1 (.int .i64 0)).set 2 (.int .i64 0)).set 3 (.int .i64 e), grown_next (grown_next (grown_next (grown_set (base := 0) _ g 0 _) (grown_set (base := 0) _ g 1 _)) (grown_set (base := 0) _ g 2 _)) (grown_set (base := 0) _ g 3 _)⟩
theorem fail_any (h : WK w base g S s) (hb : base ≤ g) (e : Nat) (he : e ≠ 0) :
    Calls Tryz.prog 265 #[wp_ g, .int .i64 e] w (Wlk w base g S (failU s e) (.tuple #[])) := by
  obtain ⟨v, R, P, T, hL, hown, _⟩ := h
  refine (fail_cells hL e).mono ?_
  rintro en w' ⟨rfl, hL', hg⟩
  exact ⟨rfl, ⟨.slice none 0 0, R, P, T, hL', Own.none_ _ _, fun h => absurd h he⟩, Kp.stored (row := []) hb (Nat.le_of_lt (Nat.lt_of_le_of_lt hb hL.lt)) hg (.inr (rowOf_lies (u := .slice none 0 0) hL' rfl))⟩

theorem step_no (h : WK w base g S s) (hf : s.f ≠ 0) :
    Calls Tryz.prog 258 #[wp_ g] w (Wlk w base g S s (.bool false)) := by
  have HW := Lib.hid h
  obtain ⟨v, R, P, T, hL, hown, _⟩ := h
  have hc3 : w.cell? ⟨g, 3, none⟩ = some (.int .i64 s.f) := hL.cell 3
  have hfb : ((s.f : Int) != 0) = true := by rw [bne_iff_ne]; omega
  clear hL hown hf
  go_enter Tryz.func258, Tryz.ntmps258
  go_wp2
  go_ret
  exact Wlk.keep HW.out
set_option maxHeartbeats 400000 in
theorem step_bad (h : WK w base g S s) (hb : base ≤ g) (hf : s.f = 0) (hi : InvU S.size s) (hs : S.size ≤ maxLen) (he : (partU ((bs S).drop s.p)).2 ≠ 0) :
    Calls Tryz.prog 258 #[wp_ g] w (Wlk w base g S (failU s (partU ((bs S).drop s.p)).2) (.bool false)) := by
  have HW := Lib.hid h
  have HPA := Lib.hid fun wx => partAt_any S s.p wx hs hi.p
  have HF := Lib.hid fun wx (hx : WK wx base g S s) => fail_any hx hb _ he
  obtain ⟨e, hE⟩ : ∃ e, (partU ((bs S).drop s.p)).2 = e := ⟨_, rfl⟩
  rw [hE] at HPA HF he ⊢
  obtain ⟨t, hT⟩ : ∃ t : ByteArray, (⟨(((bs S).drop s.p).take (partU ((bs S).drop s.p)).1).toArray⟩ : ByteArray) = t := ⟨_, rfl⟩
  rw [hT] at HPA
  obtain ⟨v, R, P, T, hL, hown, hz⟩ := h
  obtain ⟨rfl, rfl, rfl⟩ := hz hf
  have hc3 : w.cell? ⟨g, 3, none⟩ = some (.int .i64 0) := by rw [← show ((s.f : Nat) : Int) = 0 by omega]; exact hL.cell 3
  have hc4 : w.cell? ⟨g, 4, none⟩ = some (.string S) := hL.cell 4
  have hc6 : w.cell? ⟨g, 6, none⟩ = some (.int .i64 s.p) := hL.cell 6
  have hne : ((e : Int) != 0) = true := by rw [bne_iff_ne]; omega
  clear hL hown hE hT hz hf he
  go_enter Tryz.func258, Tryz.ntmps258
  go_wp2
  go_quiet ((go_at_call 266; exact Calls.quiet_of_same ((HPA.out _).mono fun _ _ h => ⟨h.1, h.2.symm⟩)))
  go_wp2_with (go_at_call 265; refine (HF.out _ (HW.out.drewN _)).mono ?_; rintro e1 w1 ⟨rfl, hw1, hk1⟩; have HW1 := Lib.hid hw1; have HK1 := Lib.hid hk1; clear hw1 hk1)
  go_ret
  exact ⟨rfl, HW1.out, Kp.from_drewN HK1.out⟩
set_option maxHeartbeats 400000 in
theorem step_yes (h : WK w base g S s) (hb : base ≤ g) (hf : s.f = 0) (hi : InvU S.size s) (hs : S.size ≤ maxLen) (he : (partU ((bs S).drop s.p)).2 = 0) :
    Calls Tryz.prog 258 #[wp_ g] w (Wlk w base g S (overU (bs S) s (partU ((bs S).drop s.p)).1) (.bool true)) := by
  have HPA := Lib.hid fun wx => partAt_any S s.p wx hs hi.p
  obtain ⟨h1, h2, _⟩ := partU_ok he
  rw [he] at HPA
  obtain ⟨n, hN⟩ : ∃ n, (partU ((bs S).drop s.p)).1 = n := ⟨_, rfl⟩
  rw [hN] at h1 h2 HPA ⊢
  rw [List.length_drop, bs_length] at h2
  have hp := hi.p
  obtain ⟨t, hT⟩ : ∃ t : ByteArray, t = (⟨(((bs S).drop s.p).take n).toArray⟩ : ByteArray) := ⟨_, rfl⟩
  have hts : t.size = n := by rw [hT, ← bs_length, bs_mk, List.length_take, List.length_drop, bs_length]; omega
  rw [← hT] at HPA
  have HT := Lib.hid hT
  obtain ⟨v, R, P, T, hL, hown, hz⟩ := h
  obtain ⟨rfl, rfl, rfl⟩ := hz hf
  have HL := Lib.hid hL
  have HO := Lib.hid hown
  have HFz := Lib.hid hf
  have hlt := hL.lt
  have hc3 : w.cell? ⟨g, 3, none⟩ = some (.int .i64 0) := by rw [← show ((s.f : Nat) : Int) = 0 by omega]; exact hL.cell 3
  have hc1 : w.cell? ⟨g, 1, none⟩ = some (.int .i64 s.e) := hL.cell 1
  have hc2 : w.cell? ⟨g, 2, none⟩ = some (.int .i64 s.j) := hL.cell 2
  have hc4 : w.cell? ⟨g, 4, none⟩ = some (.string S) := hL.cell 4
  have hc6 : w.cell? ⟨g, 6, none⟩ = some (.int .i64 s.p) := hL.cell 6
  have hc7 := hL.cell 7
  have hf1 := hL.free 1
  have hf6 := hL.free 6
  have hf7 := hL.free 7
  unfold maxLen at hs
  have HN := Lib.hid hN
  clear hL hown hT hz hf he hN
  have HPN := Lib.hid (show (s.p : Int) + (t.size : Int) = ((s.p + n : Nat) : Int) by omega)
  have hsum : s.p + t.size ≤ S.size := by omega
  by_cases hj : s.j = 0
  · have hjb : ((s.j : Int) == 0) = true := by rw [beq_iff_eq]; omega
    have HJ := Lib.hid hj
    clear hj hts hi
    go_enter Tryz.func258, Tryz.ntmps258
    go_wp2
    go_quiet ((go_at_call 266; exact Calls.quiet_of_same ((HPA.out _).mono fun _ _ h => ⟨h.1, h.2.symm⟩)))
    go_wp2
    go_ret
    have hL' := (((HL.out.drewN nq).set 7 (.string t)).set 6 (.int .i64 ((s.p + n : Nat) : Int))).set 1 (.int .i64 ((s.p + n : Nat) : Int))
    rw [HPN.out]
    refine ⟨rfl, ⟨v, .int .i64 s.r, .int .i64 ((s.p + n : Nat) : Int), .string t, ?_, Own.grown (w := w.drewN nq) HO.out (grown_next (grown_next (grown_set (base := 0) _ g 7 _) (grown_set (base := 0) _ g 6 _)) (grown_set (base := 0) _ g 1 _)) (.inr (Own.ne_lies HO.out HL.out (by decide)).symm), fun _ => ⟨rfl, rfl, by rw [HT.out]; rfl⟩⟩, Kp.from_drewN (n := nq) (Kp.stored (w := w.drewN nq) (row := []) hb (Nat.le_of_lt (Nat.lt_of_le_of_lt hb hlt)) (grown_next (grown_next (grown_set (base := 0) _ g 7 _) (grown_set (base := 0) _ g 6 _)) (grown_set (base := 0) _ g 1 _)) (.inl ?_))⟩
    · have e : (overU (bs S) s n).e = s.p + n := if_pos HJ.out
      rw [e]
      exact hL'
    · exact (rowOf_lies (u := v) hL' rfl).trans (rowOf_lies (u := v) (HL.out.drewN nq) rfl).symm
  · have hjb : ((s.j : Int) == 0) = false := by rw [beq_eq_false_iff_ne]; omega
    have HJ := Lib.hid hj
    clear hj hts hi
    go_enter Tryz.func258, Tryz.ntmps258
    go_wp2
    go_quiet ((go_at_call 266; exact Calls.quiet_of_same ((HPA.out _).mono fun _ _ h => ⟨h.1, h.2.symm⟩)))
    go_wp2
    go_ret
    have hL' := ((HL.out.drewN nq).set 7 (.string t)).set 6 (.int .i64 ((s.p + n : Nat) : Int))
    rw [HPN.out]
    refine ⟨rfl, ⟨v, .int .i64 s.r, .int .i64 ((s.p + n : Nat) : Int), .string t, ?_, Own.grown (w := w.drewN nq) HO.out (grown_next (grown_set (base := 0) _ g 7 _) (grown_set (base := 0) _ g 6 _)) (.inr (Own.ne_lies HO.out HL.out (by decide)).symm), fun _ => ⟨rfl, rfl, by rw [HT.out]; rfl⟩⟩, Kp.from_drewN (n := nq) (Kp.stored (w := w.drewN nq) (row := []) hb (Nat.le_of_lt (Nat.lt_of_le_of_lt hb hlt)) (grown_next (grown_set (base := 0) _ g 7 _) (grown_set (base := 0) _ g 6 _)) (.inl ?_))⟩
    · have e : (overU (bs S) s n).e = s.e := if_neg HJ.out
      rw [e]
      exact hL'
    · exact (rowOf_lies (u := v) hL' rfl).trans (rowOf_lies (u := v) (HL.out.drewN nq) rfl).symm
theorem ptr_any (h : WK w base g S s) (hf : s.f = 0) (ht : s.t ≠ []) :
    Calls Tryz.prog 259 #[wp_ g] w fun e w' => e = .returned (.bool (isPtr s.t)) ∧ w = w' := by
  obtain ⟨v, R, P, T, hL, hown, hz⟩ := h
  obtain ⟨rfl, rfl, rfl⟩ := hz hf
  obtain ⟨c, r, hcr⟩ := List.exists_cons_of_ne_nil ht
  obtain ⟨t, hT⟩ : ∃ t : ByteArray, t = (⟨s.t.toArray⟩ : ByteArray) := ⟨_, rfl⟩
  have hTb : bs t = c :: r := by rw [hT, bs_mk, hcr]
  have hts : 0 < t.size := by rw [← bs_length, hTb]; simp
  have ht0 : t[0] = c := by
    obtain ⟨r', h1, _⟩ := bs_cons hts
    rw [hTb] at h1
    injection h1 with h1
    exact h1.symm
  have hc7 : w.cell? ⟨g, 7, none⟩ = some (.string t) := by rw [hT]; exact hL.cell 7
  have hp : isPtr s.t = decide ((192 : Int) ≤ (c.toNat : Int)) := by rw [hcr]; unfold isPtr; simp; omega
  rw [hp]
  clear hL hown hz hf ht hcr hT hTb hp
  go_enter Tryz.func259, Tryz.ntmps259
  go_wp2
  go_ret
  exact ⟨rfl, rfl⟩
theorem or64u (a d : Nat) (ha : a < 64) (hd : d < 256) : bits BinOp.or IntKind.i64 ((a : Int) * 256) d = ((256 * a + d : Nat) : Int) := by
  have h1 : ∀ n : Nat, n < 18446744073709551616 → (BitVec.ofInt 64 (n : Int)).toNat = n := fun n hn => by
    rw [BitVec.toNat_ofInt]
    omega
  have h2 := Nat.shiftLeft_add_eq_or_of_lt (show d < 2 ^ 8 by omega) a
  rw [Nat.shiftLeft_eq] at h2
  show IntKind.i64.wrap ((BitVec.ofInt 64 ((a : Int) * 256) ||| BitVec.ofInt 64 (d : Int)).toNat : Int) = _
  rw [BitVec.toNat_or, show (a : Int) * 256 = ((a * 256 : Nat) : Int) by omega, h1 _ (by omega), h1 _ (by omega), show (256 : Nat) = 2 ^ 8 by decide, ← h2, IntWalk.i64_in _ (by omega)]
  omega
set_option maxHeartbeats 400000 in
theorem follow_any (h : WK w base g S s) (hb : base ≤ g) (hf : s.f = 0) (hi : InvU S.size s) (hs : S.size ≤ maxLen) (hp : isPtr s.t = true) (ht : s.t.length = 2) :
    Calls Tryz.prog 260 #[wp_ g] w (Wlk w base g S (followU s) (.tuple #[])) := by
  have HW := Lib.hid h
  obtain ⟨v, R, P, T, hL, hown, hz⟩ := h
  obtain ⟨rfl, rfl, rfl⟩ := hz hf
  obtain ⟨c, d, hcd⟩ : ∃ c d, s.t = [c, d] := by
    rcases hst : s.t with _ | ⟨c, _ | ⟨d, _ | ⟨x, y⟩⟩⟩
    · rw [hst] at ht; simp at ht
    · rw [hst] at ht; simp at ht
    · exact ⟨c, d, rfl⟩
    · rw [hst] at ht; simp at ht
  obtain ⟨t, hT⟩ : ∃ t : ByteArray, t = (⟨s.t.toArray⟩ : ByteArray) := ⟨_, rfl⟩
  have hTb : bs t = [c, d] := by rw [hT, bs_mk, hcd]
  have hts : t.size = 2 := by rw [← bs_length, hTb]; rfl
  have h1 : 1 < t.size := by omega
  have h0 : 0 < t.size := by omega
  have ht0 : t[0] = c := by
    have := drop_at t 0 h0
    rw [hTb] at this
    injection this with this
    exact this.symm
  have ht1 : t[1] = d := by
    have := drop_at t 1 h1
    rw [hTb] at this
    injection this with this
    exact this.symm
  have hc192 : 192 ≤ c.toNat := by rw [hcd] at hp; simpa [isPtr] using hp
  have hc8 := c.toNat_lt
  have hd8 := d.toNat_lt
  obtain ⟨q, hto⟩ : ∃ n, n = toU s.t := ⟨_, rfl⟩
  have hor : bits BinOp.or IntKind.i64 (((c.toNat : Int) - 192) * 256) (d.toNat : Int) = (q : Int) := by
    rw [show (c.toNat : Int) - 192 = ((c.toNat - 192 : Nat) : Int) by omega, or64u _ _ (by omega) hd8, hto, hcd]
    rfl
  have HTo := Lib.hid hto
  have hjr := hi.jr
  unfold maxLen at hs
  have HL := Lib.hid hL
  have HO := Lib.hid hown
  have hlt := hL.lt
  have hc7 : w.cell? ⟨g, 7, none⟩ = some (.string t) := by rw [hT]; exact hL.cell 7
  have hc5 : w.cell? ⟨g, 5, none⟩ = some (.int .i64 s.r) := hL.cell 5
  have hc6 : w.cell? ⟨g, 6, none⟩ = some (.int .i64 s.p) := hL.cell 6
  have hc2 : w.cell? ⟨g, 2, none⟩ = some (.int .i64 s.j) := hL.cell 2
  have hf5 := hL.free 5
  have hf6 := hL.free 6
  have hf2 := hL.free 2
  have HFz := Lib.hid hf
  have HF := Lib.hid fun wx (hx : WK wx base g S s) => fail_any hx hb 4 (by decide)
  have HI := Lib.hid hi
  clear hL hown hz hf hT hTb hcd hp ht hto hi
  by_cases hr : s.r ≤ q
  · have hd1 : decide (s.r ≤ q) = true := by simp; omega
    have HR : Hid (followU s = failU s 4) := Lib.hid (by unfold followU; rw [← HTo.out, if_pos hr])
    clear hr
    go_enter Tryz.func260, Tryz.ntmps260
    go_wp2
    go_quiet (fail)
    go_wp2_with (go_at_call 265; refine (HF.out _ (HW.out.drewN _)).mono ?_; rintro e1 w1 ⟨rfl, hw1, hk1⟩; have HW1 := Lib.hid hw1; have HK1 := Lib.hid hk1; clear hw1 hk1)
    refine bodyPost_ret (v := .tuple #[]) (by simp [results, Tryz.results260, go_sem]) rfl ?_
    rw [HR.out]
    exact ⟨rfl, HW1.out, Kp.from_drewN HK1.out⟩
  · have hd1 : decide (s.r ≤ q) = false := by simp; omega
    have hj1 : s.j + 1 ≤ 9223372036854775807 := by omega
    have HR : Hid (followU s = { s with r := q, p := q, j := s.j + 1 }) := Lib.hid (by unfold followU; rw [← HTo.out, if_neg hr])
    clear hr
    go_enter Tryz.func260, Tryz.ntmps260
    go_wp2
    go_quiet (fail)
    go_wp2
    refine bodyPost_ret (v := .tuple #[]) (by simp [results, Tryz.results260, go_sem]) rfl ?_
    rw [HR.out]
    have hL' := (((HL.out.drewN nq).set 5 (.int .i64 q)).set 6 (.int .i64 q)).set 2 (.int .i64 ((s.j : Int) + 1))
    refine ⟨rfl, ⟨v, .int .i64 q, .int .i64 q, .string ⟨s.t.toArray⟩, ?_, Own.grown (w := w.drewN nq) HO.out (grown_next (grown_next (grown_set (base := 0) _ g 5 _) (grown_set (base := 0) _ g 6 _)) (grown_set (base := 0) _ g 2 _)) (.inr (Own.ne_lies HO.out HL.out (by decide)).symm), fun _ => ⟨rfl, rfl, rfl⟩⟩, Kp.from_drewN (n := nq) (Kp.stored (w := w.drewN nq) (row := []) hb (Nat.le_of_lt (Nat.lt_of_le_of_lt hb hlt)) (grown_next (grown_next (grown_set (base := 0) _ g 5 _) (grown_set (base := 0) _ g 6 _)) (grown_set (base := 0) _ g 2 _)) (.inl ?_))⟩
    · simp only [Int.natCast_add, Int.natCast_one]
      exact hL'
    · exact (rowOf_lies (u := v) hL' rfl).trans (rowOf_lies (u := v) (HL.out.drewN nq) rfl).symm

set_option maxHeartbeats 1000000 in
theorem keep_any (h : WK w base g S s) (hb : base ≤ g) (hf : s.f = 0) (hi : InvU S.size s) :
    Calls Tryz.prog 261 #[wp_ g] w (Wlk w base g S (keepU s) (.tuple #[])) := by
  have HW := Lib.hid h
  have HF := Lib.hid fun wx (hx : WK wx base g S s) => fail_any hx hb 3 (by decide)
  obtain ⟨v, R, P, T, hL, hown, hz⟩ := h
  obtain ⟨rfl, rfl, rfl⟩ := hz hf
  obtain ⟨A, cap, rfl⟩ := hown.shape
  obtain ⟨t, hT⟩ : ∃ t : ByteArray, t = (⟨s.t.toArray⟩ : ByteArray) := ⟨_, rfl⟩
  have hTb : bs t = s.t := by rw [hT, bs_mk]
  have hts : t.size = s.t.length := by rw [← bs_length, hTb]
  have hl1 := hi.l
  have hl2 := hi.t
  have HL := Lib.hid hL
  have HO := Lib.hid hown
  have hlt := hL.lt
  have hc0 : w.cell? ⟨g, 0, none⟩ = some (.slice A s.l.length cap) := hL.cell 0
  have hc7 : w.cell? ⟨g, 7, none⟩ = some (.string t) := by rw [hT]; exact hL.cell 7
  have hf0 := hL.free 0
  have hw : IntKind.i64.wrap ((s.l.length : Int) + (t.size : Int)) = (s.l.length : Int) + (t.size : Int) := IntWalk.i64_in _ (by omega)
  have HFz := Lib.hid hf
  have HTT := Lib.hid hT
  have HTB := Lib.hid hTb
  have HTS := Lib.hid hts
  have hbw : base ≤ w.heap.size := Nat.le_of_lt (Nat.lt_of_le_of_lt hb hlt)
  have hlen : s.l.length + t.size ≤ 70368744177664 := by omega
  clear hL hown hz hf hT hTb hi
  by_cases hr : 254 < s.l.length + s.t.length
  · have hd1 : decide ((254 : Int) < (s.l.length : Int) + (t.size : Int)) = true := by simp; omega
    have HR : Hid (keepU s = failU s 3) := Lib.hid (by unfold keepU; rw [if_pos hr])
    clear hr hts
    go_enter Tryz.func261, Tryz.ntmps261
    go_wp2
    go_quiet (fail)
    go_wp2_with (go_at_call 265; refine (HF.out _ (HW.out.drewN _)).mono ?_; rintro e1 w1 ⟨rfl, hw1, hk1⟩; have HW1 := Lib.hid hw1; have HK1 := Lib.hid hk1; clear hw1 hk1)
    refine bodyPost_ret (v := .tuple #[]) (by simp [results, Tryz.results261, go_sem]) rfl ?_
    rw [HR.out]
    exact ⟨rfl, HW1.out, Kp.from_drewN HK1.out⟩
  · have hd1 : decide ((254 : Int) < (s.l.length : Int) + (t.size : Int)) = false := by simp; omega
    have HR : Hid (keepU s = { s with l := s.l ++ s.t }) := Lib.hid (by unfold keepU; rw [if_neg hr])
    obtain ⟨l', hl'⟩ : ∃ l', s.l ++ bs t = l' := ⟨_, rfl⟩
    have HLL := Lib.hid hl'
    clear hr hts hl'
    go_enter Tryz.func261, Tryz.ntmps261
    go_wp2
    go_quiet (fail)
    go_wp2
    clear hw hd1
    have HO2 : Hid (Own 5 (w.drewN nq).drew base (.slice A s.l.length cap) s.l) := Lib.hid HO.out
    have HL2 : Hid (Lies (w.drewN nq).drew g 276 #[.slice A s.l.length cap, .int .i64 s.e, .int .i64 s.j, .int .i64 s.f, .string S, .int .i64 s.r, .int .i64 s.p, .string ⟨s.t.toArray⟩]) := Lib.hid HL.out
    have hbw2 : base ≤ (w.drewN nq).drew.heap.size := hbw
    go_region_law ((refine step_appendL bt (by rfl) (.tmp 24) (.tmp 28) (by rfl) base (.slice A s.l.length cap) s.l (by rfl) HO2.out t (by rfl) hlen hbw2 l' HLL.out ?_; intro A3 cap3 w3 hown3 hg3 hob3; have HB3 := Lib.hid hob3; have HO3 := Lib.hid hown3; have HG3 := Lib.hid hg3; have HL3 := Lib.hid (Lies.grown HL2.out hg3 (Own.ne_lies HO2.out HL2.out (by decide))); clear hown3 hg3 hob3; have hc3 := HL3.out.cell 0; have hf3 := HL3.out.free 0))
    all_goals
      go_wp2
      refine bodyPost_ret (v := .tuple #[]) (by simp [results, Tryz.results261, go_sem]) rfl ?_
      rw [HR.out]
      have hL' := HL3.out.set 0 (.slice A3 l'.length cap3)
      have e : s.l ++ s.t = l' := by rw [← HTB.out]; exact HLL.out
      rw [e]
      refine ⟨rfl, ⟨_, .int .i64 s.r, .int .i64 s.p, .string ⟨s.t.toArray⟩, hL', Own.grown HO3.out (grown_set (base := 0) _ g 0 _) (.inr (Own.ne_lies HO3.out HL3.out (by decide)).symm), fun _ => ⟨rfl, rfl, rfl⟩⟩, ?_⟩
      exact Kp.from_drewN (n := nq + 1) (Kp.of_put (w := w.drewN (nq + 1)) (HL.out.drewN (nq + 1)) rfl HO.out (by decide) HG3.out hbw hb HB3.out)
end
end Go.Proofs.YtdpgcgaalamgkaaGreat
namespace Go.Proofs.YtdpgcgaalamgkaaGreat
open Go.RowKit
set_option linter.unusedVariables false

theorem Lies.eight {w : World} {g : Nat} {t : TypeId} {c0 c1 c2 c3 c4 c5 c6 c7 : Value} (h : Lies w g t #[c0, c1, c2, c3, c4, c5, c6, c7]) :
    (w.cell? ⟨g, 0, none⟩ = some c0 ∧ w.cell? ⟨g, 1, none⟩ = some c1 ∧ w.cell? ⟨g, 2, none⟩ = some c2 ∧ w.cell? ⟨g, 3, none⟩ = some c3 ∧ w.cell? ⟨g, 4, none⟩ = some c4 ∧ w.cell? ⟨g, 5, none⟩ = some c5 ∧ w.cell? ⟨g, 6, none⟩ = some c6 ∧ w.cell? ⟨g, 7, none⟩ = some c7) :=
  ⟨h.cell 0, h.cell 1, h.cell 2, h.cell 3, h.cell 4, h.cell 5, h.cell 6, h.cell 7⟩
theorem Lies.eightF {w : World} {g : Nat} {t : TypeId} {cs : Array Value} (h : Lies w g t cs) :
    (w.frozen? ⟨g, 0, none⟩ = false ∧ w.frozen? ⟨g, 1, none⟩ = false ∧ w.frozen? ⟨g, 2, none⟩ = false ∧ w.frozen? ⟨g, 3, none⟩ = false ∧ w.frozen? ⟨g, 4, none⟩ = false ∧ w.frozen? ⟨g, 5, none⟩ = false ∧ w.frozen? ⟨g, 6, none⟩ = false ∧ w.frozen? ⟨g, 7, none⟩ = false) :=
  ⟨h.free 0, h.free 1, h.free 2, h.free 3, h.free 4, h.free 5, h.free 6, h.free 7⟩
/-- The walk that begin hands back. -/
abbrev begV (S : ByteArray) (a r : Int) (f : Nat) : Value := .agg #[.slice none 0 0, .int .i64 0, .int .i64 0, .int .i64 f, .string S, .int .i64 r, .int .i64 a, .string ⟨#[]⟩]
set_option maxHeartbeats 400000 in
theorem beg_yes (S : ByteArray) (a r : Int) (w : World) (hs : S.size ≤ maxLen) (h0 : 0 ≤ a) (ha : a ≤ S.size) :
    Calls Tryz.prog 257 #[.string S, .int .i64 a, .int .i64 r] w fun e w' => e = .returned (begV S a r 0) ∧ Below w.heap.size w w' := by
  unfold maxLen at hs
  have hd1 : decide (a < 0) = false := by simp; omega
  have hd2 : decide ((S.size : Int) < a) = false := by simp; omega
  go_enter Tryz.func257, Tryz.ntmps257
  go_wp2
  exact bodyPost_ret (v := begV S a r 0) (by simp [results, Tryz.results257, go_sem]) rfl ⟨rfl, ((Below.refl _ _).alloc (Nat.le_refl _) _).alloc (by simp) _⟩
set_option maxHeartbeats 400000 in
theorem beg_no (S : ByteArray) (a r : Int) (w : World) (hs : S.size ≤ maxLen) (ha : a < 0 ∨ (S.size : Int) < a) :
    Calls Tryz.prog 257 #[.string S, .int .i64 a, .int .i64 r] w fun e w' => e = .returned (begV S a r 2) ∧ Below w.heap.size w w' := by
  unfold maxLen at hs
  have HF : Hid (∀ o, Calls Tryz.prog 265 #[wp_ (w.heap.size + 1), .int .i64 2] ((w.alloc o).alloc (.cells #[.slice none 0 0, .int .i64 0, .int .i64 0, .int .i64 0, .string S, .int .i64 r, .int .i64 a, .string ⟨#[]⟩] 276)) (Failed ((w.alloc o).alloc (.cells #[.slice none 0 0, .int .i64 0, .int .i64 0, .int .i64 0, .string S, .int .i64 r, .int .i64 a, .string ⟨#[]⟩] 276)) (w.heap.size + 1) 2 (.string S) (.int .i64 r) (.int .i64 a) (.string ⟨#[]⟩))) := Lib.hid fun o => by
    have h1 := Lies.new (w.alloc o) 276 #[.slice none 0 0, .int .i64 0, .int .i64 0, .int .i64 0, .string S, .int .i64 r, .int .i64 a, .string ⟨#[]⟩]
    rw [show (w.alloc o).heap.size = w.heap.size + 1 by simp] at h1
    exact fail_cells h1 2
  rcases Int.lt_or_le a 0 with h0 | h0
  · have hd1 : decide (a < 0) = true := by simp; omega
    clear ha
    go_enter Tryz.func257, Tryz.ntmps257
    go_wp2_with (go_at_call 265; (with_reducible refine (HF.out _).mono ?_); rintro e1 w1 ⟨rfl, hl1, hg1⟩; have HL1 := Lib.hid hl1; have HG1 := Lib.hid hg1; obtain ⟨k0, k1, k2, k3, k4, k5, k6, k7⟩ := hl1.eight; have hl0 := Lies.grown ((Lies.new w 276 #[.slice none 0 0, .int .i64 0, .int .i64 0, .int .i64 0, .string ⟨#[]⟩, .int .i64 0, .int .i64 0, .string ⟨#[]⟩]).alloc _) hg1 (by simp); obtain ⟨m0, m1, m2, m3, m4, m5, m6, m7⟩ := hl0.eight; obtain ⟨z0, z1, z2, z3, z4, z5, z6, z7⟩ := hl0.eightF; have HL0 := Lib.hid hl0; clear hl1 hg1 hl0)
    have hB : Below w.heap.size w w1 := (((Below.refl w.heap.size w).alloc (Nat.le_refl _) _).alloc (by simp) _).grown HG1.out (by simp; omega) (fun k hk => by injection hk with hk; omega)
    exact bodyPost_ret (v := begV S a r 2) (by simp [results, Tryz.results257, go_sem, m0, m1, m2, m3, m4, m5, m6, m7]) rfl ⟨rfl, (((((((hB.setCell (Nat.le_refl _) _).setCell (Nat.le_refl _) _).setCell (Nat.le_refl _) _).setCell (Nat.le_refl _) _).setCell (Nat.le_refl _) _).setCell (Nat.le_refl _) _).setCell (Nat.le_refl _) _).setCell (Nat.le_refl _) _⟩
  · have hd1 : decide (a < 0) = false := by simp; omega
    have hd2 : decide ((S.size : Int) < a) = true := by simp; omega
    clear ha
    go_enter Tryz.func257, Tryz.ntmps257
    go_wp2_with (go_at_call 265; (with_reducible refine (HF.out _).mono ?_); rintro e1 w1 ⟨rfl, hl1, hg1⟩; have HL1 := Lib.hid hl1; have HG1 := Lib.hid hg1; obtain ⟨k0, k1, k2, k3, k4, k5, k6, k7⟩ := hl1.eight; have hl0 := Lies.grown ((Lies.new w 276 #[.slice none 0 0, .int .i64 0, .int .i64 0, .int .i64 0, .string ⟨#[]⟩, .int .i64 0, .int .i64 0, .string ⟨#[]⟩]).alloc _) hg1 (by simp); obtain ⟨m0, m1, m2, m3, m4, m5, m6, m7⟩ := hl0.eight; obtain ⟨z0, z1, z2, z3, z4, z5, z6, z7⟩ := hl0.eightF; have HL0 := Lib.hid hl0; clear hl1 hg1 hl0)
    have hB : Below w.heap.size w w1 := (((Below.refl w.heap.size w).alloc (Nat.le_refl _) _).alloc (by simp) _).grown HG1.out (by simp; omega) (fun k hk => by injection hk with hk; omega)
    exact bodyPost_ret (v := begV S a r 2) (by simp [results, Tryz.results257, go_sem, m0, m1, m2, m3, m4, m5, m6, m7]) rfl ⟨rfl, (((((((hB.setCell (Nat.le_refl _) _).setCell (Nat.le_refl _) _).setCell (Nat.le_refl _) _).setCell (Nat.le_refl _) _).setCell (Nat.le_refl _) _).setCell (Nat.le_refl _) _).setCell (Nat.le_refl _) _).setCell (Nat.le_refl _) _⟩

/-- What read hands back. -/
def Found (w : World) (u : US) (e : Ending) (w' : World) : Prop := ∃ v, e = .returned (.agg #[v, .int .i64 u.e, .int .i64 u.j, .int .i64 u.f]) ∧ Own 5 w' w.heap.size v u.l ∧ Below w.heap.size w w'
/-- The block of what read hands back, ahead of its end. -/
abbrev FL (wr : World) (b : Nat) : Prop := Lies wr b 266 #[.slice none 0 0, .int .i64 0, .int .i64 0, .int .i64 0]
/-- The relation of both loops. -/
def RdRel' (S : ByteArray) (w : World) (g : Nat) (u : US) (k : Nat) (s : US) (wr : World) : Prop :=
  WK wr w.heap.size g S s ∧ InvU S.size s ∧ muU (bs S) s ≤ k ∧ runU (bs S) k s = u ∧ Below w.heap.size w wr ∧ FL wr w.heap.size
def OutRel (S : ByteArray) (w : World) (g : Nat) (u : US) (k : Nat) (wr : World) : Prop := ∃ s, RdRel' S w g u k s wr
def InRel (S : ByteArray) (w : World) (g : Nat) (u : US) (m k : Nat) (wr : World) : Prop := ∃ s, RdRel' S w g u k s wr ∧ k ≤ m ∧ (s.f = 0 ∨ k < m)
theorem WK.other {w w' : World} {base g h : Nat} {S : ByteArray} {s : US} {t : TypeId} {cs : Array Value} (hW : WK w base g S s) (hk : Kp base g w w') (hL : Lies w h t cs) (hne : h ≠ g) (ht : t ≠ 5) : Lies w' h t cs := by
  obtain ⟨v, R, P, T, hL2, hown, _⟩ := hW
  refine (hk.rest h hL.lt hne ?_).trans hL
  rw [rowOf_lies hL2 rfl]
  exact hown.ne_lies hL ht
/-- The round's next state, the call's own block beside it. -/
theorem RdRel'.next {S : ByteArray} {w wr w' : World} {g k k' : Nat} {u s s' : US} (h : RdRel' S w g u k s wr) (hg : w.heap.size < g) (hW : WK w' w.heap.size g S s') (hk : Kp w.heap.size g wr w') (hi : InvU S.size s') (hm : muU (bs S) s' ≤ k') (hr : runU (bs S) k' s' = u) : RdRel' S w g u k' s' w' :=
  ⟨hW, hi, hm, hr, h.2.2.2.2.1.trans hk.below, h.1.other hk h.2.2.2.2.2 (by omega) (by decide)⟩
theorem found_end {S : ByteArray} {w wr : World} {g : Nat} {u : US} {v R P T : Value} {k : Nat} (hL : Lies wr g 276 #[v, .int .i64 u.e, .int .i64 u.j, .int .i64 u.f, .string S, R, P, T]) (hown : Own 5 wr w.heap.size v u.l) (hb : Below w.heap.size w wr) (hF : FL wr w.heap.size) :
    Found w u (.returned (.agg #[v, .int .i64 u.e, .int .i64 u.j, .int .i64 u.f])) ((((wr.setCell ⟨w.heap.size, 0, none⟩ v).setCell ⟨w.heap.size, 1, none⟩ (.int .i64 u.e)).setCell ⟨w.heap.size, 2, none⟩ (.int .i64 u.j)).setCell ⟨w.heap.size, 3, none⟩ (.int .i64 u.f)) :=
  ⟨v, rfl, Own.grown hown (grown_next (grown_next (grown_next (grown_set (base := 0) _ _ 0 _) (grown_set (base := 0) _ _ 1 _)) (grown_set (base := 0) _ _ 2 _)) (grown_set (base := 0) _ _ 3 _)) (.inr (Own.ne_lies hown hF (by decide)).symm), (((hb.setCell (Nat.le_refl _) _).setCell (Nat.le_refl _) _).setCell (Nat.le_refl _) _).setCell (Nat.le_refl _) _⟩
set_option maxHeartbeats 2000000 in
theorem read_yes (S : ByteArray) (a r : Nat) (w : World) (hs : S.size ≤ maxLen) (ha : a ≤ S.size) (hr : a + r ≤ a + S.size) :
    Calls Tryz.prog 247 #[.string S, .int .i64 a, .int .i64 r] w (Found w (runU (bs S) (muU (bs S) (begU a r)) (begU a r))) := by
  have HBeg := Lib.hid fun wx => beg_yes S a r wx hs (by omega) (by omega)
  obtain ⟨u, hu⟩ : ∃ u, runU (bs S) (muU (bs S) (begU a r)) (begU a r) = u := ⟨_, rfl⟩
  obtain ⟨n0, hn0⟩ : ∃ n, muU (bs S) (begU a r) = n := ⟨_, rfl⟩
  rw [hu]
  rw [hn0] at hu
  have HU := Lib.hid hu
  have HN := Lib.hid hn0
  have HI0 := Lib.hid (begU_inv ha (show r ≤ S.size by omega))
  have HS := Lib.hid hs
  clear hu hn0
  go_enter Tryz.func247, Tryz.ntmps247
  go_wp2
  go_step3
  go_wp2_with (go_at_call 257; (with_reducible refine (HBeg.out _).mono ?_); rintro e1 w1 ⟨rfl, hb1⟩; have HB1 := Lib.hid hb1; clear hb1)
  go_step3
  go_wp2
  have HR0 : Hid (OutRel S w w1.heap.size u n0 (w1.alloc (.cells #[.slice none 0 0, .int .i64 0, .int .i64 0, .int .i64 0, .string S, .int .i64 r, .int .i64 a, .string ⟨#[]⟩] 276))) := Lib.hid ⟨begU a r, ⟨.slice none 0 0, _, _, _, Lies.new _ _ _, Own.none_ _ _, fun _ => ⟨rfl, rfl, rfl⟩⟩, HI0.out, by rw [HN.out]; exact Nat.le_refl _, HU.out, ((((Below.refl w.heap.size w).alloc (Nat.le_refl _) _).trans (HB1.out.mono (by simp))).alloc (by have := HB1.out.size; simp at this; omega) _), ((Lies.new w _ _).next HB1.out).alloc _⟩
  have hg : w.heap.size < w1.heap.size := by have := HB1.out.size; simp at this; omega
  go_loopg [] n0 (fun k wr => OutRel S w w1.heap.size u k wr)
  case atStart => exact HR0.out
  case round =>
    clear HR0
    obtain ⟨s, hR⟩ := hrel
    have HR := Lib.hid hR
    obtain ⟨hW, hi, hmu, hrun, hb, hF⟩ := hR
    obtain ⟨c0, R, P, T, hL, hown, hz⟩ := hW
    have hc3 : wr.cell? ⟨w1.heap.size, 3, none⟩ = some (.int .i64 s.f) := hL.cell 3
    by_cases hf : s.f = 0
    · have hfb : ((s.f : Int) == 0) = true := by rw [beq_iff_eq]; omega
      have HFz := Lib.hid hf
      rcases gk with _ | m
      · rw [show muU (bs S) s = _ from if_neg (by omega)] at hmu
        omega
      clear hmu hrun hb hF hL hown hz hf hi
      go_wp2
      go_loopg [] (m + 1) (fun k wr => InRel S w w1.heap.size u (m + 1) k wr)
      case atStart => exact ⟨s, HR.out, Nat.le_refl _, .inl HFz.out⟩
      case round =>
        clear HR HFz hc3 hfb
        obtain ⟨s, hR, hkm, hfk⟩ := hrel
        have HR := Lib.hid hR
        obtain ⟨hW, hi, hmu, hrun, hb, hF⟩ := hR
        have HW := Lib.hid hW
        have HI := Lib.hid hi
        by_cases hf : s.f = 0
        · rcases gk with _ | k
          · rw [show muU (bs S) s = _ from if_neg (by omega)] at hmu
            omega
          by_cases he : (partU ((bs S).drop s.p)).2 = 0
          · obtain ⟨s2, hs2⟩ : ∃ s2, overU (bs S) s (partU ((bs S).drop s.p)).1 = s2 := ⟨_, rfl⟩
            have hf2 : s2.f = 0 := by rw [← hs2]; exact hf
            have hi2 : InvU S.size s2 := by rw [← hs2, ← bs_length]; exact overU_inv (by rw [bs_length]; exact hi) he
            have htl := overU_t he
            have hpo := partU_ok he
            rw [hs2] at htl
            have HStep := Lib.hid (step_yes hW (Nat.le_of_lt hg) hf hi HS.out he)
            rw [hs2] at HStep
            have HI2 := Lib.hid hi2
            have HF2 := Lib.hid hf2
            obtain ⟨T2, hT2⟩ : ∃ T2 : ByteArray, (⟨s2.t.toArray⟩ : ByteArray) = T2 := ⟨_, rfl⟩
            have hTb : bs T2 = s2.t := by rw [← hT2, bs_mk]
            have HT2 := Lib.hid hT2
            by_cases ht : s2.t = [0]
            · have hq1 : T2.toList = [0] := by rw [bs_toList, hTb, ht]
              have hq2 : (T2.toList == [0]) = true := by rw [hq1]; rfl
              have hu2 : s2 = u := by rw [← hrun, runU_end hf he (by rw [hs2]; exact ht), hs2]
              subst hu2
              clear hmu hrun hb hF hW hf hi he hfk hs2 hf2 hi2 htl hpo hT2 hTb ht
              go_wp2_with (go_at_call 258; (with_reducible refine HStep.out.mono ?_); rintro e2 w2 ⟨rfl, hw2, hk2⟩; have hF2 := HW.out.other hk2 HR.out.2.2.2.2.2 (by omega) (by decide); have hb2 := HR.out.2.2.2.2.1.trans hk2.below; obtain ⟨c0, R, P, T, hL, hown, hz⟩ := hw2; obtain ⟨rfl, rfl, rfl⟩ := hz HF2.out; rw [HT2.out] at hL; obtain ⟨A, cap, rfl⟩ := hown.shape; obtain ⟨k0, k1, k2, k3, k4, k5, k6, k7⟩ := hL.eight; have m0 := hF2.cell 0; have m1 := hF2.cell 1; have m2 := hF2.cell 2; have m3 := hF2.cell 3; obtain ⟨z0, z1, z2, z3, _, _, _, _⟩ := hF2.eightF; have HE := Lib.hid (found_end (k := 0) hL hown hb2 hF2); clear hF2 hb2 hL hown hz hk2)
              try rw [Exit.noGoto_ret]
              refine bodyPost_ret (v := .agg #[_, .int .i64 _, .int .i64 _, .int .i64 _]) (by simp [results, Tryz.results247, go_sem, m0, m1, m2, m3]) rfl HE.out
            · have hne : T2.toList ≠ [0] := by rw [bs_toList, hTb]; exact ht
              have hq1 : ¬ T2.toList = [0] := hne
              have hq2 : (T2.toList == [0]) = false := by rw [beq_eq_false_iff_ne]; exact hne
              have hne0 : s2.t ≠ [] := fun e => by rw [e] at htl; simp at htl; omega
              cases hp : isPtr s2.t
              · have HPtr : Hid (∀ wx, WK wx w.heap.size w1.heap.size S s2 → Calls Tryz.prog 259 #[wp_ w1.heap.size] wx fun e w' => e = .returned (.bool false) ∧ wx = w') := Lib.hid fun wx hx => by have := ptr_any hx hf2 hne0; rw [hp] at this; exact this
                have HKeep := Lib.hid fun wx (hx : WK wx w.heap.size w1.heap.size S s2) => keep_any hx (Nat.le_of_lt hg) hf2 hi2
                have HNx : Hid (∀ w', WK w' w.heap.size w1.heap.size S (keepU s2) → Kp w.heap.size w1.heap.size wr w' → InRel S w w1.heap.size u (m + 1) k w') := Lib.hid fun w' h1 h2 => ⟨_, HR.out.next hg h1 h2 (keepU_inv hi2) (by rw [← hs2]; exact mu_keep (by rw [bs_length]; exact hi) he hf hmu) (by rw [← hrun, runU_lab hf he (by rw [hs2]; exact ht) (by rw [hs2]; exact hp), hs2]), by omega, .inr (by omega)⟩
                clear hmu hrun hb hF hW hf hi he hfk hs2 hf2 hi2 htl hpo hT2 hTb ht hne hne0 hp
                go_wp2_with (first | (go_at_call 258; (with_reducible refine HStep.out.mono ?_); rintro e2 w2 ⟨rfl, hw2, hk2⟩; have HW2 := Lib.hid hw2; have HK2 := Lib.hid hk2; obtain ⟨c0, R, P, T, hL, hown, hz⟩ := hw2; obtain ⟨rfl, rfl, rfl⟩ := hz HF2.out; rw [HT2.out] at hL; have k7 : w2.cell? ⟨w1.heap.size, 7, none⟩ = some (.string T2) := hL.cell 7; clear hL hown hz hk2) | (go_at_call 259; (with_reducible refine (HPtr.out _ HW2.out).mono ?_); rintro e2 w' ⟨rfl, rfl⟩) | (go_at_call 261; (with_reducible refine (HKeep.out _ HW2.out).mono ?_); rintro e3 w3 ⟨rfl, hw3, hk3⟩; have HO3 := Lib.hid (HNx.out _ hw3 (HK2.out.trans hk3)); clear hw3 hk3))
                go_roundg k
                case measure => omega
                case rel => exact HO3.out
              · have HPtr : Hid (∀ wx, WK wx w.heap.size w1.heap.size S s2 → Calls Tryz.prog 259 #[wp_ w1.heap.size] wx fun e w' => e = .returned (.bool true) ∧ wx = w') := Lib.hid fun wx hx => by have := ptr_any hx hf2 hne0; rw [hp] at this; exact this
                have h2 : s2.t.length = 2 := by
                  obtain ⟨p1, p2, p3, c, t, hct, hor⟩ := hpo
                  have e : s2.t = (c :: t).take (partU ((bs S).drop s.p)).1 := by rw [← hs2]; show ((bs S).drop s.p).take _ = _; rw [hct]
                  obtain ⟨x, hx⟩ : ∃ x, (partU ((bs S).drop s.p)).1 = x + 1 := ⟨(partU ((bs S).drop s.p)).1 - 1, by omega⟩
                  rw [hx, List.take_succ_cons] at e
                  have hc : 192 ≤ c.toNat := by rw [e] at hp; simpa [isPtr] using hp
                  omega
                have HFol := Lib.hid fun wx (hx : WK wx w.heap.size w1.heap.size S s2) => follow_any hx (Nat.le_of_lt hg) hf2 hi2 HS.out hp h2
                have HNx : Hid (∀ w', WK w' w.heap.size w1.heap.size S (followU s2) → Kp w.heap.size w1.heap.size wr w' → OutRel S w w1.heap.size u k w') := Lib.hid fun w' h1 h2 => ⟨_, HR.out.next hg h1 h2 (followU_inv hi2) (by rw [← hs2]; exact mu_follow (by rw [bs_length]; exact hi) he hf hmu) (by rw [← hrun, runU_ptr hf he (by rw [hs2]; exact ht) (by rw [hs2]; exact hp), hs2])⟩
                clear hmu hrun hb hF hW hf hi he hfk hs2 hf2 hi2 htl hpo hT2 hTb ht hne hne0 hp h2
                go_wp2_with (first | (go_at_call 258; (with_reducible refine HStep.out.mono ?_); rintro e2 w2 ⟨rfl, hw2, hk2⟩; have HW2 := Lib.hid hw2; have HK2 := Lib.hid hk2; obtain ⟨c0, R, P, T, hL, hown, hz⟩ := hw2; obtain ⟨rfl, rfl, rfl⟩ := hz HF2.out; rw [HT2.out] at hL; have k7 : w2.cell? ⟨w1.heap.size, 7, none⟩ = some (.string T2) := hL.cell 7; clear hL hown hz hk2) | (go_at_call 259; (with_reducible refine (HPtr.out _ HW2.out).mono ?_); rintro e2 w' ⟨rfl, rfl⟩) | (go_at_call 260; (with_reducible refine (HFol.out _ HW2.out).mono ?_); rintro e3 w3 ⟨rfl, hw3, hk3⟩; have HO3 := Lib.hid (HNx.out _ hw3 (HK2.out.trans hk3)); clear hw3 hk3))
                go_roundg k
                case measure => omega
                case rel => exact HO3.out
          · have HStep := Lib.hid (step_bad hW (Nat.le_of_lt hg) hf hi HS.out he)
            have HNx : Hid (∀ w', WK w' w.heap.size w1.heap.size S (failU s (partU ((bs S).drop s.p)).2) → Kp w.heap.size w1.heap.size wr w' → OutRel S w w1.heap.size u k w') := Lib.hid fun w' h1 h2 => ⟨_, HR.out.next hg h1 h2 (failU_inv hi _) (by rw [show muU (bs S) (failU s _) = 0 from if_pos he]; omega) (by rw [runU_stop (show (failU s _).f ≠ 0 from he), ← hrun, runU_bad hf he])⟩
            clear hmu hrun hb hF hW hf hi he hfk
            go_wp2_with (go_at_call 258; (with_reducible refine HStep.out.mono ?_); rintro e2 w2 ⟨rfl, hw2, hk2⟩; have HO2 := Lib.hid (HNx.out _ hw2 hk2); clear hw2 hk2)
            go_roundg k
            case measure => omega
            case rel => exact HO2.out
        · have hgk : gk < m + 1 := hfk.resolve_left hf
          have HStep := Lib.hid (step_no hW hf)
          have HNx : Hid (∀ w', WK w' w.heap.size w1.heap.size S s → Kp w.heap.size w1.heap.size wr w' → OutRel S w w1.heap.size u gk w') := Lib.hid fun w' h1 h2 => ⟨_, HR.out.next hg h1 h2 hi hmu hrun⟩
          clear hmu hrun hb hF hW hf hi hfk
          go_wp2_with (go_at_call 258; (with_reducible refine HStep.out.mono ?_); rintro e2 w2 ⟨rfl, hw2, hk2⟩; have HO2 := Lib.hid (HNx.out _ hw2 hk2); clear hw2 hk2)
          go_roundg gk
          case measure => omega
          case rel => exact HO2.out
    · have hfb : ((s.f : Int) == 0) = false := by rw [beq_eq_false_iff_ne]; omega
      have hu : s = u := by rw [← hrun, runU_stop hf]
      subst hu
      obtain ⟨A, cap, rfl⟩ := hown.shape
      obtain ⟨k0, k1, k2, k3, k4, k5, k6, k7⟩ := hL.eight
      have m0 := hF.cell 0
      have m1 := hF.cell 1
      have m2 := hF.cell 2
      have m3 := hF.cell 3
      obtain ⟨z0, z1, z2, z3, _, _, _, _⟩ := hF.eightF
      have HE := Lib.hid (found_end (k := 0) hL hown hb hF)
      clear hmu hrun hb hF hL hown hz hf hi
      go_wp2
      try rw [Exit.noGoto_ret]
      refine bodyPost_ret (v := .agg #[_, .int .i64 _, .int .i64 _, .int .i64 _]) (by simp [results, Tryz.results247, go_sem, m0, m1, m2, m3]) rfl HE.out
end Go.Proofs.YtdpgcgaalamgkaaGreat
