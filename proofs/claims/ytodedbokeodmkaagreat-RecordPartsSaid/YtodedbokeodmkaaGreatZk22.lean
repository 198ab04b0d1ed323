/-
  What a packer's Begin and End answer, and its own begin, end: the walks. Conditions: as each theorem names them.
-/
import Derived.Test.YtodedbokeodmkaaGreatZk21
import Derived.IntWalk
namespace Go.Proofs.YtodedbokeodmkaaGreat
open Go.RowKit Go.Maps
set_option linter.unusedVariables false
set_option maxRecDepth 100000

theorem infoI : (Tryz.prog.info? 3).map (fun i => (i.zero, i.size, i.bytes)) = some (some (.int .i64 0), 1, 8) := by kernel_rfl
theorem ownsRow_shape {w : World} {base : Nat} {t : TypeId} {size : Nat} {v : Value} {n : Nat} {xs : List Value} (h : w.ownsRow base t size v n xs) : ∃ A cap, v = .slice A n cap := by
  rcases h.2 with ⟨rfl, rfl⟩ | ⟨g, cap, _, rfl, _⟩
  · exact ⟨none, 0, rfl⟩
  · exact ⟨_, cap, rfl⟩
section
variable {w : World} {base g gw gm n M : Nat} {F : Nat → Prop} {sv : Value} {s : PS}
theorem add_off (q j : Nat) : (⟨q, 0, none⟩ : Addr).add j = ⟨q, j, none⟩ := by unfold Addr.add; split <;> simp_all
theorem Inv.opened (h : Inv M s) {a : Nat} (ha : a + 2 ≤ s.l.length) (hl : s.o.length + 1 ≤ s.l.length) : Inv M { s with o := s.o ++ [a] } :=
  ⟨h.le, h.most, h.mark, fun b hb => by
    rcases List.mem_append.1 hb with hb | hb
    · exact h.begun b hb
    · rw [List.mem_singleton.1 hb]; exact ha, by rw [List.length_append]; exact hl⟩
/-- begin: one more place. -/
theorem pbegin_any (h : PKx w base F g gw gm n sv M s) (a : Nat) (ha : a + 2 ≤ s.l.length) (hl : s.o.length + 1 ≤ s.l.length) :
    Calls Tryz.prog 74 #[pp g, .int .i64 a] w (Pkr w base F g M { s with o := s.o ++ [a] } (.tuple #[])) := by
  obtain ⟨i0, hi, hz0, hz1, hz2⟩ := info_parts infoI
  have hco := h.co
  have hf := h.lies.free 0
  have hop := h.op
  have hbl := h.base_le
  have hbl' : base ≤ (w.alloc (.cells #[I64 a] 3)).heap.size := le_alloc hbl _
  have hown : (w.alloc (.cells #[I64 a] 3)).ownsRow base 3 1 sv s.o.length (s.o.map I64) := World.ownsRow.alloc h.op _
  have h1 : ∀ u ∈ [I64 a], u.oneCell' = true := fun u hu => by rw [List.mem_singleton.1 hu]; rfl
  have HOwn := Lib.hid hown
  have hne : some g ≠ sv.ownBlock := fun e => by
    obtain ⟨_, _, cur, hc⟩ := h.op.block e.symm
    rw [h.lies] at hc
    injection hc with e
    injection e with _ e _
    exact absurd e (by decide)
  have HK := Lib.hid fun v' w1 (h1 : w1.ownsRow base 3 1 v' (s.o.length + 1) (s.o.map I64 ++ [I64 a])) (h2 : (w.alloc (.cells #[I64 a] 3)).grownBy w1 sv.ownBlock) (h4 : v'.ownBlock = sv.ownBlock ∨ v'.ownBlock = some (w.alloc (.cells #[I64 a] 3)).heap.size) =>
    h.opened (w1 := w1) (v' := v') (o' := s.o ++ [a]) (by unfold OwnI; rw [List.length_append, List.map_append]; exact h1) (grown_alloc h2) (h4.imp id fun e k hk => by rw [e] at hk; injection hk with hk; rw [← hk]; simp) (h.inv.opened ha hl)
  have HF := Lib.hid fun w1 (h2 : (w.alloc (.cells #[I64 a] 3)).grownBy w1 sv.ownBlock) => show w1.frozen? ⟨g, 0, none⟩ = false ∧ w1.cell? ⟨g, 0, none⟩ = some sv from
    ⟨((h.lies.alloc _).grown h2 hne).free 0, ((h.lies.alloc _).grown h2 hne).cell 0⟩
  have hin1 := h.inv.le
  have hin2 := h.inv.most
  have hlt : s.o.length + 1 ≤ maxLen := by unfold maxLen; omega
  have hlt2 : (s.o.length + 1) * 8 ≤ 140737488355328 := by omega
  clear h hop hown hne hl ha hin1 hin2
  go_enter Tryz.func74, Tryz.ntmps74
  go_wp2_with (at_builtin; refine wpList_append_own_at _ rfl _ _ 71 rfl base 3 i0 (.int .i64 0) 1 8 Tryz.underlying71 hi hz0 hz1 hz2 rfl (by decide) sv s.o.length (s.o.map I64) rfl HOwn.out ⟨w.heap.size, 0, none⟩ 1 1 [I64 a] rfl rfl (cell_one_new _ _ _) h1 hlt hlt2 hbl' ?_; intro v' w1 hown1 hg1 hnil1 hob1; obtain ⟨A1, cap1, rfl⟩ := ownsRow_shape hown1; have HO1 := Lib.hid hown1; have HG1 := Lib.hid hg1; have HB1 := Lib.hid hob1; obtain ⟨hf1, hc1⟩ := HF.out _ hg1; clear hown1 hg1 hnil1 hob1)
  refine bodyPost_ret (v := .tuple #[]) (by simp [results, Tryz.results74, go_sem]) rfl ?_
  obtain ⟨x, y⟩ := HK.out _ _ HO1.out HG1.out HB1.out
  exact ⟨rfl, _, x.pk, y⟩
theorem getLast_take {l : List Nat} {b : Nat} (h : l.getLast? = some b) : l = l.dropLast ++ [b] ∧ l.dropLast = l.take (l.length - 1) ∧ l[l.length - 1]? = some b ∧ 1 ≤ l.length := by
  rw [List.getLast?_eq_some_iff] at h
  obtain ⟨ys, rfl⟩ := h
  simp
theorem Inv.closed (h : Inv M s) {b : Nat} (hb : s.o.getLast? = some b) : Inv M { s with o := s.o.dropLast } :=
  ⟨h.le, h.most, h.mark, fun a ha => h.begun a (List.dropLast_subset _ ha), by rw [List.length_dropLast]; have := h.olen; show s.o.length - 1 ≤ s.l.length; omega⟩
/-- end: whether the last place is a; then it is gone. -/
theorem pend_no (h : PKx w base F g gw gm n sv M s) (a : Int) (hno : s.o.getLast? = none ∨ ∃ b, s.o.getLast? = some b ∧ (b : Int) ≠ a) :
    Calls Tryz.prog 77 #[pp g, .int .i64 a] w fun e w' => e = .returned (.bool false) ∧ w = w' := by
  obtain ⟨A, cap, rfl, hl1, hl2, hA⟩ := h.op.shape
  have hco := h.co
  have hin1 := h.inv.le
  have hin2 := h.inv.most
  have hin3 := h.inv.olen
  unfold maxLen at hl2
  rcases hno with hn | ⟨b, hb, hne⟩
  · have h0 : s.o.length = 0 := by rw [List.getLast?_eq_none_iff.1 hn]; rfl
    rw [h0] at hco
    clear h hn hA hl1
    go_enter Tryz.func77, Tryz.ntmps77
    go_wp2
    go_ret
    exact ⟨rfl, rfl⟩
  · obtain ⟨_, _, h3, h4⟩ := getLast_take hb
    obtain ⟨q, rfl⟩ := hA (fun e => by rw [e] at h4; simp at h4)
    have hc : w.cell? ⟨q, s.o.length - 1, none⟩ = some (.int .i64 b) := by
      have := World.ownsRow.cells h.op (g := q) rfl (s.o.length - 1) (I64 b) (by rw [List.getElem?_map, h3]; rfl)
      rw [add_off] at this
      exact this
    obtain ⟨k, hk⟩ : ∃ k, s.o.length = k + 1 := ⟨s.o.length - 1, by omega⟩
    rw [hk] at hc hco hl1
    rw [Nat.add_sub_cancel] at hc
    have hbne : ((b : Int) != a) = true := bne_iff_ne.2 hne
    have hi0 : ¬ ((k : Int) < 0) := by omega
    have hk6 : k ≤ 65535 := by omega
    clear h h3 h4 hA hk hb hne hin1 hin2 hin3
    go_enter Tryz.func77, Tryz.ntmps77
    go_wp2
    go_ret
    exact ⟨rfl, rfl⟩
theorem pend_yes (h : PKx w base F g gw gm n sv M s) (b : Nat) (hb : s.o.getLast? = some b) :
    Calls Tryz.prog 77 #[pp g, .int .i64 b] w (Pkr w base F g M { s with o := s.o.dropLast } (.bool true)) := by
  obtain ⟨A, cap, rfl, hl1, hl2, hA⟩ := h.op.shape
  have hco := h.co
  have hf := h.lies.free 0
  have hin1 := h.inv.le
  have hin2 := h.inv.most
  have hin3 := h.inv.olen
  unfold maxLen at hl2
  obtain ⟨h1, h2, h3, h4⟩ := getLast_take hb
  clear h1
  obtain ⟨q, rfl⟩ := hA (fun e => by rw [e] at h4; simp at h4)
  have hc : w.cell? ⟨q, s.o.length - 1, none⟩ = some (.int .i64 b) := by
    have := World.ownsRow.cells h.op (g := q) rfl (s.o.length - 1) (I64 b) (by rw [List.getElem?_map, h3]; rfl)
    rw [add_off] at this
    exact this
  obtain ⟨k, hk⟩ : ∃ k, s.o.length = k + 1 := ⟨s.o.length - 1, by omega⟩
  have hop := h.op.prev k (by omega) (by simp)
  have hd : s.o.take k = s.o.dropLast := by rw [h2, hk]; rfl
  rw [hd] at hop
  have HK := Lib.hid (h.opened (w1 := w) (v' := .slice (some ⟨q, 0, none⟩) k cap) (o' := s.o.dropLast) hop ⟨rfl, rfl, rfl, Nat.le_refl _, fun _ _ _ => rfl⟩ (.inl rfl) (h.inv.closed hb))
  rw [hk] at hc hco hl1
  rw [Nat.add_sub_cancel] at hc
  have hbne : ((b : Int) != b) = false := by simp
  have hi0 : ¬ ((k : Int) < 0) := by omega
  have hk6 : k ≤ 65535 := by omega
  have hi1 : (0 : Int) ≤ (k : Int) := by omega
  have hi2 : (k : Int) ≤ (cap : Int) := by omega
  have hca : ¬ cap = 0 := by omega
  have hcb : ¬ 0 = cap := by omega
  clear h h2 h3 h4 hA hk hb hop hd hin1 hin2 hin3
  go_enter Tryz.func77, Tryz.ntmps77
  go_wp2
  go_ret
  obtain ⟨x, y⟩ := HK.out
  exact ⟨rfl, _, x.pk, y⟩

/-! ### Begin, End -/
theorem room02 : room 0 2 = true := by kernel_rfl
theorem num02 : numS M s 0 2 = putS M s [0, 0] ∨ s.f ≠ 0 := by
  by_cases hf : s.f = 0
  · left
    unfold numS putS
    rw [hf, numW_put room02]
    rfl
  · exact .inr hf
theorem begin_ok (h : Inv M s) (hz : (numS M s 0 2).1 = 0) : (numS M s 0 2).2 = { s with l := s.l ++ [0, 0] } := by
  rcases num02 (M := M) (s := s) with e | hf
  · rw [e] at hz ⊢
    exact (put_ok hz).2.2
  · unfold numS at hz
    rw [numW_err hf] at hz
    exact absurd hz hf
theorem pBegin_any (h : PK w base F g M s) :
    Calls Tryz.prog 35 #[pp g] w (Pkr w base F g M (beginS M s).2.2 (.tuple #[.int .i64 (beginS M s).1, .int .i64 (beginS M s).2.1])) := by
  have HL := Lib.hid (pLen_any h)
  have HN : Hid (Calls Tryz.prog 34 #[pp g, .int .u32 0, .int .i64 2] w (Pkr w base F g M (numS M s 0 2).2 (.int .i64 (numS M s 0 2).1))) := Lib.hid (pNumber_any h 0 2 (by decide))
  by_cases hz : (numS M s 0 2).1 = 0
  · have hi := h.inv
    have hok := begin_ok hi hz
    have hv : Hid (beginS M s = (s.l.length, 0, { s with l := s.l ++ [0, 0], o := s.o ++ [s.l.length] })) := Lib.hid (by unfold beginS; rw [if_pos hz, hok])
    rw [hz, hok] at HN
    have HB := Lib.hid fun w1 F1 (hp : PK w1 base F1 g M { s with l := s.l ++ [0, 0] }) => show Calls Tryz.prog 74 #[pp g, .int .i64 s.l.length] w1 _ from by
      obtain ⟨gw1, gm1, n1, sv1, hx⟩ := hp
      have h3 := hi.olen
      exact pbegin_any hx s.l.length (by simp) (by simp; omega)
    clear h hz hi hok
    go_enter Tryz.func35, Tryz.ntmps35
    go_wp2_with (first | (go_at_call 73; (with_reducible refine HL.out.mono ?_); rintro e w' ⟨rfl, rfl⟩) | (go_at_call 34; (with_reducible refine HN.out.mono ?_); rintro e w1 ⟨rfl, F1, hp1, hk1⟩; have HP1 := Lib.hid hp1; have HK1 := Lib.hid hk1; clear hp1 hk1) | (go_at_call 74; (with_reducible refine (HB.out _ _ HP1.out).mono ?_); rintro e w2 ⟨rfl, F2, hp2, hk2⟩; have HP2 := Lib.hid hp2; have HK2 := Lib.hid hk2; clear hp2 hk2))
    go_ret2
    rw [hv.out]
    exact ⟨rfl, _, HP2.out, HK1.out.trans HK2.out⟩
  · obtain ⟨q, hq⟩ : ∃ q, numS M s 0 2 = q := ⟨_, rfl⟩
    have hv : Hid (beginS M s = (0, q.1, q.2)) := Lib.hid (by unfold beginS; rw [if_neg hz, hq])
    rw [hq] at HN hz
    have hne : ((q.1 : Int) != 0) = true := by rw [bne_iff_ne]; omega
    clear h hz hq
    go_enter Tryz.func35, Tryz.ntmps35
    go_wp2_with (first | (go_at_call 73; (with_reducible refine HL.out.mono ?_); rintro e w' ⟨rfl, rfl⟩) | (go_at_call 34; (with_reducible refine HN.out.mono ?_); rintro e w1 ⟨rfl, hp1⟩; have HP1 := Lib.hid hp1; clear hp1))
    go_ret2
    rw [hv.out]
    exact ⟨rfl, HP1.out⟩
theorem over_len2 {l : List UInt8} {b : Nat} (h : b + 2 ≤ l.length) : (over l b (octs (l.length - b - 2) 2)).length = l.length := over_length _ _ _ (by rw [octs_length]; omega)
theorem pEnd_any (h : PK w base F g M s) (a : Int) :
    Calls Tryz.prog 37 #[pp g, .int .i64 a] w (Pkr w base F g M (endS s a).2 (.int .i64 (endS s a).1)) := by
  have HE := Lib.hid (pErr_any h)
  by_cases hf : s.f = 0
  · have hno : (s.o.getLast? = none ∨ ∃ b, s.o.getLast? = some b ∧ (b : Int) ≠ a) ∨ ∃ b, s.o.getLast? = some b ∧ (b : Int) = a := by
      rcases s.o.getLast? with _ | b
      · exact .inl (.inl rfl)
      · by_cases e : (b : Int) = a
        · exact .inr ⟨b, rfl, e⟩
        · exact .inl (.inr ⟨b, rfl, e⟩)
    rcases hno with hno | ⟨b, hb, rfl⟩
    · have hv : Hid (endS s a = (9, s)) := Lib.hid (by
        unfold endS
        rw [if_neg (by simp [hf])]
        rcases hno with e | ⟨b, e, hne⟩
        · rw [e]
        · rw [e]; exact if_neg hne)
      have HP := Lib.hid h
      obtain ⟨gw, gm, n, sv, hx⟩ := h
      have HN := Lib.hid (pend_no hx a hno)
      rw [hf] at HE
      clear hx hno hf
      go_enter Tryz.func37, Tryz.ntmps37
      go_wp2_with (first | (go_at_call 38; (with_reducible refine HE.out.mono ?_); rintro e w' ⟨rfl, rfl⟩) | (go_at_call 77; (with_reducible refine HN.out.mono ?_); rintro e w' ⟨rfl, rfl⟩))
      go_ret
      rw [hv.out]
      exact Pkr.keep HP.out _
    · have hi := h.inv
      have hb2 := hi.begun b (List.mem_of_getLast? hb)
      have hle := hi.le
      have hmo := hi.most
      obtain ⟨L, hL⟩ : ∃ L, L = over s.l b (octs (s.l.length - b - 2) 2) := ⟨_, rfl⟩
      have hLl : L.length = s.l.length := by rw [hL]; exact over_len2 hb2
      have hv : Hid (endS s b = (0, { s with l := L, o := s.o.dropLast })) := Lib.hid (by
        unfold endS
        rw [if_neg (by simp [hf]), hb, hL]
        exact if_pos rfl)
      have HN := Lib.hid (by obtain ⟨gw, gm, n, sv, hx⟩ := h; exact pend_yes hx b hb)
      have hr : room (s.l.length - b - 2) 2 = true := by
        have : s.l.length - b - 2 < 65536 := by omega
        unfold room
        rw [show isW 2 = true from rfl]
        simpa using this
      have hpat : patW s.l 0 b (s.l.length - b - 2 : Nat) 2 = ⟨0, L, 0⟩ := by rw [hL]; exact patW_ok (n := 2) hr hb2
      obtain ⟨v, hvv⟩ : ∃ v : Nat, v = s.l.length - b - 2 := ⟨_, rfl⟩
      rw [← hvv] at hpat
      have HQ := Lib.hid fun w1 F1 gw1 gm1 n1 sv1 (hx : PKx w1 base F1 g gw1 gm1 n1 sv1 M { s with o := s.o.dropLast }) => show Calls Tryz.prog 79 #[.pointer (some ⟨gw1, 0, none⟩), .int .i64 b, .int .u32 v, .int .i64 2] w1 (Pkr w1 base F1 g M { s with l := L, o := s.o.dropLast } (.int .i64 0)) from by
        have hw := hx.wr
        simp only [hf] at hw
        refine (wPatch_any b v 2 hw (by omega) hx.bw (show s.l.length ≤ 1099511627776 by omega)).mono ?_
        simp only [hpat]
        rintro e w2 ⟨rfl, hw2, hk2⟩
        rw [← hf] at hw2
        obtain ⟨x, y⟩ := hx.writer (l' := L) (f' := s.f) hw2 hk2 (show s.l.length ≤ L.length by omega) ⟨show L.length ≤ M by omega, hmo, hi.mark, fun c hc => show c + 2 ≤ L.length by have := hi.begun c (List.dropLast_subset _ hc); omega, show s.o.dropLast.length ≤ L.length by rw [List.length_dropLast]; have := hi.olen; omega⟩
        exact ⟨rfl, _, x.pk, y⟩
      have hsub : IntKind.i64.wrap ((s.l.length : Int) - b) = ((s.l.length - b : Nat) : Int) := by rw [IntWalk.i64_in _ (by omega)]; omega
      have hsub2 : ((s.l.length - b : Nat) : Int) - 2 = (v : Int) := by omega
      have hlt : v < 65536 := by omega
      have hbl : b + 2 ≤ s.l.length := hb2
      have HW := Lib.hid fun w1 F1 (hp : PK w1 base F1 g M { s with o := s.o.dropLast }) => show ∃ gw1 gm1 n1 sv1, PKx w1 base F1 g gw1 gm1 n1 sv1 M { s with o := s.o.dropLast } ∧ w1.cell? ⟨g, 1, none⟩ = some (.pointer (some ⟨gw1, 0, none⟩)) ∧ Hid (Calls Tryz.prog 78 #[.pointer (some ⟨gw1, 0, none⟩)] w1 fun e w' => e = .returned (.int .i64 s.l.length) ∧ w1 = w') from by
        obtain ⟨gw1, gm1, n1, sv1, hx⟩ := hp
        exact ⟨gw1, gm1, n1, sv1, hx, hx.cw, Lib.hid (wLen_any hx.wr)⟩
      rw [hf] at HE
      clear h hf hi hb hb2 hL hLl hr hpat hvv
      go_enter Tryz.func37, Tryz.ntmps37
      go_wp2_with (first | (go_at_call 38; (with_reducible refine HE.out.mono ?_); rintro e w' ⟨rfl, rfl⟩) | (go_at_call 77; (with_reducible refine HN.out.mono ?_); rintro e w1 ⟨rfl, F1, hp1, hk1⟩; obtain ⟨gw1, gm1, n1, sv1, hx1, hc1, HL1⟩ := HW.out _ _ hp1; have HX1 := Lib.hid hx1; have HK1 := Lib.hid hk1; clear hp1 hk1 hx1) | (go_at_call 78; (with_reducible refine HL1.out.mono ?_); rintro e w' ⟨rfl, rfl⟩) | (go_at_call 79; (with_reducible refine (HQ.out _ _ _ _ _ _ HX1.out).mono ?_); rintro e w2 ⟨rfl, F2, hp2, hk2⟩; have HP2 := Lib.hid hp2; have HK2 := Lib.hid hk2; clear hp2 hk2))
      go_ret
      rw [hv.out]
      exact ⟨rfl, _, HP2.out, HK1.out.trans HK2.out⟩
  · have hv : Hid (endS s a = (s.f, s)) := Lib.hid (if_pos hf)
    have hne : ((s.f : Int) != 0) = true := by rw [bne_iff_ne]; omega
    have HP := Lib.hid h
    clear h hf
    go_enter Tryz.func37, Tryz.ntmps37
    go_wp2_with (go_at_call 38; (with_reducible refine HE.out.mono ?_); rintro e w' ⟨rfl, rfl⟩)
    go_ret
    rw [hv.out]
    exact Pkr.keep HP.out _
end
end Go.Proofs.YtodedbokeodmkaaGreat
