/-
  LruSnap: the walk up to the range. No condition.
-/
import Derived.Test.YtabhapohkohbmaaLrX
import Derived.Test.YtabhapohkohbmaaLrP
import Derived.Test.YtabhapohkohbmaaLrN
import Derived.Test.YtabhapohkohbmaaPkOpen
import Derived.Shelf.RegionOpen
namespace Go.Proofs.Ytabhapohkohbmaa
open Go.RowKit Go.Maps
set_option linter.unusedVariables false
set_option linter.unusedSimpArgs false
attribute [local go_sem] Oper.semAt_some

/-- The normal end alone. -/
def onlyN (Q : Exit → Act → World → Prop) : Exit → Act → World → Prop
  | .normal, a, w => Q .normal a w
  | _, _, _ => False
theorem onlyN_in {Q : Exit → Act → World → Prop} {a : Act} {w : World} (h : Q .normal a w) : onlyN Q .normal a w := h
theorem onlyN_out {Q : Exit → Act → World → Prop} {e : Exit} {a : Act} {w : World} (h : onlyN Q e a w) : Q e a w := by
  cases e <;> first | exact h | exact h.elim
/-- Each value is a place where its key stands. -/
def Vk (L : List ByteArray) (R : Rw) : Prop := ∀ x ∈ R, ∃ j : Nat, x.2 = (j : Int) ∧ L[j]? = some x.1
theorem put_sub {R : Rw} {mst : Nat} {k : ByteArray} {v : Int} : ∀ x ∈ (putR mst R k v).1, x = (k, v) ∨ x ∈ R := by
  have hadd : ∀ x ∈ addR R k v, x = (k, v) ∨ x ∈ R := fun x hx => by
    rcases List.mem_cons.1 hx with h | h
    · exact Or.inl h
    · exact Or.inr (List.mem_filter.1 h).1
  unfold putR
  split
  · exact fun x hx => Or.inr hx
  · split
    · exact hadd
    · exact fun x hx => hadd x (List.dropLast_subset _ hx)
theorem Vk.put {L : List ByteArray} {R : Rw} (h : Vk L R) {k : Nat} {s : ByteArray} (hk : L[k]? = some s) (mst : Nat) : Vk L (putR mst R s k).1 := fun x hx => by
  rcases put_sub x hx with rfl | hx
  · exact ⟨k, rfl, hk⟩
  · exact h x hx
theorem keyS_of {w wr : World} {D : Nat → Prop} {p mst : Nat} {R : Rw} (h : One w D p mst R wr) : ∀ x ∈ R, x.1.size ≤ maxLen := by
  obtain ⟨T, ⟨m, b, A, B, L, h1, rfl, _⟩, _⟩ := h
  intro x hx
  obtain ⟨y, hy, rfl⟩ := List.mem_map.1 hx
  exact h1.key y hy
/-- The law's own blocks before the range. -/
def SD (H G5 : Nat) : Nat → Prop := fun k => k = H ∨ k = H + 1 ∨ k = H + 2 ∨ k = G5
structure SB (H G5 p : Nat) (v : Value) (early : Int) (wr : World) : Prop where
  b2 : Boxed wr H 50 v
  b3 : Boxed wr (H + 1) 3 (.int .i64 early)
  b4 : Boxed wr (H + 2) 4 (.bool false)
  b5 : Boxed wr G5 36 (.pointer (some ⟨p, 0, none⟩))
theorem SB.stay {H G5 p : Nat} {v : Value} {early : Int} {wr w' : World} (h : SB H G5 p v early wr) (hs : Stay (SD H G5) wr w') : SB H G5 p v early w' :=
  ⟨(hs _ (Or.inl rfl)).trans h.b2, (hs _ (Or.inr (Or.inl rfl))).trans h.b3, (hs _ (Or.inr (Or.inr (Or.inl rfl)))).trans h.b4, (hs _ (Or.inr (Or.inr (Or.inr rfl)))).trans h.b5⟩
/-- Between two puts. -/
def SnpRel (w : World) (L : List ByteArray) (G5 p : Nat) (v : Value) (early : Int) (i : Value) (wr : World) : Prop := ∃ (k : Nat) (R : Rw), i = .int .i64 (k : Int) ∧ k ≤ L.length ∧ Vk L R ∧ One w (SD w.heap.size G5) p 60 R wr ∧ SB w.heap.size G5 p v early wr
/-- Between two rounds: the list, whatever it has become, the count; what lay besides lies as it lay. -/
structure SC (w W0 : World) (Gn p m : Nat) (T0 : Nat → Prop) (cnt : Nat) (TL : Nat → Prop) (W : World) : Prop where
  lst : ∃ R', LRM W p 60 m R' TL
  nG : ¬ TL Gn
  box : Boxed W Gn 3 (.int .i64 (cnt : Int))
  tw : ∀ k, TL k → w.heap.size ≤ k
  bel : Below w.heap.size w W
  fix : ∀ k, k < Gn → ¬ T0 k → W.heap[k]? = W0.heap[k]? ∧ ¬ TL k
theorem SC.kept {w W0 X Y : World} {Gn p m cnt n : Nat} {T0 TL : Nat → Prop} (h : SC w W0 Gn p m T0 cnt TL X) (hw : w.heap.size ≤ n) (hn : Gn < n) (hm : m < n) {row : Option Nat} (hg : X.grownBy Y row) (hr : ∀ r, row = some r → n ≤ r ∧ ∃ o : Obj, X.heap[r]? = some o ∧ o.isCells = false) : SC w W0 Gn p m T0 cnt TL Y := by
  obtain ⟨R', hl⟩ := h.lst
  refine ⟨⟨R', hl.kept hm hg hr⟩, h.nG, h.box.kept hg fun e => by have := (hr _ e.symm).1; omega, h.tw, h.bel.grown hg h.bel.size fun j hj => by have := (hr j hj).1; omega, fun k hk ht => ⟨(hg.block k (Nat.lt_trans hk h.box.lt) fun e => by have := (hr _ e.symm).1; omega).trans (h.fix k hk ht).1, (h.fix k hk ht).2⟩⟩
theorem SC.call {w W0 W W' : World} {Gn p m cnt : Nat} {T0 TL TL' : Nat → Prop} (h : SC w W0 Gn p m T0 cnt TL W) (hk : Kl TL TL' W W') (hl : ∃ R', LRM W' p 60 m R' TL') : SC w W0 Gn p m T0 cnt TL' W' ∧ Kpt (fun k => TL k ∨ k = Gn) (fun k => TL' k ∨ k = Gn) W W' := by
  obtain ⟨b, t⟩ := lawKl h.bel h.tw hk
  have hG := hk.kp.at h.box h.nG
  refine ⟨⟨hl, hG.2, hG.1, t, b, fun k hk' ht => ?_⟩, fun k hk' ht => ?_⟩
  · have h1 := h.fix k hk' ht
    have h2 := hk.kp k (Nat.lt_trans hk' h.box.lt) h1.2
    exact ⟨h2.1.trans h1.1, h2.2⟩
  · have h2 := hk.kp k hk' (fun h => ht (Or.inl h))
    exact ⟨h2.1, fun h => h.elim h2.2 fun e => ht (Or.inr e)⟩
theorem SC.count {w W0 W : World} {Gn p m cnt : Nat} {T0 TL : Nat → Prop} (h : SC w W0 Gn p m T0 cnt TL W) (hw : w.heap.size ≤ Gn) : SC w W0 Gn p m T0 (cnt + 1) TL (W.setCell ⟨Gn, 0, none⟩ (.int .i64 ((cnt : Int) + 1))) ∧ Kpt (fun k => TL k ∨ k = Gn) (fun k => TL k ∨ k = Gn) W (W.setCell ⟨Gn, 0, none⟩ (.int .i64 ((cnt : Int) + 1))) := by
  obtain ⟨R', hl⟩ := h.lst
  refine ⟨⟨⟨R', hl.other ((Kl.refl (fun k => k = Gn) W).setCell rfl 0 _) fun k ht e => h.nG (e ▸ ht)⟩, h.nG, h.box.set _, h.tw, h.bel.setCell (p := ⟨Gn, 0, none⟩) hw _, fun k hk ht => ⟨(heap_setCell_other W ⟨Gn, 0, none⟩ k _ (show k ≠ Gn by omega)).trans (h.fix k hk ht).1, (h.fix k hk ht).2⟩⟩, Kpt.setCell (p := ⟨Gn, 0, none⟩) (Or.inr rfl) _⟩
theorem SC.old {w W0 W : World} {Gn p m cnt k : Nat} {t : TypeId} {v : Value} {T0 TL : Nat → Prop} (h : SC w W0 Gn p m T0 cnt TL W) (hk : k < Gn) (ht : ¬ T0 k) (hb : Boxed W0 k t v) : Boxed W k t v := (h.fix k hk ht).1.trans hb
theorem prefix_at {α : Type} {pre R : List α} {x : α} (h : pre ++ [x] <+: R) : R[pre.length]? = some x := by
  obtain ⟨t, rfl⟩ := h
  rw [List.append_assoc, List.getElem?_append_right (Nat.le_refl _), Nat.sub_self]
  rfl
def SI (w W0 : World) (Gn p m : Nat) (T0 : Nat → Prop) (ea : Nat) (pre : List (ByteArray × Int)) (T : Nat → Prop) (W : World) : Prop := pre.length ≤ ea ∧ ∃ TL, (∀ k, T k ↔ TL k ∨ k = Gn) ∧ SC w W0 Gn p m T0 pre.length TL W
def SIx (w W0 : World) (Gn p m : Nat) (T0 : Nat → Prop) (ea : Nat) (c : Code) (_pre : List (ByteArray × Int)) (W : World) : Prop := c = .exit 2 ∧ ∃ TL, SC w W0 Gn p m T0 ea TL W
theorem snap_end {w W0 W W1 W2 : World} {Gn p m ea n : Nat} {T0 TL TL2 : Nat → Prop} {pre : List (ByteArray × Int)} {x : ByteArray × Int} {a : Act} (k1 : Kpt (fun k => TL k ∨ k = Gn) (fun k => TL k ∨ k = Gn) W.drew W1)
    (hC : SC w W0 Gn p m T0 pre.length TL2 W2) (k2 : Kpt (fun k => TL k ∨ k = Gn) (fun k => TL2 k ∨ k = Gn) W1 W2) (hn : pre.length = n) (hlt : n < ea) (hw : w.heap.size ≤ Gn) :
    rndPost (fun k => TL k ∨ k = Gn) (SI w W0 Gn p m T0 ea) (SIx w W0 Gn p m T0 ea) (pre ++ [x]) W Exit.normal a (W2.setCell ⟨Gn, 0, none⟩ (.int .i64 ((n : Int) + 1))) := by
  obtain ⟨h1, h2⟩ := hC.count hw
  rw [hn] at h1 h2
  have hl : (pre ++ [x]).length = n + 1 := by rw [List.length_append, hn]; rfl
  refine ⟨_, ((Kpt.below (Below.refl _ W).drew).trans k1).trans (k2.trans h2), by omega, TL2, fun k => Iff.rfl, ?_⟩
  rw [hl]
  exact h1
set_option maxRecDepth 100000 in
set_option maxHeartbeats 16000000 in
theorem snap_in (L : List ByteArray) (early : Int) (v : Value) (w : World) (hL : NRow w v L) (hl : L.length ≤ 60) :
    Calls Try.prog 7 #[v, .int .i64 early] w fun e w' => e = .returned (.bool true) ∧ Below w.heap.size w w' := by
  obtain ⟨A, cap, rfl, hlc, hcm⟩ := hL.shape
  have HR := Lib.hid hL
  unfold maxLen at hcm
  clear hL
  have i1 : ¬ (60 : Int) < (L.length : Int) := by omega
  obtain ⟨w0, hw0⟩ : ∃ w0, ((w.alloc (.cells #[.slice A L.length cap] 50)).alloc (.cells #[.int .i64 early] 3)).alloc (.cells #[.bool false] 4) = w0 := ⟨_, rfl⟩
  have hB0 : Below w.heap.size w w0 := by rw [← hw0]; exact (((Below.refl _ w).alloc (Nat.le_refl _) _).alloc (by simp) _).alloc (by simp; omega) _
  have b2 : Boxed w0 w.heap.size 50 (.slice A L.length cap) := by rw [← hw0]; exact ((Boxed.new w _ _).alloc _).alloc _
  have b3 : Boxed w0 (w.heap.size + 1) 3 (.int .i64 early) := by
    rw [← hw0]
    have := (Boxed.new (w.alloc (.cells #[.slice A L.length cap] 50)) 3 (.int .i64 early)).alloc (.cells #[.bool false] 4)
    rwa [World.size_alloc] at this
  have b4 : Boxed w0 (w.heap.size + 2) 4 (.bool false) := by
    rw [← hw0]
    have := Boxed.new ((w.alloc (.cells #[.slice A L.length cap] 50)).alloc (.cells #[.int .i64 early] 3)) 4 (.bool false)
    rwa [World.size_alloc, World.size_alloc] at this
  have hz0 : w0.heap.size = w.heap.size + 3 := by rw [← hw0]; simp
  have HW0 := Lib.hid hw0
  have HL := Lib.hid (lives15 w0)
  clear hw0
  refine (callsIn_wide (n := 19)).1 ?_
  refine callsIn_of_wp_marks Try.func7 rfl trivial ?_ rfl
  simp only [Try.ntmps7, List.size_toArray, List.length_cons, List.length_nil, Nat.reduceAdd, Nat.reduceSub, Array.replicate_succ, Array.replicate_zero, List.push_toArray, List.append_toArray, List.nil_append, List.cons_append]
  refine wpIn_wide.2 ?_
  go_upto_region 1 with (fail)
  rw [HW0.out, show w.heap.size + 1 + 1 = w.heap.size + 2 from rfl]
  go_wp2_with fail
  refine HL.out.mono ?_
  rintro e w1 ⟨rfl, hb1⟩
  have b2' := boxed_below b2 hb1
  have b3' := boxed_below b3 hb1
  have b4' := boxed_below b4 hb1
  have hB1 := hB0.trans (hb1.mono hB0.size)
  have hz1 : w.heap.size + 3 ≤ w1.heap.size := by have := hb1.size; omega
  have c2 := b2'.cell
  have N1 := Lib.hid (One.new (w := w) (D := fun k => k = w.heap.size ∨ k = w.heap.size + 1 ∨ k = w.heap.size + 2) hB1 (fun k h => by omega) 60)
  clear hb1 b2 b3 b4 hB0 HW0 HL hz0
  go_wp2_with fail
  refine N1.out.mono ?_
  rintro e w2 ⟨p, rfl, h2, hb2⟩
  have b2 := boxed_below b2' hb2
  have b3 := boxed_below b3' hb2
  have b4 := boxed_below b4' hb2
  obtain ⟨G5, hG5⟩ : ∃ G5, w2.heap.size = G5 := ⟨_, rfl⟩
  have HR0 : Hid (SnpRel w L G5 p (.slice A L.length cap) early (.int .i64 0) (w2.alloc (.cells #[.pointer (some ⟨p, 0, none⟩)] 36))) := Lib.hid ⟨0, [], rfl, Nat.zero_le _, (fun x hx => by cases hx), h2.more ((Below.refl _ _).alloc (Nat.le_refl _) _) (fun k hk => by
      rcases hk with h | h | h | h
      · exact Or.inl (Or.inl h)
      · exact Or.inl (Or.inr (Or.inl h))
      · exact Or.inl (Or.inr (Or.inr h))
      · refine Or.inr ⟨by omega, ?_⟩
        rw [World.size_alloc]
        omega), b2.alloc _, b3.alloc _, b4.alloc _, by rw [← hG5]; exact Boxed.new _ _ _⟩
  have HG : Hid (w.heap.size + 3 ≤ G5) := Lib.hid (by have := hb2.size; omega)
  clear h2 hb2 b2 b3 b4 b2' b3' b4' hz1 N1 hB1
  clear i1
  go_wp2
  clear c2 hG5
  go_loopw [6] (fun i wr => SnpRel w L G5 p (.slice A L.length cap) early i wr) (fun i _ => L.length - (intOf i).toNat)
  case atStart => exact HR0.out
  case round =>
    clear HR0
    obtain ⟨k, R, rfl, hk, hV, hO, hS⟩ := hrel
    have HO := Lib.hid hO
    have HS := Lib.hid hS
    have HV := Lib.hid hV
    have c2 := hS.b2.cell
    by_cases hlt : k < L.length
    · obtain ⟨g, o, rfl, hg, hx⟩ := HR.out.at k hlt
      obtain ⟨x, hxk⟩ : ∃ x, L[k] = x := ⟨_, rfl⟩
      rw [hxk] at hx
      have x1 : wr.cell? ⟨g, o + k, none⟩ = some (.string x) := (hO.bel.cell (p := ⟨g, o + k, none⟩) hg).trans hx
      have hxs : L[k]? = some x := by rw [List.getElem?_eq_getElem hlt, hxk]
      have j1 : (k : Int) < L.length := by omega
      have c4 := hS.b4.cell
      have f4 := hS.b4.frozen
      have c5 := hS.b5.cell
      have HB := Lib.hid hO.bel
      by_cases h100 : 100 < x.size
      · have j2 : (100 : Int) < (x.size : Int) := by omega
        have hb' : Hid (Below w.heap.size w (wr.setCell ⟨w.heap.size + 2, 0, none⟩ (.bool true))) := Lib.hid (hO.bel.setCell (p := ⟨w.heap.size + 2, 0, none⟩) (show w.heap.size ≤ w.heap.size + 2 by omega) _)
        have cz := (hS.b4.set (.bool true)).cell
        clear hO hS hV hx hg hxk hxs c5
        go_wp2
        refine ⟨.bool true, ?_, rfl, hb'.out⟩
        simp [results, Try.f7, go_sem, cz]
      · have j2 : ¬ (100 : Int) < (x.size : Int) := by omega
        have P1 := Lib.hid ((hO.next (w' := wr.drew) (Below.refl _ wr).drew).1.put (k := x) (by omega) (by have := hO.le; omega) (by decide) (k : Int))
        have S1 := Lib.hid ((hO.next (w' := wr.drew) (Below.refl _ wr).drew).2)
        have HX := Lib.hid (And.intro hxs hlt)
        clear hO hS hV hx hg hxk hxs hlt c4 f4
        go_wp2
        refine Code.wp_mono (Q := onlyN _) (fun e a w h => onlyN_out h) ?_
        go_region_with (go_at_call 21; (with_reducible refine P1.out.mono ?_); rintro e y1 ⟨rfl, t1, s1⟩; have T1 := Lib.hid t1; have Y1 := Lib.hid s1; clear t1 s1)
        all_goals
          clear c2 x1 c5
          refine onlyN_in ?_
          go_wp2
          go_roundw
          case rel => exact ⟨k + 1, _, by go_num, HX.out.2, HV.out.put HX.out.1 60, T1.out, (HS.out.stay S1.out).stay Y1.out⟩
          case measure => have := HX.out.2; simp [intOf]; omega
    · have j1 : ¬ (k : Int) < L.length := by omega
      have c5 := hS.b5.cell
      clear hO hS hV
      have K1 := Lib.hid (HO.out.keys (by have := HO.out.le; omega))
      have HP := Lib.hid (fun wx (n : Nat) (h : n ≤ 60) => Pick_any early ((n : Int) + 1) wx (by omega) (by omega))
      go_wp2_with fail
      refine K1.out.mono ?_
      rintro e y1 ⟨v7, rfl, o7, h7, s7, hb7⟩
      obtain ⟨A7, c7, rfl⟩ := ownK_shape o7
      rw [List.length_map] at o7 ⊢
      obtain ⟨N, hN⟩ : ∃ N, R.length = N := ⟨_, rfl⟩
      have hN60 : N ≤ 60 := by rw [← hN]; exact HO.out.le
      rw [hN] at o7 ⊢
      have S7 := Lib.hid (HS.out.stay s7)
      have O7 := Lib.hid o7
      have H7 := Lib.hid h7
      have HB7 := Lib.hid hb7
      have hGz : G5 < y1.heap.size := S7.out.b5.lt
      have hGw := HG.out
      obtain ⟨G7, hG7⟩ : ∃ G7, y1.heap.size = G7 := ⟨_, rfl⟩
      obtain ⟨y2, hy2⟩ : ∃ y2, y1.alloc (.cells #[.slice A7 N c7] 50) = y2 := ⟨_, rfl⟩
      have e3 : Boxed y2 (w.heap.size + 1) 3 (.int .i64 early) := by rw [← hy2]; exact S7.out.b3.alloc _
      have e5 : Boxed y2 G5 36 (.pointer (some ⟨p, 0, none⟩)) := by rw [← hy2]; exact S7.out.b5.alloc _
      have e7 : Boxed y2 G7 50 (.slice A7 N c7) := by rw [← hy2, ← hG7]; exact Boxed.new _ _ _
      have hz2 : y2.heap.size = G7 + 1 := by rw [← hy2, ← hG7]; simp
      have hb2 : Below y1.heap.size y1 y2 := by rw [← hy2]; exact (Below.refl _ _).alloc (Nat.le_refl _) _
      have HY2 := Lib.hid hy2
      have HB2 := Lib.hid hb2
      clear o7 h7 s7 hb7 hb2 hy2 c5
      go_upto_region 13 with (fail)
      rw [HY2.out]
      obtain ⟨hp0, hp1⟩ := pick_range (i := early) (n := (N : Int) + 1) (by omega)
      obtain ⟨ea, hea⟩ : ∃ ea : Nat, pick early ((N : Int) + 1) = (ea : Int) := ⟨_, (Int.toNat_of_nonneg hp0).symm⟩
      have heaN : ea ≤ N := by omega
      have c3 := e3.cell
      have f3 := e3.frozen
      have c7' := e7.cell
      go_upto_region 14 with (go_at_call 20; refine (HP.out _ N hN60).mono ?_; rintro e _ ⟨rfl, rfl⟩; rw [hea])
      obtain ⟨T0, l0, hbel0, hT0w, hD0⟩ := HO.out
      obtain ⟨m, l0⟩ := l0.lrm
      have hzr : wr.heap.size ≤ G7 := by rw [← hG7]; exact HB7.out.size
      have hT0z : ∀ k, T0 k → k < G7 := fun k hk => Nat.lt_of_lt_of_le (l0.tl k hk) hzr
      have hTr : ∀ k, T0 k → k < wr.heap.size := l0.tl
      have n3 : ¬ T0 (w.heap.size + 1) := (hD0 _ (Or.inr (Or.inl rfl))).2
      have n4 : ¬ T0 (w.heap.size + 2) := (hD0 _ (Or.inr (Or.inr (Or.inl rfl)))).2
      have n2 : ¬ T0 w.heap.size := (hD0 _ (Or.inl rfl)).2
      have n5 : ¬ T0 G5 := (hD0 _ (Or.inr (Or.inr (Or.inr rfl)))).2
      obtain ⟨y3, hy3⟩ : ∃ y3, y2.setCell ⟨w.heap.size + 1, 0, none⟩ (.int .i64 (ea : Int)) = y3 := ⟨_, rfl⟩
      have hst : ∀ k, k ≠ w.heap.size + 1 → y3.heap[k]? = y2.heap[k]? := fun k hk => by rw [← hy3]; exact heap_setCell_other y2 ⟨w.heap.size + 1, 0, none⟩ k _ hk
      have g3 : Boxed y3 (w.heap.size + 1) 3 (.int .i64 (ea : Int)) := by rw [← hy3]; exact e3.set _
      have g5 : Boxed y3 G5 36 (.pointer (some ⟨p, 0, none⟩)) := (hst _ (by omega)).trans e5
      have g7 : Boxed y3 G7 50 (.slice A7 N c7) := (hst _ (by omega)).trans e7
      have g2 : Boxed y3 w.heap.size 50 (.slice A L.length cap) := (hst _ (by omega)).trans (boxed_below S7.out.b2 HB2.out)
      have g4 : Boxed y3 (w.heap.size + 2) 4 (.bool false) := (hst _ (by omega)).trans (boxed_below S7.out.b4 HB2.out)
      have hz3 : y3.heap.size = G7 + 1 := by rw [← hy3, ← hz2]; simp [World.setCell]
      have l2 : LRM y2 p 60 m R T0 := (l0.next HB7.out).next HB2.out
      have l3 : LRM y3 p 60 m R T0 := by
        rw [← hy3]
        exact l2.other ((Kl.refl (fun k => k = w.heap.size + 1) y2).setCell rfl 0 _) (fun k ht e => n3 (e ▸ ht))
      have o2 : OwnK y2 wr.heap.size (.slice A7 N c7) (R.map (·.1)) := O7.out.next HB2.out
      have o3 : OwnK y3 wr.heap.size (.slice A7 N c7) (R.map (·.1)) := o2.stay fun g hg => hst g (by have := (o2.lt g hg).1; have := HO.out.bel.size; have := HS.out.b4.lt; omega)
      have hb3 : Below w.heap.size w y3 := by
        rw [← hy3]
        exact ((H7.out.bel).trans (HB2.out.mono H7.out.bel.size)).setCell (p := ⟨w.heap.size + 1, 0, none⟩) (show w.heap.size ≤ w.heap.size + 1 by omega) _
      rw [hy3]
      have c5 := g5.cell
      have hsq := seq_none (G7 + 1)
      clear hst hy3 l2 l0 hbel0 hD0 e3 e5 e7 c3 f3 c7' HY2 hz2
      go_wp2_with fail
      refine (All_any _ _).mono ?_
      rintro e _ ⟨rfl, rfl⟩
      rw [hz3]
      go_wp2_with fail
      have hs1 : (y3.alloc (.cells #[.pointer (some ⟨p, 0, none⟩)] 36)).heap.size = G7 + 2 := by rw [World.size_alloc, hz3]
      obtain ⟨W0, hW0⟩ : ∃ W0, (y3.alloc (.cells #[.pointer (some ⟨p, 0, none⟩)] 36)).alloc (.cells #[.int .i64 0] 3) = W0 := ⟨_, rfl⟩
      have hb0 : Below y3.heap.size y3 W0 := by rw [← hW0]; exact ((Below.refl _ y3).alloc (Nat.le_refl _) _).alloc (by simp) _
      have hbx : W0.cell? ⟨G7 + 1, 0, none⟩ = some (.pointer (some ⟨p, 0, none⟩)) := by
        rw [← hW0, ← hz3]
        exact ((Lies.new y3 36 #[.pointer (some ⟨p, 0, none⟩)]).alloc _).cell 0
      have bO : Boxed W0 (G7 + 2) 3 (.int .i64 0) := by rw [← hW0, ← hs1]; exact Boxed.new _ _ _
      have hs2 : W0.heap.size = G7 + 3 := by rw [← hW0, World.size_alloc, hs1]
      have g3' := boxed_below g3 hb0
      have g5' := boxed_below g5 hb0
      have g7' := boxed_below g7 hb0
      have g2' := boxed_below g2 hb0
      have g4' := boxed_below g4 hb0
      have o4 := o3.next hb0
      have l4 := l3.next hb0
      have lb := hb3.trans (hb0.mono hb3.size)
      have hI0 : SI w W0 (G7 + 2) p m T0 ea [] (fun k => T0 k ∨ k = G7 + 2) W0 := ⟨Nat.zero_le _, T0, fun k => Iff.rfl, ⟨R, l4⟩, fun h => by have := hT0z _ h; omega, bO, hT0w, lb, fun k hk ht => ⟨rfl, ht⟩⟩
      rw [hW0, show G7 + 1 + 1 = G7 + 2 from rfl]
      have hmz := hT0z m l4.tm
      have HOw : Hid (∀ g, (Value.slice A7 N c7).ownBlock = some g → g < G7 + 2 ∧ ¬ T0 g) := Lib.hid (fun g hg => by
        have := o3.lt g hg
        exact ⟨by omega, fun ht => by have := hTr g ht; omega⟩)
      have HF := Lib.hid (And.intro g3' (And.intro g5' (And.intro g7' (And.intro g2' (And.intro g4' o4)))))
      have HN := Lib.hid (And.intro n2 (And.intro n3 (And.intro n4 n5)))
      have HT0z := Lib.hid hT0z
      clear hb0 hW0 hsq hs1 bO g2 g3 g4 g5 g7 g2' g3' g4' g5' g7' o3 o4 l3 lb hb3 c5 n2 n3 n4 n5 hT0z
      refine (wpIn_wide (n := 18)).1 ?_
      refine range_own1 rfl (by decide) (gf := 51) (bd := #[]) (lb := #[.pointer (some ⟨G7 + 1, 0, none⟩)]) rfl trivial (enters_of Try.func51 (by kernel_rfl) rfl)
        (l4.lr.seq (by omega) 17 (by decide) (G7 + 1) hbx) (Below.refl _ _) (fun c h => h.elim) (fun _ => rfl)
        (SI w W0 (G7 + 2) p m T0 ea) (SIx w W0 (G7 + 2) p m T0 ea) ?hI ?hIx (fun _ e => by cases e) ?hfresh
        (fun k => T0 k ∨ k = G7 + 2) (fun c h => h.elim) hI0 ?a1 ?assign ?body ?done ?stop
      case assign =>
        intro l2 x W' K hK
        gi_wp2
        exact hK
      case hI =>
        rintro T pre X Y row ⟨h1, TL, h2, h3⟩ hg hr
        exact ⟨h1, TL, h2, h3.kept (by omega) (by omega) (by omega) hg hr⟩
      case hIx =>
        rintro c pre X Y row ⟨h1, TL, h3⟩ hg hr
        exact ⟨h1, TL, h3.kept (by omega) (by omega) (by omega) hg hr⟩
      case hfresh =>
        rintro pre T W ⟨_, TL, h2, h3⟩ b hb hT
        rcases (h2 b).1 hT with h | h
        · obtain ⟨R', hl⟩ := h3.lst
          have := hl.tl b h
          omega
        · have := h3.box.lt
          omega
      case body =>
        rintro l pre x T W _ _ ⟨hle, TL, hT, hC⟩ hRs
        obtain ⟨xk, xv⟩ := x
        have hTe : T = fun k => TL k ∨ k = G7 + 2 := funext fun k => propext (hT k)
        subst hTe
        have hn2 := HN.out.1
        have u3 := hC.old (by omega) HN.out.2.1 HF.out.1
        have u5 := hC.old (by omega) HN.out.2.2.2 HF.out.2.1
        have u7 := hC.old (k := G7) (by omega) (fun h => by have := HT0z.out _ h; omega) HF.out.2.2.1
        have u2 := hC.old (by omega) HN.out.1 HF.out.2.2.2.1
        have cn := hC.box.cell
        have fn := hC.box.frozen
        have ce := u3.cell
        have cl := u5.cell
        have cw := u7.cell
        have ck := u2.cell
        have HC := Lib.hid hC
        obtain ⟨n, hn⟩ : ∃ n, pre.length = n := ⟨_, rfl⟩
        have HPl := Lib.hid hn
        rw [hn] at cn hle
        by_cases hne : n = ea
        · subst hne
          have HRs := Lib.hid hRs
          clear hRs hC hT u2 u3 u5 u7 hn
          gi_wp2
          exact ⟨_, Kpt.refl _ _, rfl, TL, HPl.out ▸ HC.out⟩
        · have hlt : n < ea := by omega
          have hne' : ((n : Int) == (ea : Int)) = false := by rw [beq_eq_false_iff_ne]; omega
          have hxn : R[n]? = some (xk, xv) := by rw [← hn]; exact prefix_at hRs
          have hxm : (xk, xv) ∈ R := List.mem_of_getElem? hxn
          obtain ⟨jv, hjv, hjL⟩ := HV.out _ hxm
          have hjv : xv = (jv : Int) := hjv
          have hjL : L[jv]? = some xk := hjL
          subst hjv
          have hjl : jv < L.length := (List.getElem?_eq_some_iff.1 hjL).1
          obtain ⟨gk, ok, rfl, hgk, hxk⟩ := HR.out.at jv hjl
          rw [(List.getElem_eq_iff hjl).2 hjL] at hxk
          have x1 : W.cell? ⟨gk, ok + jv, none⟩ = some (.string xk) := (hC.bel.cell (p := ⟨gk, ok + jv, none⟩) hgk).trans hxk
          have oW : OwnK W wr.heap.size (.slice A7 N c7) (R.map (·.1)) := HF.out.2.2.2.2.2.stay fun g hg => (hC.fix g (HOw.out g hg).1 (HOw.out g hg).2).1
          obtain ⟨A7', c7', e7, hc7, hm7, hat7⟩ := row_at oW.row
          rw [List.length_map, hN] at e7
          injection e7 with e7a e7b e7c
          subst e7a e7c
          have hnN : n < N := by omega
          obtain ⟨gw, ow, hA7, hgw, hw1⟩ := hat7 n (by rw [List.length_map, hN]; exact hnN)
          subst hA7
          obtain ⟨d, hd⟩ : ∃ d, N - 1 - n = d := ⟨_, rfl⟩
          have hdN : d < N := by omega
          obtain ⟨N1, hN1⟩ : ∃ N1 : Nat, N1 + 1 = N := ⟨N - 1, by omega⟩
          have hdJ : (N : Int) - 1 = (N1 : Int) := by omega
          have hdI : (N1 : Int) - (n : Int) = (d : Int) := by omega
          have hwr1 : IntKind.i64.wrap (N1 : Int) = (N1 : Int) := by rw [IntKind.wrap_i64]; omega
          have hwr2 : IntKind.i64.wrap (d : Int) = (d : Int) := by rw [IntKind.wrap_i64]; omega
          obtain ⟨gw', ow', hA7', _, hw2⟩ := hat7 d (by rw [List.length_map, hN]; exact hdN)
          injection hA7' with hA7'
          injection hA7' with hA1 hA2 _
          subst hA1 hA2
          have e1 : (R.map (·.1))[n]'(by rw [List.length_map, hN]; exact hnN) = xk := by
            rw [List.getElem_map, (List.getElem_eq_iff (by omega)).2 hxn]
          rw [e1] at hw1
          obtain ⟨y, hy⟩ : ∃ y, (R.map (·.1))[d]'(by rw [List.length_map, hN]; exact hdN) = y := ⟨_, rfl⟩
          rw [hy] at hw2
          have hys : y.size ≤ maxLen := by
            have hm : y ∈ R.map (·.1) := by rw [← hy]; exact List.getElem_mem _
            obtain ⟨z, hz, rfl⟩ := List.mem_map.1 hm
            exact keyS_of HO.out z hz
          have q1 : ¬ (N : Int) ≤ (n : Int) := by omega
          have q2 : (n : Int) < (N : Int) := by omega
          have q3 : ¬ (L.length : Int) ≤ (jv : Int) := by omega
          have q4 : (jv : Int) < (L.length : Int) := by omega
          have q5 : (d : Int) < (N : Int) := by omega
          have hlt' := Lib.hid hlt
          clear hRs hC hT u2 u3 u5 u7 hn hxn hxm hjL hjl hgk hxk oW hc7 hm7 hat7 hgw e1 hy hlt hne hdN hd e7b hN1
          have hdrop := Lib.hid (fun (W1 : World) (hb : Below W.heap.size W W1) (R' : Rw) (hl : LRM W p 60 m R' TL) => (hl.next hb).Drop hys)
          obtain ⟨R', hlR⟩ := HC.out.lst
          have hD1 := Lib.hid (hdrop.out W.drew (Below.refl _ _).drew R' hlR)
          have HC1 := Lib.hid ((HC.out.call (W' := W.drew) (.of_below (Below.refl _ _).drew) ⟨R', hlR.next (Below.refl _ _).drew⟩).1)
          clear hdrop hlR
          have hmx : Try.prog.follows .mixedOrders = true := by kernel_rfl
          gi_wp2
          gi_region_with (refine ⟨trivial, ?_⟩; gi_at_call 27; refine (CallsIn.inRound l (callsIn_wide.2 hD1.out)).mono ?_; rintro e W1 ⟨rfl, hl1, hk1⟩; have HL1 := Lib.hid hl1; have HK1 := Lib.hid hk1; clear hl1 hk1)
          all_goals
            have hC1 := HC1.out.call (W' := W1) HK1.out ⟨_, HL1.out⟩
            have hp1 := Lib.hid (HL1.out.put (k := ⟨#[109, 111, 114, 101]⟩) (by decide) (by have := HL1.out.lr.le; omega) (by decide) 7)
            have u5 := hC1.1.old (by omega) HN.out.2.2.2 HF.out.2.1
            have cl1 := u5.cell
            have HCa := Lib.hid hC1.1
            have HKa := Lib.hid hC1.2
            clear hC1 u5 cn fn ce cl cw ck x1 hw1 hw2 hwr1 hwr2 hdI hdJ q1 q2 q3 q4 q5 hmx
            gi_wp2_with (refine ⟨trivial, ?_⟩; gi_at_call 21; refine (CallsIn.inRound l (callsIn_wide.2 hp1.out)).mono ?_; rintro e W2 ⟨rfl, TL2, hl2, hk2⟩; have hC2 := HCa.out.call hk2 ⟨_, hl2⟩; have HCb := Lib.hid hC2.1; have HKb := Lib.hid hC2.2; have cn2 := hC2.1.box.cell; have fn2 := hC2.1.box.frozen; rw [HPl.out] at cn2; clear hC2 hl2 hk2)
            exact snap_end HKa.out HCb.out HKb.out HPl.out hlt'.out (by omega)
      case done =>
        rintro D xs T W hD hnD rfl ⟨hle, TL, hT, hC⟩ hK
        have heq : xs.length = ea := by omega
        rw [heq] at hC
        have u3 := hC.old (by omega) HN.out.2.1 HF.out.1
        have u4 := hC.old (k := w.heap.size + 2) (by omega) HN.out.2.2.1 HF.out.2.2.2.2.1
        have cn := hC.box.cell
        have ce := u3.cell
        have c4 := u4.cell
        have f4 := u4.frozen
        have hee : ((ea : Int) == (ea : Int)) = true := by simp
        have hK2 : (W.setCell ⟨w.heap.size + 2, 0, none⟩ (.bool true)).heap[D]? = some (.deferred (some [])) := (heap_setCell_other W ⟨w.heap.size + 2, 0, none⟩ D _ (show D ≠ w.heap.size + 2 by omega)).trans hK
        have hb2 := hC.bel.setCell (p := ⟨w.heap.size + 2, 0, none⟩) (show w.heap.size ≤ w.heap.size + 2 by omega) (.bool true)
        have hbf := hb2.trans (belowK_b (w := w) (Nat.le_refl _) _ D _ (.deferred none) (by omega) hK2 rfl rfl)
        have uz : Boxed ((W.setCell ⟨w.heap.size + 2, 0, none⟩ (.bool true)).putObj D (.deferred none)) (w.heap.size + 2) 4 (.bool true) := (World.putObj_heap_other (show w.heap.size + 2 ≠ D by omega)).trans (u4.set (.bool true))
        have cz := uz.cell
        have HX := Lib.hid (And.intro hK2 (And.intro hbf cz))
        clear hK hK2 hb2 hbf uz cz hC hT u3 u4 hle
        go_wp2
        refine ⟨by simp, .inl ⟨_, _, rfl, run_takeDeferred HX.out.1, ?_⟩⟩
        have cz := HX.out.2.2
        refine ⟨.bool true, ?_, rfl, HX.out.2.1⟩
        simp [results, Try.f7, go_sem, cz]
      case stop =>
        rintro D c pre W hD _ ⟨rfl, TL, hC⟩ hK
        have u3 := hC.old (by omega) HN.out.2.1 HF.out.1
        have u4 := hC.old (k := w.heap.size + 2) (by omega) HN.out.2.2.1 HF.out.2.2.2.2.1
        have cn := hC.box.cell
        have ce := u3.cell
        have c4 := u4.cell
        have f4 := u4.frozen
        have hee : ((ea : Int) == (ea : Int)) = true := by simp
        have hK2 : (W.setCell ⟨w.heap.size + 2, 0, none⟩ (.bool true)).heap[D]? = some (.deferred (some [])) := (heap_setCell_other W ⟨w.heap.size + 2, 0, none⟩ D _ (show D ≠ w.heap.size + 2 by omega)).trans hK
        have hb2 := hC.bel.setCell (p := ⟨w.heap.size + 2, 0, none⟩) (show w.heap.size ≤ w.heap.size + 2 by omega) (.bool true)
        have hbf := hb2.trans (belowK_b (w := w) (Nat.le_refl _) _ D _ (.deferred none) (by omega) hK2 rfl rfl)
        have uz : Boxed ((W.setCell ⟨w.heap.size + 2, 0, none⟩ (.bool true)).putObj D (.deferred none)) (w.heap.size + 2) 4 (.bool true) := (World.putObj_heap_other (show w.heap.size + 2 ≠ D by omega)).trans (u4.set (.bool true))
        have cz := uz.cell
        have HX := Lib.hid (And.intro hK2 (And.intro hbf cz))
        clear hK hK2 hb2 hbf uz cz hC u3 u4
        refine (wpIn_wide (n := 18)).2 ?_
        go_wp2
        refine ⟨by simp, .inl ⟨_, _, rfl, run_takeDeferred HX.out.1, ?_⟩⟩
        have cz := HX.out.2.2
        refine ⟨.bool true, ?_, rfl, HX.out.2.1⟩
        simp [results, Try.f7, go_sem, cz]
end Go.Proofs.Ytabhapohkohbmaa
