/-
  LruNames: the walk. No condition.
-/
import Derived.Test.YtabhapohkohbmaaLzT
import Derived.Test.YtabhapohkohbmaaLrJ
namespace Go.Proofs.Ytabhapohkohbmaa
open Go.RowKit Go.Maps
set_option linter.unusedVariables false
set_option linter.unusedSimpArgs false
attribute [local go_sem] Oper.semAt_some

def sx : ByteArray := ⟨#[120]⟩
def sy : ByteArray := ⟨#[121]⟩
def sz : ByteArray := ⟨#[122]⟩
theorem zn1 : Z.putR 2 [] ka sx = ([(ka, sx)], ⟨#[]⟩, false, 0) := by decide +kernel
theorem zn2 : Z.putR 2 [(ka, sx)] kb sy = ([(kb, sy), (ka, sx)], ⟨#[]⟩, false, 0) := by decide +kernel
theorem zn3 : Z.lookR [(kb, sy), (ka, sx)] ka = some sx := by decide +kernel
theorem zn4 : Z.putR 2 [(kb, sy), (ka, sx)] ka sz = ([(ka, sz), (kb, sy)], ⟨#[]⟩, false, 0) := by decide +kernel
theorem zn5 : Z.lookR [(ka, sz), (kb, sy)] ka = some sz := by decide +kernel
theorem zn6 : Z.getR [(ka, sz), (kb, sy)] ka = [(ka, sz), (kb, sy)] := by decide +kernel
theorem zn7 : Z.putR 0 [] ka sx = ([], ⟨#[]⟩, false, 10) := by decide +kernel
theorem zn8 : Z.lookR [(ka, sz), (kb, sy)] kb = some sy := by decide +kernel
theorem zn9 : Z.dropR [(ka, sz), (kb, sy)] kb = [(ka, sz)] := by decide +kernel
theorem zn10 : Z.lookR [(ka, sz)] kb = none := by decide +kernel
theorem zn11 : Z.dropR [(ka, sz)] kb = [(ka, sz)] := by decide +kernel
theorem zseq_none (g : Nat) : ∀ wx : World, (binOp .eql 31 (.func (.func 41) #[] #[.pointer (some ⟨g, 0, none⟩)]) .nilFunc).run Try.prog wx = .ok (.bool false) wx := fun _ => by kernel_rfl
/-- Between two rounds: the count, and the two lists as they were. -/
structure NR (w : World) (G p q : Nat) (R : Z.Rw) (T1 U1 : Nat → Prop) (pre : List (ByteArray × ByteArray)) (T : Nat → Prop) (W : World) : Prop where
  eT : ∀ k, T k ↔ k = G
  box : Boxed W G 3 (.int .i64 (pre.length : Int))
  l1 : Z.LR W p 2 R T1
  l2 : Z.LR W q 0 [] U1
  bel : Below w.heap.size w W
theorem nr_own {w : World} {G p q n : Nat} {R : Z.Rw} {T1 U1 : Nat → Prop} (hw : w.heap.size ≤ G) (hn : G < n) (h1 : ∀ k, T1 k → k < n) (h2 : ∀ k, U1 k → k < n) (T : Nat → Prop) : OwnFrom n fun (pre : List (ByteArray × ByteArray)) W => NR w G p q R T1 U1 pre T W := by
  rintro s X Y row ⟨e1, e2, e3, e4, e5⟩ hg hr
  have key : ∀ k, k < n → k < X.heap.size → Y.heap[k]? = X.heap[k]? := fun k hk hlt => hg.block k hlt fun e => by have := (hr _ e.symm).1; omega
  exact ⟨e1, e2.kept hg fun e => by have := (hr _ e.symm).1; omega, e3.stay (fun k hk => key k (h1 k hk) (e3.tl k hk)) hg.size, e4.stay (fun k hk => key k (h2 k hk) (e4.tl k hk)) hg.size, e5.grown hg e5.size fun j hj => by have := (hr j hj).1; omega⟩
set_option maxRecDepth 100000 in
set_option maxHeartbeats 16000000 in
theorem LruNames_walk (w : World) : Calls Try.prog 3 #[] w fun e w' => e = .returned (.bool true) ∧ Below w.heap.size w w' := by
  have HL := Lib.hid (lives15 w)
  refine (callsIn_wide (n := 19)).1 ?_
  refine callsIn_of_wp_marks Try.func3 rfl trivial ?_ rfl
  simp only [Try.ntmps3, List.size_toArray, List.length_cons, List.length_nil, Nat.reduceAdd, Nat.reduceSub, Array.replicate_succ, Array.replicate_zero, List.push_toArray, List.append_toArray, List.nil_append, List.cons_append]
  refine wpIn_wide.2 ?_
  go_wp2_with fail
  refine HL.out.mono ?_
  rintro e w1 ⟨rfl, hb⟩
  have N1 := Lib.hid (Z.One.new (w := w) (D := fun _ => False) hb (fun k h => h.elim) 2)
  clear hb HL
  go_wp2_with fail
  refine N1.out.mono ?_
  rintro e w2 ⟨p, rfl, h2, _⟩
  have N2 := Lib.hid (Z.Two.second h2 (-1))
  clear h2 N1
  go_wp2_with fail
  refine N2.out.mono ?_
  rintro e w3 ⟨q, rfl, h3, _⟩
  have h3 : Z.Two w (fun _ => False) p 2 [] q 0 [] w3 := h3
  have N3 := Lib.hid (h3.call fun D' h => h.put (k := ka) (by decide) (by decide) (by decide) sx)
  rw [zn1] at N3
  clear h3 N2
  go_wp2_with fail
  refine N3.out.mono ?_
  rintro e w4 ⟨rfl, h4, _⟩
  have N4 := Lib.hid (h4.call fun D' h => h.put (k := kb) (by decide) (by decide) (by decide) sy)
  rw [zn2] at N4
  clear h4 N3
  go_wp2_with fail
  refine N4.out.mono ?_
  rintro e w5 ⟨rfl, h5, _⟩
  have N5 := Lib.hid (h5.call (R2 := [(kb, sy), (ka, sx)]) fun D' h => (h.look (k := ka) (by decide)).mono fun e w' h => ⟨h.1, h.2.1, h.2.2.1⟩)
  rw [zn3] at N5
  clear h5 N4
  go_wp2_with fail
  refine N5.out.mono ?_
  rintro e w6 ⟨rfl, h6, _⟩
  have N6 := Lib.hid (h6.call fun D' h => h.put (k := ka) (by decide) (by decide) (by decide) sz)
  rw [zn4] at N6
  clear h6 N5
  go_wp2_with fail
  refine N6.out.mono ?_
  rintro e w7 ⟨rfl, h7, _⟩
  have N7 := Lib.hid (h7.call fun D' h => h.get (k := ka) (by decide))
  rw [zn5, zn6] at N7
  clear h7 N6
  go_wp2_with fail
  refine N7.out.mono ?_
  rintro e w8 ⟨rfl, h8, _⟩
  have H8 := Lib.hid h8
  clear h8 N7
  obtain ⟨X, hX⟩ : ∃ X, w8.heap.size = X := ⟨_, rfl⟩
  have hn := zseq_none X
  go_wp2_with fail
  refine (Z.All_any _ _).mono ?_
  rintro e _ ⟨rfl, rfl⟩
  rw [hX]
  go_wp2_with fail
  have hs1 : (w8.alloc (.cells #[.pointer (some ⟨p, 0, none⟩)] 23)).heap.size = X + 1 := by rw [← hX]; simp
  obtain ⟨W0, hW0⟩ : ∃ W0, (w8.alloc (.cells #[.pointer (some ⟨p, 0, none⟩)] 23)).alloc (.cells #[.int .i64 0] 3) = W0 := ⟨_, rfl⟩
  have hb0 : Below w8.heap.size w8 W0 := by rw [← hW0]; exact ((Below.refl _ w8).alloc (Nat.le_refl _) _).alloc (by simp) _
  have hbx : W0.cell? ⟨X, 0, none⟩ = some (.pointer (some ⟨p, 0, none⟩)) := by
    rw [← hW0, ← hX]
    exact ((Lies.new w8 23 #[.pointer (some ⟨p, 0, none⟩)]).alloc _).cell 0
  have bO : Boxed W0 (X + 1) 3 (.int .i64 0) := by rw [← hW0, ← hs1]; exact Boxed.new _ _ _
  have hs2 : W0.heap.size = X + 2 := by rw [← hW0, World.size_alloc, hs1]
  have hwX : w.heap.size ≤ X := by rw [← hX]; exact H8.out.bel.size
  obtain ⟨T1, U1, m1, m2, mb, lt1, lu1, ltu, _⟩ := H8.out
  have hT1 : ∀ k, T1 k → k < X := fun k hk => by have := m1.tl k hk; omega
  have hU1 : ∀ k, U1 k → k < X := fun k hk => by have := m2.tl k hk; omega
  have l1 := m1.next hb0
  have l2 := m2.next hb0
  have lb := mb.trans (hb0.mono mb.size)
  have HD := Lib.hid (And.intro lt1 (And.intro lu1 ltu))
  have hI0 : NR w (X + 1) p q [(ka, sz), (kb, sy)] T1 U1 [] (fun k => k = X + 1) W0 := ⟨fun k => Iff.rfl, bO, l1, l2, lb⟩
  rw [hW0]
  clear hb0 hW0 hn hs1 hX m1 m2 mb lt1 lu1 ltu H8 bO lb l2
  refine (wpIn_wide (n := 18)).1 ?_
  refine range_own1 rfl (by decide) (gf := 41) (bd := #[]) (lb := #[.pointer (some ⟨X, 0, none⟩)]) rfl trivial (enters_of Try.func41 (by kernel_rfl) rfl)
    (l1.seq (by decide) 17 (by decide) X hbx) (Below.refl _ _) (fun c h => h.elim) (fun _ => rfl)
    (NR w (X + 1) p q [(ka, sz), (kb, sy)] T1 U1) (fun _ _ _ => False) (nr_own (by omega) (by omega) (fun k hk => by have := hT1 k hk; omega) (fun k hk => by have := hU1 k hk; omega)) (fun _ _ _ _ _ h _ _ => h) (fun _ e => by cases e) (fun pre T W h b hb hT => by have := (h.eT b).1 hT; have := h.box.lt; omega)
    (fun k => k = X + 1) (fun c h => h.elim) hI0 ?a1 ?assign ?body ?done ?stop
  case assign =>
    intro l2 x W' K hK
    gi_wp2
    exact hK
  case stop => exact fun _ _ _ _ _ _ h _ => h.elim
  case body =>
    rintro l pre x T W _ _ hI hRs
    have hc := hI.box.cell
    have hf := hI.box.frozen
    have hlen : pre.length ≤ 2 := by
      have := hRs.length_le
      simp at this
      omega
    have HI := Lib.hid hI
    obtain ⟨n, hn⟩ : ∃ n, pre.length = n := ⟨_, rfl⟩
    rw [hn] at hc hlen
    have HN := Lib.hid hn
    clear hI hRs hn
    gi_wp2
    have hkp : Kpt T T W (W.setCell ⟨X + 1, 0, none⟩ (.int .i64 ((n : Int) + 1))) := Kpt.setCell (p := ⟨X + 1, 0, none⟩) ((HI.out.eT _).2 rfl) _
    have hst : ∀ k, k < X → (W.setCell ⟨X + 1, 0, none⟩ (.int .i64 ((n : Int) + 1))).heap[k]? = W.heap[k]? := fun k hk => heap_setCell_other _ _ _ _ (show k ≠ X + 1 by omega)
    have hsz : (W.setCell ⟨X + 1, 0, none⟩ (.int .i64 ((n : Int) + 1))).heap.size = W.heap.size := by simp [World.setCell]
    refine ⟨T, hkp, HI.out.eT, ?_, HI.out.l1.stay (fun k hk => hst k (hT1 k hk)) (Nat.le_of_eq hsz.symm), HI.out.l2.stay (fun k hk => hst k (hU1 k hk)) (Nat.le_of_eq hsz.symm), HI.out.bel.setCell (p := ⟨X + 1, 0, none⟩) (show w.heap.size ≤ X + 1 by omega) _⟩
    have := HI.out.box.set (.int .i64 ((n : Int) + 1))
    rw [List.length_append, HN.out]
    exact this
  case done =>
    rintro D xs T W hD hnD rfl hI hK
    have hGD : X + 1 < D := by omega
    have hD' : w.heap.size ≤ D := by omega
    have hDz : D < W.heap.size := (Array.getElem?_eq_some_iff.1 hK).1
    have hv := hI.box
    have HT : Hid (Z.Two w (fun k => k = X + 1 ∨ k = D) p 2 [(ka, sz), (kb, sy)] q 0 [] W) := Lib.hid ⟨T1, U1, hI.l1, hI.l2, hI.bel, HD.out.1, HD.out.2.1, HD.out.2.2, fun k hk => by
      rcases hk with rfl | rfl
      · exact ⟨hv.lt, fun h => by have := hT1 _ h; omega, fun h => by have := hU1 _ h; omega⟩
      · exact ⟨hDz, fun h => by have := hT1 _ h; omega, fun h => by have := hU1 _ h; omega⟩⟩
    have M1 := Lib.hid (HT.out.swap.call fun D' h => h.put (k := ka) (by decide) (by decide) (by decide) sx)
    rw [zn7] at M1
    have HK := Lib.hid hK
    have HV := Lib.hid hv
    clear hI hK hv hDz
    go_wp2_with fail
    refine M1.out.mono ?_
    rintro e y1 ⟨rfl, t1, s1⟩
    have M2 := Lib.hid (t1.swap.call fun D' h => h.Drop (k := kb) (by decide))
    rw [zn8, zn9] at M2
    have S1 := Lib.hid s1
    clear t1 s1 M1
    go_wp2_with fail
    refine M2.out.mono ?_
    rintro e y2 ⟨rfl, t2, s2⟩
    have M3 := Lib.hid (t2.call fun D' h => h.Drop (k := kb) (by decide))
    rw [zn10, zn11] at M3
    have S2 := Lib.hid s2
    clear t2 s2 M2
    go_wp2_with fail
    refine M3.out.mono ?_
    rintro e y3 ⟨rfl, t3, s3⟩
    have M4 := Lib.hid (t3.call fun D' h => h.clear)
    have S3 := Lib.hid s3
    clear t3 s3 M3
    go_wp2_with fail
    refine M4.out.mono ?_
    rintro e y4 ⟨rfl, t4, s4⟩
    have S4 := Lib.hid s4
    have T4 := Lib.hid t4
    clear t4 s4 M4
    have hx4 : ∀ k, (k = X + 1 ∨ k = D) → y4.heap[k]? = W.heap[k]? := fun k hk => (S4.out k hk).trans ((S3.out k hk).trans ((S2.out k hk).trans (S1.out k hk)))
    have hv4 : Boxed y4 (X + 1) 3 (.int .i64 2) := (hx4 _ (Or.inl rfl)).trans HV.out
    have hk4 : y4.heap[D]? = some (.deferred (some [])) := (hx4 _ (Or.inr rfl)).trans HK.out
    have hc := hv4.cell
    have l1 := Lib.hid (T4.out.one)
    have l2 := Lib.hid (T4.out.swap.one)
    have hs1 : (sx.toList == [120]) = true := by decide +kernel
    have hs2 : (sz.toList == [122]) = true := by decide +kernel
    go_wp2_with fail
    obtain ⟨_, _, _, o1, _⟩ := l1.out
    refine o1.len.mono ?_
    rintro e _ ⟨rfl, rfl⟩
    go_wp2_with fail
    obtain ⟨_, _, _, o2, _⟩ := l2.out
    refine o2.len.mono ?_
    rintro e _ ⟨rfl, rfl⟩
    go_wp2
    refine ⟨by simp, .inl ⟨_, _, rfl, run_takeDeferred hk4, ?_⟩⟩
    exact ⟨_, results_tmp rfl _ _ _, rfl, T4.out.bel.trans (belowK_b (w := w) (Nat.le_refl _) y4 D _ _ hD' hk4 rfl rfl)⟩
end Go.Proofs.Ytabhapohkohbmaa
