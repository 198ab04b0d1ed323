/-
  What a list's calls do, by node: Get, drop, Drop, put, Len. Conditions: as each theorem names them.
-/
import Derived.Test.YtabhapohkohbmaaLrC
namespace Go.Proofs.Ytabhapohkohbmaa
open Go.RowKit Go.Maps
set_option linter.unusedVariables false
set_option linter.unusedSimpArgs false

section
variable {w w' : World} {p mst m b : Nat} {A B : Nat → Nat} {E : List (Value × Value)} {M L P Q : List Nd} {x : Nd} {T : Nat → Prop}
theorem get_nil (w : World) (k : ByteArray) : Calls Try.prog 23 #[.pointer none, .string k] w fun e w' => e = .returned (.tuple #[.int .i64 (0 : Int), .bool false]) ∧ Below w.heap.size w w' := by
  go_enter Try.func23, Try.ntmps23
  go_wp2_with (first | (go_at_call 47; refine (find_nil _ _).mono ?_; rintro e w1 ⟨rfl, rfl⟩) | (go_at_call 25; refine (look_nil _ _).mono ?_; rintro e w1 ⟨rfl, hb⟩))
  go_ret2
  exact ⟨rfl, hb⟩
theorem LrX.get_no (h : LrX w p mst m b A B (entL L) M L T) {k : ByteArray} (hk : k.size ≤ maxLen) (hn : ∀ x ∈ L, x.k ≠ k) : Calls Try.prog 23 #[.pointer (some ⟨p, 0, none⟩), .string k] w fun e w' => e = .returned (.tuple #[.int .i64 (0 : Int), .bool false]) ∧ Below w.heap.size w w' := by
  have h1 := Lib.hid (h.find_no hk hn)
  have h2 := Lib.hid (h.look_no hk hn)
  clear h hn
  go_enter Try.func23, Try.ntmps23
  go_wp2_with (first | (go_at_call 47; refine h1.out.mono ?_; rintro e w1 ⟨rfl, rfl⟩) | (go_at_call 25; refine h2.out.mono ?_; rintro e w1 ⟨rfl, hb⟩))
  go_ret2
  exact ⟨rfl, hb⟩
theorem LrX.get_yes (h : LrX w p mst m b A B (entL (P ++ x :: Q)) (P ++ x :: Q) (P ++ x :: Q) T) : Calls Try.prog 23 #[.pointer (some ⟨p, 0, none⟩), .string x.k] w fun e w' => e = .returned (.tuple #[.int .i64 x.v, .bool true]) ∧ ∃ A' B', LrX w' p mst m b A' B' (entL (x :: (P ++ Q))) (x :: (P ++ Q)) (x :: (P ++ Q)) T ∧ Kl T T w w' := by
  have h1 := Lib.hid (h.find_yes (x := x) (by simp))
  have h2 := Lib.hid h.use
  clear h
  go_enter Try.func23, Try.ntmps23
  go_wp2_with (first | (go_at_call 47; refine h1.out.mono ?_; rintro e w1 ⟨rfl, rfl⟩) | (go_at_call 48; refine h2.out.mono ?_; rintro e w2 ⟨rfl, A2, B2, h2, k2⟩; have H2 := Lib.hid h2; have K2 := Lib.hid k2; clear h2 k2) | (go_at_call 25; refine (H2.out.look_yes List.mem_cons_self).mono ?_; rintro e w3 ⟨rfl, hb⟩; have HB := Lib.hid hb; clear hb))
  go_ret2
  exact ⟨rfl, A2, B2, H2.out.next HB.out, K2.out.trans (.of_below HB.out)⟩
/-- A node of the list goes. -/
theorem LrX.drop (h : LrX w p mst m b A B (entL (P ++ x :: Q)) (P ++ x :: Q) (P ++ x :: Q) T) : Calls Try.prog 46 #[.pointer (some ⟨p, 0, none⟩), .pointer (some ⟨x.g, 0, none⟩)] w fun e w' => e = .returned (.tuple #[]) ∧ ∃ A' B', LrX w' p mst m b A' B' (entL (P ++ Q)) (P ++ Q) (P ++ Q) T ∧ Kl T T w w' ∧ ∃ j, w'.cell? ⟨x.g, 0, none⟩ = some (.string x.k) ∧ j = 0 := by
  have hxM : x ∈ P ++ x :: Q := by simp
  obtain ⟨c0, c1, c2, c3⟩ := h.cells
  have hl := h.nds x (List.mem_cons_of_mem _ hxM)
  have x0 : w.cell? ⟨x.g, 0, none⟩ = some (.string x.k) := by rw [hl.cell 0]; simp [ndC]
  obtain ⟨w1, hr1, hM1, hg1, hs1⟩ := (h.mp.same (w' := w.drew) rfl).drop skeyL Try.underlying79 (ty := 0) (keyK (h.key x hxM)) (entL_perm x)
  have hk1 : Kl T T w w1 := (Kl.of_grown hg1 h.tm).drew
  have h1 : LrX w1 p mst m b A B (entL (P ++ Q)) (P ++ x :: Q) (P ++ x :: Q) T := ⟨h.obj.drew.grown hg1 (fun e => h.p_m (by injection e)), hM1, fun u hu => (h.nds u hu).drew.grown hg1 (fun e => h.m_ne u hu (by injection e with e; exact e.symm)), h.ring, h.sub, h.tp, h.tm, h.tn, fun k hk => Nat.lt_of_lt_of_le (h.tl k hk) hk1.size, h.key⟩
  have H1 := Lib.hid h1
  have K1 := Lib.hid hk1
  have hlv := Lib.hid h1.leave
  clear h hl hM1 hg1 hs1 hk1 h1
  go_enter Try.func46, Try.ntmps46
  go_wp2
  go_region
  all_goals
    go_wp2_with (go_at_call 57; refine hlv.out.mono ?_; rintro e w2 ⟨rfl, A2, B2, h2, k2⟩; have H2 := Lib.hid h2; have K2 := Lib.hid k2; clear h2 k2)
    go_end0
    have hl2 := H2.out.nds x (List.mem_cons_of_mem _ hxM)
    exact ⟨rfl, A2, B2, H2.out.fewer (fun u hu => by simp only [List.mem_append, List.mem_cons] at hu ⊢; exact hu.elim Or.inl fun h => Or.inr (Or.inr h)) (fun u hu => hu), K1.out.trans K2.out, 0, by rw [hl2.cell 0]; simp [ndC], rfl⟩
theorem Drop_nil (w : World) (k : ByteArray) : Calls Try.prog 27 #[.pointer none, .string k] w fun e w' => e = .returned (.bool false) ∧ w = w' := by
  go_enter Try.func27, Try.ntmps27
  go_wp2_with (go_at_call 47; refine (find_nil _ _).mono ?_; rintro e w1 ⟨rfl, rfl⟩)
  go_ret
  exact ⟨rfl, rfl⟩
theorem LrX.Drop_no (h : LrX w p mst m b A B (entL L) M L T) {k : ByteArray} (hk : k.size ≤ maxLen) (hn : ∀ x ∈ L, x.k ≠ k) : Calls Try.prog 27 #[.pointer (some ⟨p, 0, none⟩), .string k] w fun e w' => e = .returned (.bool false) ∧ w = w' := by
  have h1 := Lib.hid (h.find_no hk hn)
  clear h hn
  go_enter Try.func27, Try.ntmps27
  go_wp2_with (go_at_call 47; refine h1.out.mono ?_; rintro e w1 ⟨rfl, rfl⟩)
  go_ret
  exact ⟨rfl, rfl⟩
theorem LrX.Drop_yes (h : LrX w p mst m b A B (entL (P ++ x :: Q)) (P ++ x :: Q) (P ++ x :: Q) T) : Calls Try.prog 27 #[.pointer (some ⟨p, 0, none⟩), .string x.k] w fun e w' => e = .returned (.bool true) ∧ ∃ A' B', LrX w' p mst m b A' B' (entL (P ++ Q)) (P ++ Q) (P ++ Q) T ∧ Kl T T w w' := by
  have h1 := Lib.hid (h.find_yes (x := x) (by simp))
  have h2 := Lib.hid h.drop
  clear h
  go_enter Try.func27, Try.ntmps27
  go_wp2_with (first | (go_at_call 47; refine h1.out.mono ?_; rintro e w1 ⟨rfl, rfl⟩) | (go_at_call 46; refine h2.out.mono ?_; rintro e w2 ⟨rfl, A2, B2, h2, k2, _⟩; have H2 := Lib.hid h2; have K2 := Lib.hid k2; clear h2 k2))
  go_ret
  exact ⟨rfl, A2, B2, H2.out, K2.out⟩
theorem len_nil (w : World) : Calls Try.prog 30 #[.pointer none] w fun e w' => e = .returned (.int .i64 0) ∧ w = w' := by
  go_enter Try.func30, Try.ntmps30
  go_wp2_with (go_at_call 44; refine (made_no _).mono ?_; rintro e w1 ⟨rfl, rfl⟩)
  go_ret
  exact ⟨rfl, rfl⟩
theorem LrX.len (h : LrX w p mst m b A B (entL L) M L T) : Calls Try.prog 30 #[.pointer (some ⟨p, 0, none⟩)] w fun e w' => e = .returned (.int .i64 (L.length : Int)) ∧ w = w' := by
  have hm := Lib.hid h.made
  obtain ⟨c0, c1, c2, c3⟩ := h.cells
  have hln := h.mp.len Try.underlying79 3
  rw [show (entL L).length = L.length by simp [entL]] at hln
  clear h
  go_enter Try.func30, Try.ntmps30
  go_wp2_with (go_at_call 44; refine hm.out.mono ?_; rintro e w1 ⟨rfl, rfl⟩)
  go_ret
  exact ⟨rfl, rfl⟩
theorem LrX.setV (h : LrX w p mst m b A B (entL (P ++ x :: Q)) (P ++ x :: Q) (P ++ x :: Q) T) (v : Int) : LrX (w.setCell ⟨x.g, 1, none⟩ (.int .i64 v)) p mst m b A B (entL (P ++ ⟨x.g, x.k, v⟩ :: Q)) (P ++ ⟨x.g, x.k, v⟩ :: Q) (P ++ ⟨x.g, x.k, v⟩ :: Q) T := by
  have hxM : x ∈ bgn b :: (P ++ x :: Q) := by simp
  have hno := ring_not h.ring
  have hl := h.nds x hxM
  have hmem : ∀ u ∈ bgn b :: (P ++ (⟨x.g, x.k, v⟩ : Nd) :: Q), u = ⟨x.g, x.k, v⟩ ∨ (u ∈ bgn b :: (P ++ x :: Q) ∧ u.g ≠ x.g) := by
    intro u hu
    simp only [List.mem_cons, List.mem_append] at hu ⊢
    simp only [List.mem_cons, List.mem_map, List.mem_append, not_or, not_exists, not_and] at hno
    rcases hu with rfl | hu | rfl | hu
    · exact Or.inr ⟨Or.inl rfl, fun e => hno.1 e.symm⟩
    · exact Or.inr ⟨Or.inr (Or.inl hu), fun e => hno.2 u (Or.inl hu) e⟩
    · exact Or.inl rfl
    · exact Or.inr ⟨Or.inr (Or.inr (Or.inr hu)), fun e => hno.2 u (Or.inr hu) e⟩
  refine ⟨h.obj.setOther (h.p_ne x hxM) _, ?_, ?_, ?_, fun u hu => hu, h.tp, h.tm, ?_, ?_, ?_⟩
  · have := h.mp.setCell (j := 1) hl (.int .i64 v)
    simpa [entL] using this
  · intro u hu
    rcases hmem u hu with rfl | ⟨hu, hne⟩
    · have := hl.set 1 (.int .i64 v)
      simpa [ndC] using this
    · exact (h.nds u hu).setOther hne _
  · simpa using h.ring
  · intro u hu
    rcases hmem u hu with rfl | ⟨hu, hne⟩
    · exact h.tn x hxM
    · exact h.tn u hu
  · intro k hk
    simpa [World.setCell] using h.tl k hk
  · intro u hu
    rcases hmem u (List.mem_cons_of_mem _ hu) with rfl | ⟨hu', hne⟩
    · exact h.key x (by simp)
    · rcases List.mem_cons.1 hu' with rfl | hu'
      · exact Nat.zero_le _
      · exact h.key u hu'
theorem LrX.put_old (h : LrX w p mst m b A B (entL (P ++ x :: Q)) (P ++ x :: Q) (P ++ x :: Q) T) (v : Int) : Calls Try.prog 45 #[.pointer (some ⟨p, 0, none⟩), .string x.k, .int .i64 v] w fun e w' => e = .returned (.tuple #[]) ∧ ∃ A' B', LrX w' p mst m b A' B' (entL (⟨x.g, x.k, v⟩ :: (P ++ Q))) (⟨x.g, x.k, v⟩ :: (P ++ Q)) (⟨x.g, x.k, v⟩ :: (P ++ Q)) T ∧ Kl T T w w' := by
  have hxM : x ∈ P ++ x :: Q := by simp
  obtain ⟨c0, c1, c2, c3⟩ := h.cells
  have hl := h.nds x (List.mem_cons_of_mem _ hxM)
  have x1 : w.cell? ⟨x.g, 1, none⟩ = some (.int .i64 x.v) := by rw [hl.cell 1]; simp [ndC]
  have x1f : w.frozen? ⟨x.g, 1, none⟩ = false := hl.free 1
  have hlk := h.mp.look_yes true skeyL Try.underlying79 (keyK (h.key x hxM)) (List.mem_map.2 ⟨x, hxM, rfl⟩)
  simp only [if_true] at hlk
  have hu := Lib.hid (h.setV v).use
  have HT := Lib.hid (h.tn x (List.mem_cons_of_mem _ hxM))
  clear h hl hxM
  go_enter Try.func45, Try.ntmps45
  go_wp2_with (go_at_call 48; refine hu.out.mono ?_; rintro e w2 ⟨rfl, A2, B2, h2, k2⟩; have H2 := Lib.hid h2; have K2 := Lib.hid k2; clear h2 k2)
  exact bodyPost_ret (v := .tuple #[]) (by simp [results, Try.results45, go_sem]) rfl ⟨rfl, A2, B2, H2.out, ((Kl.refl T w).setCell HT.out 1 _).trans K2.out⟩
theorem LrX.put_new (h : LrX w p mst m b A B (entL L) L L T) {k : ByteArray} (hk : k.size ≤ 281474976710656) (hn : ∀ x ∈ L, x.k ≠ k) (hlen : L.length < maxLen) (v : Int) : Calls Try.prog 45 #[.pointer (some ⟨p, 0, none⟩), .string k, .int .i64 v] w fun e w' => e = .returned (.tuple #[]) ∧ ∃ g A' B' T', LrX w' p mst m b A' B' (entL (⟨g, k, v⟩ :: L)) (⟨g, k, v⟩ :: L) (⟨g, k, v⟩ :: L) T' ∧ Kl T T' w w' := by
  have hkm : k.size ≤ maxLen := Nat.le_trans hk (by decide)
  obtain ⟨c0, c1, c2, c3⟩ := h.cells
  have hlk := h.mp.look_no true skeyL Try.underlying79 (Try.zeroValue80 w) (keyK hkm) (entL_not hn)
  simp only [if_true] at hlk
  have H := Lib.hid h
  have HN := Lib.hid (entL_not hn)
  have gC := Lib.hid (lClone hk)
  have HL : Hid ((entL L).length < maxLen) := Lib.hid (by simpa [entL] using hlen)
  have HK := Lib.hid hkm
  clear h hn hk hlen hkm
  go_enter Try.func45, Try.ntmps45
  go_upto_region 5 with (go_at_call 53; refine (gC.out.go _).mono ?_; rintro e w1 ⟨rfl, hb⟩; have HB := Lib.hid hb; clear hb)
  obtain ⟨g, hg⟩ : ∃ g, w1.heap.size = g := ⟨_, rfl⟩
  obtain ⟨w2, hw2⟩ : ∃ w2, w1.alloc (.cells #[.string k, .int .i64 v, .pointer none, .pointer none] 86) = w2 := ⟨_, rfl⟩
  have hl2 : Lies w2 g 86 #[.string k, .int .i64 v, .pointer none, .pointer none] := by rw [← hw2, ← hg]; exact Lies.new _ _ _
  have hb2 : Below w.heap.size w w2 := by rw [← hw2]; exact HB.out.alloc HB.out.size _
  have hgw : w.heap.size ≤ g := by rw [← hg]; exact HB.out.size
  have h2 := H.out.next hb2
  rw [hw2, hg]
  clear hw2 hg
  obtain ⟨w3, hr3, hM3, hg3, hs3⟩ := (h2.mp.same (w' := w2.drew) rfl).put skeyL Try.underlying79 (val := .pointer (some ⟨g, 0, none⟩)) HL.out (keyK HK.out) HN.out
  have hTg : ∀ j, T j → j ≠ g := fun j hj => by have := H.out.tl j hj; omega
  have hgm : g ≠ m := fun e => hTg m H.out.tm e.symm
  have hl3 : Lies w3 g 86 #[.string k, .int .i64 v, .pointer none, .pointer none] := hl2.drew.grown hg3 (fun e => hgm (by injection e))
  have hk3 : Kl T (fun j => T j ∨ j = g) w w3 := ((Kl.of_below hb2 (T := T)).more (S := fun j => T j ∨ j = g) (fun j hj => hj.elim Or.inl fun e => Or.inr (e ▸ hgw))).trans (Kl.of_grown (w := w2.drew) hg3 (Or.inl H.out.tm)).drew
  have h3 : LrX w3 p mst m b A B (entL L ++ [(.string k, .pointer (some ⟨g, 0, none⟩))]) L L (fun j => T j ∨ j = g) :=
    ⟨h2.obj.drew.grown hg3 (fun e => h2.p_m (by injection e)), hM3, fun u hu => (h2.nds u hu).drew.grown hg3 (fun e => h2.m_ne u hu (by injection e with e; exact e.symm)), h2.ring, h2.sub, Or.inl h2.tp, Or.inl h2.tm, fun u hu => Or.inl (h2.tn u hu), fun j hj => by
      rcases hj with hj | rfl
      · exact Nat.lt_of_lt_of_le (H.out.tl j hj) hk3.size
      · exact hl3.lt, h2.key⟩
  have hgn : g ∉ b :: L.map (·.g) := fun hm => by
    rcases List.mem_cons.1 hm with rfl | hm
    · exact hTg _ (H.out.tn _ List.mem_cons_self) rfl
    · obtain ⟨u, hu, e⟩ := List.mem_map.1 hm
      exact hTg _ (H.out.tn u (List.mem_cons_of_mem _ hu)) e
  have he := Lib.hid (h3.enter (x := ⟨g, k, v⟩) hl3 (Or.inr rfl) HK.out hgn ⟨fun e => hTg _ H.out.tp e.symm, hgm⟩)
  have K3 := Lib.hid hk3
  obtain ⟨d0, d1, d2, d3⟩ := h2.cells
  obtain ⟨e0, e1, e2, e3⟩ := h3.cells
  have x0 : w2.cell? ⟨g, 0, none⟩ = some (.string k) := by rw [hl2.cell 0]; simp
  clear hl2 hb2 hgw h2 hM3 hg3 hs3 hTg hgm hl3 hk3 h3 hgn c0 c1 c2 c3 hlk
  go_region
  all_goals
    go_wp2_with (go_at_call 56; refine he.out.mono ?_; rintro e w4 ⟨rfl, A4, B4, h4, k4⟩; have H4 := Lib.hid h4; have K4 := Lib.hid k4; clear h4 k4)
    go_end0
    refine ⟨rfl, g, A4, B4, _, H4.out.perm ?_, K3.out.trans K4.out⟩
    exact List.perm_append_comm
end
end Go.Proofs.Ytabhapohkohbmaa
