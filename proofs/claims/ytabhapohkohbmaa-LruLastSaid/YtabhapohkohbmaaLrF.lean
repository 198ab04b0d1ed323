/-
  A list that is made, and one that is cleared. No condition.
-/
import Derived.Test.YtabhapohkohbmaaLrE
namespace Go.Proofs.Ytabhapohkohbmaa
open Go.RowKit Go.Maps
set_option linter.unusedVariables false
set_option linter.unusedSimpArgs false

theorem ring_any (w : World) : Calls Try.prog 43 #[] w fun e w' => ∃ g, e = .returned (.pointer (some ⟨g, 0, none⟩)) ∧ w.heap.size ≤ g ∧ Lies w' g 86 (ndC (fun _ => g) (fun _ => g) (bgn g)) ∧ Below w.heap.size w w' := by
  go_enter Try.func43, Try.ntmps43
  go_upto_region 2 with (fail)
  obtain ⟨g, hg⟩ : ∃ g, w.heap.size = g := ⟨_, rfl⟩
  obtain ⟨w1, hw1⟩ : ∃ w1, w.alloc (.cells #[.string ⟨#[]⟩, .int .i64 (0 : Int), .pointer none, .pointer none] 86) = w1 := ⟨_, rfl⟩
  have hl : Lies w1 g 86 #[.string ⟨#[]⟩, .int .i64 (0 : Int), .pointer none, .pointer none] := by rw [← hw1, ← hg]; exact Lies.new _ _ _
  have hb : Below w.heap.size w w1 := by rw [← hw1]; exact (Below.refl _ _).alloc (Nat.le_refl _) _
  rw [hw1, hg]
  have c2 : w1.cell? ⟨g, 2, none⟩ = some (.pointer none) := hl.cell 2
  have c3 : w1.cell? ⟨g, 3, none⟩ = some (.pointer none) := hl.cell 3
  have f2 : w1.frozen? ⟨g, 2, none⟩ = false := hl.free 2
  have f3 : w1.frozen? ⟨g, 3, none⟩ = false := hl.free 3
  have HL := Lib.hid hl
  have HB := Lib.hid hb
  have HG := Lib.hid hg
  clear hl hb hw1 hg
  go_wp2
  go_ret
  refine ⟨g, rfl, Nat.le_of_eq HG.out, ?_, (HB.out.setCell (p := ⟨g, 2, none⟩) (Nat.le_of_eq HG.out) _).setCell (p := ⟨g, 3, none⟩) (Nat.le_of_eq HG.out) _⟩
  have := (HL.out.set 2 (.pointer (some ⟨g, 0, none⟩))).set 3 (.pointer (some ⟨g, 0, none⟩))
  simpa [ndC, bgn] using this
theorem rng_nil (b : Nat) : Rng (fun _ => b) (fun _ => b) b [] := ⟨⟨rfl, rfl⟩, by simp⟩
set_option maxRecDepth 100000 in
set_option maxHeartbeats 8000000 in
theorem New_any (w : World) (most : Int) : Calls Try.prog 18 #[.int .i64 most] w fun e w' => ∃ p T, e = .returned (.pointer (some ⟨p, 0, none⟩)) ∧ LR w' p most.toNat [] T ∧ Below w.heap.size w w' ∧ ∀ k, T k → w.heap.size ≤ k := by
  obtain ⟨mst, hmst⟩ : ∃ mst : Nat, max most 0 = (mst : Int) := ⟨(max most 0).toNat, by omega⟩
  have e1 : most.toNat = mst := by omega
  have e2 : max 0 most = (mst : Int) := by omega
  rw [e1]
  clear e1
  have hmm := @run_makeMap Try.prog
  go_enter Try.func18, Try.ntmps18
  go_upto_region 2 with (go_at_call 43; refine (ring_any _).mono ?_; rintro e w1 ⟨b, rfl, hgb, hlb, hb⟩; have HGB := Lib.hid hgb; have HLB := Lib.hid hlb; have HB := Lib.hid hb; clear hgb hlb hb)
  clear hmm
  obtain ⟨m, hm⟩ : ∃ m, w.heap.size = m := ⟨_, rfl⟩
  have hM0 : MapE Try.prog 9 (w.alloc (.map #[] 0)) m [] := by rw [← hm]; exact MapE.new _ _ _
  have hB0 : Below w.heap.size w (w.alloc (.map #[] 0)) := (Below.refl _ _).alloc (Nat.le_refl _) _
  have hs0 : (w.alloc (.map #[] 0)).heap.size = m + 1 := by rw [← hm]; simp
  have hM1 := hM0.next HB.out
  have hB1 : Below w.heap.size w w1 := hB0.trans (HB.out.mono (by rw [hs0]; omega))
  have hbm : m < b := by have := HGB.out; rw [hs0] at this; omega
  obtain ⟨p, hp⟩ : ∃ p, w1.heap.size = p := ⟨_, rfl⟩
  have hbp : b < p := by rw [← hp]; exact HLB.out.lt
  obtain ⟨w2, hw2⟩ : ∃ w2, w1.alloc (.cells #[.int .i64 (mst : Int), .map (some m), .pointer (some ⟨b, 0, none⟩), .pointer none] 83) = w2 := ⟨_, rfl⟩
  have hl2 : Lies w2 p 83 #[.int .i64 (mst : Int), .map (some m), .pointer (some ⟨b, 0, none⟩), .pointer none] := by rw [← hw2, ← hp]; exact Lies.new _ _ _
  have hb2 : Below w1.heap.size w1 w2 := by rw [← hw2]; exact (Below.refl _ _).alloc (Nat.le_refl _) _
  have hs2 : w2.heap.size = p + 1 := by rw [← hw2, ← hp]; simp
  rw [hm, hw2, hp]
  have HX : Hid (LR (w2.setCell ⟨p, 3, none⟩ (.pointer (some ⟨p, 0, none⟩))) p mst [] (fun k => k = p ∨ k = m ∨ k = b) ∧ Below w.heap.size w (w2.setCell ⟨p, 3, none⟩ (.pointer (some ⟨p, 0, none⟩)))) := Lib.hid (by
    have hl3 := hl2.set 3 (.pointer (some ⟨p, 0, none⟩))
    have hbn := (HLB.out.next hb2).setOther (by omega : b ≠ p) (j := 3) (.pointer (some ⟨p, 0, none⟩))
    refine ⟨⟨m, b, _, _, [], ⟨by simpa [lrC] using hl3, (hM1.next hb2).setCell hl2 _, ?_, rng_nil b, by simp, Or.inl rfl, Or.inr (Or.inl rfl), ?_, ?_, by simp⟩, rfl, Nat.zero_le _⟩, ?_⟩
    · intro u hu
      simp only [List.mem_singleton] at hu
      subst hu
      exact hbn
    · intro u hu
      simp only [List.mem_singleton] at hu
      subst hu
      exact Or.inr (Or.inr rfl)
    · rintro k (rfl | rfl | rfl) <;> simp [World.setCell, hs2] <;> omega
    · exact (hB1.trans (hb2.mono hB1.size)).setCell (p := ⟨p, 3, none⟩) (by show w.heap.size ≤ p; omega) _)
  have c3 : w2.cell? ⟨p, 3, none⟩ = some (.pointer none) := hl2.cell 3
  have f3 : w2.frozen? ⟨p, 3, none⟩ = false := hl2.free 3
  have HS : Hid (w.heap.size ≤ m ∧ w.heap.size ≤ b ∧ w.heap.size ≤ p) := Lib.hid (by omega)
  clear hm hM0 hB0 hs0 hM1 hB1 hbm hp hbp hw2 hl2 hb2 hs2
  go_wp2
  go_ret
  refine ⟨p, _, rfl, HX.out.1, HX.out.2, ?_⟩
  rintro k (rfl | rfl | rfl)
  · exact HS.out.2.2
  · exact HS.out.1
  · exact HS.out.2.1
section
variable {w w' : World} {p mst m b : Nat} {A B : Nat → Nat} {E : List (Value × Value)} {M L P Q : List Nd} {x : Nd} {T : Nat → Prop} {R : Rw}
theorem Clear_nil (w : World) : Calls Try.prog 29 #[.pointer none] w fun e w' => e = .returned (.tuple #[]) ∧ w = w' := by
  go_enter Try.func29, Try.ntmps29
  go_wp2_with (go_at_call 44; refine (made_no _).mono ?_; rintro e w1 ⟨rfl, rfl⟩)
  exact bodyPost_ret (v := .tuple #[]) (by simp [results, Try.results29, go_sem]) rfl ⟨rfl, rfl⟩
set_option maxRecDepth 100000 in
set_option maxHeartbeats 8000000 in
theorem LR.clear (h : LR w p mst R T) : Calls Try.prog 29 #[.pointer (some ⟨p, 0, none⟩)] w fun e w' => e = .returned (.tuple #[]) ∧ ∃ T', LR w' p mst [] T' ∧ Kl T T' w w' := by
  obtain ⟨m, b, A, B, L, h, rfl, hl⟩ := h
  have hM := Lib.hid h.made
  obtain ⟨c0, c1, c2, c3⟩ := h.cells
  have H := Lib.hid h
  have hmm := @run_makeMap Try.prog
  have f1 : w.frozen? ⟨p, 1, none⟩ = false := h.obj.free 1
  have f2 : w.frozen? ⟨p, 2, none⟩ = false := h.obj.free 2
  have HW : Hid (∀ w1 b1, w.heap.size + 1 ≤ b1 → Lies w1 b1 86 (ndC (fun _ => b1) (fun _ => b1) (bgn b1)) → Below (w.heap.size + 1) (w.alloc (.map #[] 0)) w1 →
      (w1.cell? ⟨p, 1, none⟩ = some (.map (some m)) ∧ w1.cell? ⟨p, 2, none⟩ = some (.pointer (some ⟨b, 0, none⟩)) ∧ w1.frozen? ⟨p, 1, none⟩ = false ∧ w1.frozen? ⟨p, 2, none⟩ = false) ∧
      ∃ T', LR ((w1.setCell ⟨p, 1, none⟩ (.map (some w.heap.size))).setCell ⟨p, 2, none⟩ (.pointer (some ⟨b1, 0, none⟩))) p mst [] T' ∧ Kl T T' w ((w1.setCell ⟨p, 1, none⟩ (.map (some w.heap.size))).setCell ⟨p, 2, none⟩ (.pointer (some ⟨b1, 0, none⟩)))) := Lib.hid (by
    intro w1 b1 hgb hlb hb
    have hB0 : Below w.heap.size w (w.alloc (.map #[] 0)) := (Below.refl _ _).alloc (Nat.le_refl _) _
    have hs0 : (w.alloc (.map #[] 0)).heap.size = w.heap.size + 1 := by simp
    have hB1 : Below w.heap.size w w1 := hB0.trans (hb.mono (by omega))
    have hM1 : MapE Try.prog 9 w1 w.heap.size [] := (MapE.new _ _ w).below hb (by omega)
    have ho := h.obj.next hB1
    have hpl := h.obj.lt
    refine ⟨⟨ho.cell 1, ho.cell 2, ho.free 1, ho.free 2⟩, fun k => T k ∨ k = w.heap.size ∨ k = b1, ⟨w.heap.size, b1, _, _, [], ⟨?_, (hM1.setCell ho _).setCell (ho.set 1 _) _, ?_, rng_nil b1, by simp, Or.inl h.tp, Or.inr (Or.inl rfl), ?_, ?_, by simp⟩, rfl, Nat.zero_le _⟩, ?_⟩
    · have := (ho.set 1 (.map (some w.heap.size))).set 2 (.pointer (some ⟨b1, 0, none⟩))
      simpa [lrC] using this
    · intro u hu
      simp only [List.mem_singleton] at hu
      subst hu
      exact (hlb.setOther (by omega : b1 ≠ p) _).setOther (by omega : b1 ≠ p) _
    · intro u hu
      simp only [List.mem_singleton] at hu
      subst hu
      exact Or.inr (Or.inr rfl)
    · rintro k (hk | rfl | rfl)
      · have := h.tl k hk; have := hB1.size; simp [World.setCell]; omega
      · have := hM1.lt; simp [World.setCell]; omega
      · have := hlb.lt; simp [World.setCell]; omega
    · exact (((Kl.of_below hB1 (T := T)).more (S := fun k => T k ∨ k = w.heap.size ∨ k = b1) (fun k hk => hk.elim Or.inl fun hk => Or.inr (by rcases hk with rfl | rfl <;> omega))).setCell (Or.inl h.tp) 1 _).setCell (Or.inl h.tp) 2 _)
  clear h hl
  go_enter Try.func29, Try.ntmps29
  go_wp2_with (first | (go_at_call 44; refine hM.out.mono ?_; rintro e w1 ⟨rfl, rfl⟩) | (go_at_call 43; refine (ring_any _).mono ?_; rintro e w1 ⟨b1, rfl, hgb, hlb, hb⟩; rw [World.size_alloc] at hgb hb; have HY := Lib.hid (HW.out w1 b1 hgb hlb hb); clear hgb hlb hb; obtain ⟨⟨d1, d2, g1, g2⟩, _⟩ := HY.out))
  go_end0
  obtain ⟨T', h1, h2⟩ := HY.out.2
  exact ⟨rfl, T', h1, h2⟩
end
end Go.Proofs.Ytabhapohkohbmaa
