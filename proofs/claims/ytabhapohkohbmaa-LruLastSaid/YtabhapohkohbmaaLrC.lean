/-
  What a list's calls do: made, find, Look, use, Get, drop, Drop, put, Put, Len. Conditions: as each theorem names them.
-/
import Derived.Test.YtabhapohkohbmaaLrB
import Derived.Test.YtabhapohkohbmaaLrS
namespace Go.Proofs.Ytabhapohkohbmaa
open Go.RowKit Go.Maps
set_option linter.unusedVariables false
set_option linter.unusedSimpArgs false

theorem infoL : (Try.prog.info? 83).isSome = true := by kernel_rfl
theorem infoN : (Try.prog.info? 86).isSome = true := by kernel_rfl
theorem eqlL (w : World) (a : Addr) : (binOp .eql 36 (.pointer (some a)) (.pointer (some a))).run Try.prog w = .ok (.bool true) w := by
  obtain ⟨j, hj⟩ := Option.isSome_iff_exists.1 infoL
  exact run_eql_ptr_same w a Try.underlying36 hj
theorem made_no (w : World) : Calls Try.prog 44 #[.pointer none] w fun e w' => e = .returned (.bool false) ∧ w = w' := by
  go_enter Try.func44, Try.ntmps44
  go_wp2
  exact bodyPost_ret (v := .bool false) (by simp [results, Try.results44, go_sem]) rfl ⟨rfl, rfl⟩
theorem find_nil (w : World) (k : ByteArray) : Calls Try.prog 47 #[.pointer none, .string k] w fun e w' => e = .returned (.tuple #[.pointer none, .bool false]) ∧ w = w' := by
  go_enter Try.func47, Try.ntmps47
  go_wp2_with (go_at_call 44; refine (made_no _).mono ?_; rintro e w1 ⟨rfl, rfl⟩)
  go_ret2
  exact ⟨rfl, rfl⟩
section
variable {w w' : World} {p mst m b : Nat} {A B : Nat → Nat} {E : List (Value × Value)} {M L P Q : List Nd} {x : Nd} {T : Nat → Prop}
theorem LrX.made (h : LrX w p mst m b A B E M L T) : Calls Try.prog 44 #[.pointer (some ⟨p, 0, none⟩)] w fun e w' => e = .returned (.bool true) ∧ w = w' := by
  obtain ⟨c0, c1, c2, c3⟩ := h.cells
  have he := eqlL w ⟨p, 0, none⟩
  clear h
  go_enter Try.func44, Try.ntmps44
  go_wp2
  go_ret
  exact ⟨rfl, rfl⟩
theorem LrX.find_yes (h : LrX w p mst m b A B (entL L) M L T) {x : Nd} (hx : x ∈ L) : Calls Try.prog 47 #[.pointer (some ⟨p, 0, none⟩), .string x.k] w fun e w' => e = .returned (.tuple #[.pointer (some ⟨x.g, 0, none⟩), .bool true]) ∧ w = w' := by
  have hm := Lib.hid h.made
  obtain ⟨c0, c1, c2, c3⟩ := h.cells
  have hlk := h.mp.look_yes true skeyL Try.underlying79 (keyK (h.key x (h.sub x hx))) (List.mem_map.2 ⟨x, hx, rfl⟩)
  simp only [if_true] at hlk
  clear h hx
  go_enter Try.func47, Try.ntmps47
  go_wp2_with (go_at_call 44; refine hm.out.mono ?_; rintro e w1 ⟨rfl, rfl⟩)
  go_ret2
  exact ⟨rfl, rfl⟩
theorem entL_not {k : ByteArray} (hn : ∀ x ∈ L, x.k ≠ k) : ∀ q ∈ entL L, q.1 ≠ .string k := fun q hq => by
  obtain ⟨x, hx, rfl⟩ := List.mem_map.1 hq
  intro e
  injection e with e
  exact hn x hx e
theorem LrX.find_no (h : LrX w p mst m b A B (entL L) M L T) {k : ByteArray} (hk : k.size ≤ maxLen) (hn : ∀ x ∈ L, x.k ≠ k) : Calls Try.prog 47 #[.pointer (some ⟨p, 0, none⟩), .string k] w fun e w' => e = .returned (.tuple #[.pointer none, .bool false]) ∧ w = w' := by
  have hm := Lib.hid h.made
  obtain ⟨c0, c1, c2, c3⟩ := h.cells
  have hlk := h.mp.look_no true skeyL Try.underlying79 (Try.zeroValue80 w) (keyK hk) (entL_not hn)
  simp only [if_true] at hlk
  clear h hn
  go_enter Try.func47, Try.ntmps47
  go_wp2_with (go_at_call 44; refine hm.out.mono ?_; rintro e w1 ⟨rfl, rfl⟩)
  go_ret2
  exact ⟨rfl, rfl⟩
theorem look_nil (w : World) (k : ByteArray) : Calls Try.prog 25 #[.pointer none, .string k] w fun e w' => e = .returned (.tuple #[.int .i64 (0 : Int), .bool false]) ∧ Below w.heap.size w w' := by
  go_enter Try.func25, Try.ntmps25
  go_wp2_with (go_at_call 47; refine (find_nil _ _).mono ?_; rintro e w1 ⟨rfl, rfl⟩)
  go_ret2
  exact ⟨rfl, (Below.refl _ _).alloc (Nat.le_refl _) _⟩
theorem LrX.look_yes (h : LrX w p mst m b A B (entL L) M L T) {x : Nd} (hx : x ∈ L) : Calls Try.prog 25 #[.pointer (some ⟨p, 0, none⟩), .string x.k] w fun e w' => e = .returned (.tuple #[.int .i64 x.v, .bool true]) ∧ Below w.heap.size w w' := by
  have hf := Lib.hid (h.find_yes hx)
  have hl := h.nds x (List.mem_cons_of_mem _ (h.sub x hx))
  have c1 : w.cell? ⟨x.g, 1, none⟩ = some (.int .i64 x.v) := by rw [hl.cell 1]; simp [ndC]
  clear h hx hl
  go_enter Try.func25, Try.ntmps25
  go_wp2_with (go_at_call 47; refine hf.out.mono ?_; rintro e w1 ⟨rfl, rfl⟩)
  go_ret2
  exact ⟨rfl, Below.refl _ _⟩
theorem LrX.look_no (h : LrX w p mst m b A B (entL L) M L T) {k : ByteArray} (hk : k.size ≤ maxLen) (hn : ∀ x ∈ L, x.k ≠ k) : Calls Try.prog 25 #[.pointer (some ⟨p, 0, none⟩), .string k] w fun e w' => e = .returned (.tuple #[.int .i64 (0 : Int), .bool false]) ∧ Below w.heap.size w w' := by
  have hf := Lib.hid (h.find_no hk hn)
  clear h hn
  go_enter Try.func25, Try.ntmps25
  go_wp2_with (go_at_call 47; refine hf.out.mono ?_; rintro e w1 ⟨rfl, rfl⟩)
  go_ret2
  exact ⟨rfl, (Below.refl _ _).alloc (Nat.le_refl _) _⟩
theorem ring_not {x : Nd} (h : Rng A B b ((P ++ x :: Q).map (·.g))) : x.g ∉ b :: (P ++ Q).map (·.g) := by
  have h1 := h.nd
  rw [List.map_append, List.map_cons, List.nodup_cons, List.nodup_append, List.nodup_cons] at h1
  obtain ⟨n1, n2, ⟨n3, n4⟩, n5⟩ := h1
  simp only [List.mem_append, List.mem_cons, not_or, List.map_append] at n1 ⊢
  exact ⟨fun e => n1.2.1 e.symm, fun hp => n5 _ hp _ (by simp) rfl, n3⟩
theorem entL_perm (x : Nd) : (entL (P ++ x :: Q)).Perm (entL (x :: (P ++ Q))) := by
  unfold entL
  exact (List.perm_middle).map _
/-- A node of the list is first then. -/
theorem LrX.use (h : LrX w p mst m b A B (entL (P ++ x :: Q)) (P ++ x :: Q) (P ++ x :: Q) T) : Calls Try.prog 48 #[.pointer (some ⟨p, 0, none⟩), .pointer (some ⟨x.g, 0, none⟩)] w fun e w' => e = .returned (.tuple #[]) ∧ ∃ A' B', LrX w' p mst m b A' B' (entL (x :: (P ++ Q))) (x :: (P ++ Q)) (x :: (P ++ Q)) T ∧ Kl T T w w' := by
  have hl := Lib.hid h.leave
  have H := Lib.hid h
  clear h
  go_enter Try.func48, Try.ntmps48
  go_wp2_with (go_at_call 57; refine hl.out.mono ?_; rintro e w1 ⟨rfl, A1, B1, h1, k1⟩; obtain ⟨c0, c1, c2, c3⟩ := h1.cells; have H1 := Lib.hid h1; have K1 := Lib.hid k1; clear h1 k1)
  have hxM : x ∈ P ++ x :: Q := by simp
  refine (H1.out.enter (x := x) (H1.out.nds x (List.mem_cons_of_mem _ hxM)) (H1.out.tn x (List.mem_cons_of_mem _ hxM)) (H1.out.key x hxM) (ring_not H.out.ring) ⟨(H1.out.p_ne x (List.mem_cons_of_mem _ hxM)).symm, (H1.out.m_ne x (List.mem_cons_of_mem _ hxM)).symm⟩).mono ?_
  rintro e w2 ⟨rfl, A2, B2, h2, k2⟩
  have h3 := (h2.perm (entL_perm x)).fewer (M' := x :: (P ++ Q)) (fun u hu => List.mem_cons.2 ((List.mem_cons.1 hu).elim Or.inl fun hu => Or.inr (by simp only [List.mem_append, List.mem_cons] at hu ⊢; exact hu.elim Or.inl fun h => Or.inr (Or.inr h)))) (fun u hu => hu)
  have H3 := Lib.hid h3
  have K3 := Lib.hid (K1.out.trans k2)
  clear h2 k2 h3 c0 c1 c2 c3
  go_wp2
  go_end0
  exact ⟨rfl, A2, B2, H3.out, K3.out⟩
end
end Go.Proofs.Ytabhapohkohbmaa
