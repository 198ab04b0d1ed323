/-
  A list as it lies; is it one that was made, its key's node, a node used, a node dropped. Conditions: as each theorem names them.
-/
import Derived.Test.YtabhapohkohbmaaLrA
namespace Go.Proofs.Ytabhapohkohbmaa
open Go.RowKit Go.Maps
set_option linter.unusedVariables false
set_option linter.unusedSimpArgs false

/-- A list's object, its map of the entries E, nodes M of which those of L are in the ring, in order. All lie in T. -/
structure LrX (w : World) (p mst m b : Nat) (A B : Nat → Nat) (E : List (Value × Value)) (M L : List Nd) (T : Nat → Prop) : Prop where
  obj : Lies w p 83 (lrC mst p m b)
  mp : MapE Try.prog 9 w m E
  nds : Nds w A B (bgn b :: M)
  ring : Rng A B b (L.map (·.g))
  sub : ∀ x ∈ L, x ∈ M
  tp : T p
  tm : T m
  tn : ∀ x ∈ bgn b :: M, T x.g
  tl : ∀ k, T k → k < w.heap.size
  key : ∀ x ∈ M, x.k.size ≤ maxLen
section
variable {w w' : World} {p mst m b : Nat} {A B : Nat → Nat} {E : List (Value × Value)} {M L : List Nd} {T : Nat → Prop}
theorem LrX.next (h : LrX w p mst m b A B E M L T) (hb : Below w.heap.size w w') : LrX w' p mst m b A B E M L T := ⟨h.obj.next hb, h.mp.next hb, h.nds.next hb, h.ring, h.sub, h.tp, h.tm, h.tn, fun k hk => Nat.lt_of_lt_of_le (h.tl k hk) hb.size, h.key⟩
theorem LrX.p_ne (h : LrX w p mst m b A B E M L T) : ∀ x ∈ bgn b :: M, p ≠ x.g := fun x hx => h.obj.ne (h.nds x hx) (by decide)
theorem LrX.m_ne (h : LrX w p mst m b A B E M L T) : ∀ x ∈ bgn b :: M, m ≠ x.g := fun x hx => (lies_ne_mapP (h.nds x hx) h.mp).symm
theorem LrX.p_m (h : LrX w p mst m b A B E M L T) : p ≠ m := lies_ne_mapP h.obj h.mp
/-- Another list, or what else lies elsewhere, stays. -/
theorem LrX.other (h : LrX w p mst m b A B E M L T) {S S' : Nat → Prop} (hk : Kl S S' w w') (hd : ∀ k, T k → ¬ S k) : LrX w' p mst m b A B E M L T :=
  ⟨hk.lies h.obj (hd _ h.tp), hk.map h.mp (hd _ h.tm), fun x hx => hk.lies (h.nds x hx) (hd _ (h.tn x hx)), h.ring, h.sub, h.tp, h.tm, h.tn, fun k hk' => Nat.lt_of_lt_of_le (h.tl k hk') hk.size, h.key⟩
theorem LrX.perm {E' : List (Value × Value)} (h : LrX w p mst m b A B E M L T) (hp : E.Perm E') : LrX w p mst m b A B E' M L T := ⟨h.obj, h.mp.perm hp, h.nds, h.ring, h.sub, h.tp, h.tm, h.tn, h.tl, h.key⟩
theorem LrX.fewer {M' : List Nd} (h : LrX w p mst m b A B E M L T) (hs : ∀ x ∈ M', x ∈ M) (hl : ∀ x ∈ L, x ∈ M') : LrX w p mst m b A B E M' L T :=
  ⟨h.obj, h.mp, fun x hx => h.nds x ((List.mem_cons.1 hx).elim (fun e => e ▸ List.mem_cons_self) fun hx => List.mem_cons_of_mem _ (hs x hx)), h.ring, hl, h.tp, h.tm, fun x hx => h.tn x ((List.mem_cons.1 hx).elim (fun e => e ▸ List.mem_cons_self) fun hx => List.mem_cons_of_mem _ (hs x hx)), h.tl, fun x hx => h.key x (hs x hx)⟩
theorem LrX.cells (h : LrX w p mst m b A B E M L T) : w.cell? ⟨p, 0, none⟩ = some (.int .i64 (mst : Int)) ∧ w.cell? ⟨p, 1, none⟩ = some (.map (some m)) ∧ w.cell? ⟨p, 2, none⟩ = some (.pointer (some ⟨b, 0, none⟩)) ∧ w.cell? ⟨p, 3, none⟩ = some (.pointer (some ⟨p, 0, none⟩)) :=
  ⟨h.obj.cell 0, h.obj.cell 1, h.obj.cell 2, h.obj.cell 3⟩
theorem kx_sub (h : LrX w p mst m b A B E M L T) : ∀ k, Kx (bgn b :: M) k → T k := by
  rintro k ⟨x, hx, rfl⟩
  exact h.tn x hx
/-- What turns the nodes alone leaves the rest of the list. -/
theorem LrX.turn {A' B' : Nat → Nat} {L' : List Nd} (h : LrX w p mst m b A B E M L T) (hk : Kl (Kx (bgn b :: M)) (Kx (bgn b :: M)) w w') (hn : Nds w' A' B' (bgn b :: M)) (hr : Rng A' B' b (L'.map (·.g))) (hs : ∀ x ∈ L', x ∈ M) : LrX w' p mst m b A' B' E M L' T :=
  ⟨hk.lies h.obj fun ⟨x, hx, e⟩ => h.p_ne x hx e.symm, hk.map h.mp fun ⟨x, hx, e⟩ => h.m_ne x hx e.symm, hn, hr, hs, h.tp, h.tm, h.tn, fun k hk' => Nat.lt_of_lt_of_le (h.tl k hk') hk.size, h.key⟩
theorem mem_ring (hs : ∀ x ∈ L, x ∈ M) {g : Nat} (hg : g ∈ b :: L.map (·.g)) : ∃ y ∈ bgn b :: M, y.g = g := by
  rcases List.mem_cons.1 hg with rfl | hg
  · exact ⟨bgn g, List.mem_cons_self, rfl⟩
  · obtain ⟨x, hx, e⟩ := List.mem_map.1 hg
    exact ⟨x, List.mem_cons_of_mem _ (hs x hx), e⟩
theorem LrX.leave {P Q : List Nd} {x : Nd} (h : LrX w p mst m b A B E M (P ++ x :: Q) T) :
    Calls Try.prog 57 #[.pointer (some ⟨x.g, 0, none⟩)] w fun e w' => e = .returned (.tuple #[]) ∧ ∃ A' B', LrX w' p mst m b A' B' E M (P ++ Q) T ∧ Kl T T w w' := by
  have hr := h.ring
  rw [List.map_append, List.map_cons] at hr
  obtain ⟨c1, c2⟩ := ch_split.1 hr.ch
  have hnd := hr.nd
  have hxM : x ∈ M := h.sub x (by simp)
  have ha := ch_ahead c1
  have hb := ch_behind c2
  rw [List.nodup_cons, List.nodup_append, List.nodup_cons] at hnd
  obtain ⟨n1, n2, ⟨n3, n4⟩, n5⟩ := hnd
  simp only [List.mem_append, List.mem_cons, not_or] at n1
  have hax : A x.g ≠ x.g := by
    intro e
    rw [e] at ha
    rcases List.mem_cons.1 ha with e | ha
    · exact n1.2.1 e.symm
    · exact n5 _ ha _ (by simp) rfl
  have hbx : B x.g ≠ x.g := by
    intro e
    rw [e] at hb
    simp only [List.mem_append, List.mem_singleton] at hb
    rcases hb with hb | e
    · exact n3 hb
    · exact n1.2.1 e.symm
  obtain ⟨y, hy, hyg⟩ := mem_ring (b := b) h.sub (g := A x.g) (by
    simp only [List.map_append, List.map_cons, List.mem_cons, List.mem_append] at ha ⊢
    exact ha.elim Or.inl fun h => Or.inr (Or.inl h))
  obtain ⟨z, hz, hzg⟩ := mem_ring (b := b) h.sub (g := B x.g) (by
    simp only [List.map_append, List.map_cons, List.mem_cons, List.mem_append, List.mem_singleton, List.not_mem_nil, or_false] at hb ⊢
    rcases hb with hb | hb
    · exact Or.inr (Or.inr (Or.inr hb))
    · exact Or.inl hb)
  refine (leave_any h.nds (List.mem_cons_of_mem _ hxM) hy hz hyg.symm hzg.symm (by rw [hyg]; exact hax) (by rw [hzg]; exact hbx)).mono ?_
  rintro e w' ⟨rfl, hN, hK⟩
  refine ⟨rfl, _, _, h.turn hK hN ?_ (fun u hu => h.sub u (by simp only [List.mem_append, List.mem_cons] at hu ⊢; exact hu.elim Or.inl fun h => Or.inr (Or.inr h))), hK.weak (kx_sub h)⟩
  rw [List.map_append]
  exact hr.leave
theorem LrX.enter {x : Nd} {a2 a3 : Value} (h : LrX w p mst m b A B E M L T) (hx : Lies w x.g 86 #[.string x.k, .int .i64 x.v, a2, a3]) (hT : T x.g) (hk : x.k.size ≤ maxLen) (hn : x.g ∉ b :: L.map (·.g)) (hm : x.g ≠ p ∧ x.g ≠ m) :
    Calls Try.prog 56 #[.pointer (some ⟨x.g, 0, none⟩), .pointer (some ⟨b, 0, none⟩)] w fun e w' => e = .returned (.tuple #[]) ∧ ∃ A' B', LrX w' p mst m b A' B' E (x :: M) (x :: L) T ∧ Kl T T w w' := by
  have hb := ch_behind h.ring.ch
  obtain ⟨z, hz, hzg⟩ := mem_ring (b := b) h.sub (g := B b) (by
    simp only [List.mem_append, List.mem_cons, List.not_mem_nil, or_false] at hb ⊢
    exact hb.symm)
  have hbx : (bgn b).g ≠ x.g := fun e => hn (by rw [← e]; exact List.mem_cons_self)
  have hzx : z.g ≠ x.g := by
    rw [hzg]
    intro e
    rw [e] at hb
    simp only [List.mem_append, List.mem_cons, List.not_mem_nil, or_false, not_or] at hb hn
    exact hb.elim hn.2 hn.1
  refine (enter_any h.nds hx List.mem_cons_self hz hzg.symm hbx hzx).mono ?_
  rintro e w' ⟨rfl, hN, hK⟩
  have hsub : ∀ k, Kx (x :: bgn b :: M) k → T k := by
    rintro k ⟨u, hu, rfl⟩
    rcases List.mem_cons.1 hu with rfl | hu
    · exact hT
    · exact h.tn u hu
  have hN' : Nds w' (upd (upd A x.g b) (B b) x.g) (upd (upd B x.g (B b)) b x.g) (bgn b :: x :: M) := fun u hu => hN u (by
    simp only [List.mem_cons] at hu ⊢
    rcases hu with hu | hu | hu
    · exact Or.inr (Or.inl hu)
    · exact Or.inl hu
    · exact Or.inr (Or.inr hu))
  refine ⟨rfl, _, _, ⟨hK.lies h.obj ?_, hK.map h.mp ?_, hN', h.ring.enter hn, ?_, h.tp, h.tm, ?_, fun k hk' => Nat.lt_of_lt_of_le (h.tl k hk') hK.size, ?_⟩, hK.weak hsub⟩
  · rintro ⟨u, hu, e⟩
    rcases List.mem_cons.1 hu with rfl | hu
    · exact hm.1 e
    · exact h.p_ne u hu e.symm
  · rintro ⟨u, hu, e⟩
    rcases List.mem_cons.1 hu with rfl | hu
    · exact hm.2 e
    · exact h.m_ne u hu e.symm
  · intro u hu
    rcases List.mem_cons.1 hu with rfl | hu
    · exact List.mem_cons_self
    · exact List.mem_cons_of_mem _ (h.sub u hu)
  · intro u hu
    rcases List.mem_cons.1 hu with rfl | hu
    · exact h.tn _ List.mem_cons_self
    · rcases List.mem_cons.1 hu with rfl | hu
      · exact hT
      · exact h.tn u (List.mem_cons_of_mem _ hu)
  · intro u hu
    rcases List.mem_cons.1 hu with rfl | hu
    · exact hk
    · exact h.key u hu
end
end Go.Proofs.Ytabhapohkohbmaa
