/-
  ranges.Free: how many places of a range are in none of the reserved ones: the region at its start. Conditions: as each theorem names them.
-/
import Derived.Test.YtpmlldgjbmingaaGreatDoorZk12
import Derived.Test.YtpmlldgjbmingaaGreatDoorZk10
import Derived.Test.YtpmlldgjbmingaaGreatDoorZk16
import Derived.Test.YtpmlldgjbmingaaGreatDoorZk17
namespace Go.Proofs.YtpmlldgjbmingaaGreatDoor
open Go.RowKit Go.Maps
set_option linter.unusedVariables false

def ppF (g : Nat) : Value := .pointer (some ⟨g, 0, none⟩)
/-- What each operation of the first region leaves behind. -/
def FT (sz Ln lo : Nat) (M : Ad → Nat) (v rV : Value) : Nat → Act → World → Prop
  | 0, a, _ => slot a 11 = rV
  | 1, a, _ => slot a 12 = .int .i64 (sz : Int)
  | 2, a, _ => slot a 13 = rV
  | 3, a, _ => slot a 14 = v
  | 4, a, w => ∃ b, slot a 15 = .map (some b) ∧ lo ≤ b ∧ MapA w b Ln M
  | 5, a, w => ∃ g u, slot a 5 = ppF g ∧ lo ≤ g ∧ Boxed w g 3 u
  | 6, a, w => ∃ g u, slot a 6 = ppF g ∧ lo ≤ g ∧ Boxed w g 100 u
  | 7, a, w => ∃ g, slot a 5 = ppF g ∧ lo ≤ g ∧ Boxed w g 3 (.int .i64 (sz : Int))
  | 8, a, w => ∃ g b, slot a 6 = ppF g ∧ lo ≤ g ∧ slot a 15 = .map (some b) ∧ Boxed w g 100 (.map (some b))
  | _, _, _ => True
/-- The slots that it speaks of. -/
def FS : Nat → List Nat
  | 0 => [11]
  | 1 => [12]
  | 2 => [13]
  | 3 => [14]
  | 4 => [15]
  | 5 => [5]
  | 6 => [6]
  | 7 => [5]
  | 8 => [6, 15]
  | _ => []
section
variable {sz Ln lo : Nat} {M : Ad → Nat} {v rV : Value} {j : Nat} {a : Act} {w w' : World}
theorem boxed_grow {g : Nat} {t : TypeId} {u : Value} (h : Boxed w g t u) (hb : Below w.heap.size w w') : Boxed w' g t u := (hb.block g h.lt).trans h
theorem FT.grow (h : FT sz Ln lo M v rV j a w) (hb : Below w.heap.size w w') : FT sz Ln lo M v rV j a w' := by
  unfold FT at *
  split at h
  · exact h
  · exact h
  · exact h
  · exact h
  · obtain ⟨b, h1, h2, h3⟩ := h; exact ⟨b, h1, h2, h3.next hb⟩
  · obtain ⟨g, u, h1, h2, h3⟩ := h; exact ⟨g, u, h1, h2, boxed_grow h3 hb⟩
  · obtain ⟨g, u, h1, h2, h3⟩ := h; exact ⟨g, u, h1, h2, boxed_grow h3 hb⟩
  · obtain ⟨g, h1, h2, h3⟩ := h; exact ⟨g, h1, h2, boxed_grow h3 hb⟩
  · obtain ⟨g, b, h1, h2, h3, h4⟩ := h; exact ⟨g, b, h1, h2, h3, boxed_grow h4 hb⟩
  · trivial
theorem FT.put (h : FT sz Ln lo M v rV j a w) {d : Nat} (hd : d ∉ FS j) (hs : d < a.tmps.size) (x : Value) : FT sz Ln lo M v rV j (a.put (some d) x) w := by
  have key : ∀ s, s ∈ FS j → slot (a.put (some d) x) s = slot a s := fun s h => by
    rw [slot_put hs]
    by_cases e : s = d
    · exact absurd (by rw [← e]; exact h) hd
    · rw [if_neg e]
  unfold FT at *
  split at h
  · exact (key 11 (by simp [FS])).trans h
  · exact (key 12 (by simp [FS])).trans h
  · exact (key 13 (by simp [FS])).trans h
  · exact (key 14 (by simp [FS])).trans h
  · obtain ⟨b, h1, h2, h3⟩ := h; exact ⟨b, (key 15 (by simp [FS])).trans h1, h2, h3⟩
  · obtain ⟨g, u, h1, h2, h3⟩ := h; exact ⟨g, u, (key 5 (by simp [FS])).trans h1, h2, h3⟩
  · obtain ⟨g, u, h1, h2, h3⟩ := h; exact ⟨g, u, (key 6 (by simp [FS])).trans h1, h2, h3⟩
  · obtain ⟨g, h1, h2, h3⟩ := h; exact ⟨g, (key 5 (by simp [FS])).trans h1, h2, h3⟩
  · obtain ⟨g, b, h1, h2, h3, h4⟩ := h; exact ⟨g, b, (key 6 (by simp [FS])).trans h1, h2, (key 15 (by simp [FS])).trans h3, h4⟩
  · trivial
theorem MapA.ne {b n g : Nat} {t : TypeId} {u : Value} (h : MapA w b n M) (hg : Boxed w g t u) : b ≠ g := by
  rintro rfl
  obtain ⟨D, ⟨es, clock, hb, _⟩, _⟩ := h
  have := (show w.heap[b]? = _ from hg).symm.trans hb
  cases this
theorem MapA.set {b n g : Nat} {t : TypeId} {u : Value} (h : MapA w b n M) (hg : Boxed w g t u) (x : Value) : MapA (w.setCell ⟨g, 0, none⟩ x) b n M :=
  h.same (Below.heap_setCell w ⟨g, 0, none⟩ x b (h.ne hg))
theorem boxed_ne {g g' : Nat} {t t' : TypeId} {u u' : Value} (h : Boxed w g t u) (h' : Boxed w g' t' u') (ht : t ≠ t') : g ≠ g' := by
  rintro rfl
  have := (show w.heap[g]? = _ from h).symm.trans h'
  injection this with this
  injection this with _ this
  exact ht this
/-- The store of the size. -/
theorem FT.set5 (h : FT sz Ln lo M v rV j a w) {g : Nat} {u : Value} (hs : slot a 5 = ppF g) (hg : Boxed w g 3 u) (hj : j ≠ 7) (x : Value) : FT sz Ln lo M v rV j a (w.setCell ⟨g, 0, none⟩ x) := by
  unfold FT at *
  split at h
  · exact h
  · exact h
  · exact h
  · exact h
  · obtain ⟨b, h1, h2, h3⟩ := h; exact ⟨b, h1, h2, h3.set hg x⟩
  · obtain ⟨g', u', h1, h2, h3⟩ := h
    rw [hs] at h1
    have e : g = g' := by unfold ppF at h1; simpa using h1
    subst e
    exact ⟨g, x, hs, h2, h3.set x⟩
  · obtain ⟨g', u', h1, h2, h3⟩ := h; exact ⟨g', u', h1, h2, h3.other (boxed_ne h3 hg (by decide)) x⟩
  · exact absurd rfl hj
  · obtain ⟨g', b, h1, h2, h3, h4⟩ := h; exact ⟨g', b, h1, h2, h3, h4.other (boxed_ne h4 hg (by decide)) x⟩
  · trivial
/-- The store of the map. -/
theorem FT.set6 (h : FT sz Ln lo M v rV j a w) {g : Nat} {u : Value} (hs : slot a 6 = ppF g) (hg : Boxed w g 100 u) (hj : j ≠ 8) (x : Value) : FT sz Ln lo M v rV j a (w.setCell ⟨g, 0, none⟩ x) := by
  unfold FT at *
  split at h
  · exact h
  · exact h
  · exact h
  · exact h
  · obtain ⟨b, h1, h2, h3⟩ := h; exact ⟨b, h1, h2, h3.set hg x⟩
  · obtain ⟨g', u', h1, h2, h3⟩ := h; exact ⟨g', u', h1, h2, h3.other (boxed_ne h3 hg (by decide)) x⟩
  · obtain ⟨g', u', h1, h2, h3⟩ := h
    rw [hs] at h1
    have e : g = g' := by unfold ppF at h1; simpa using h1
    subst e
    exact ⟨g, x, hs, h2, h3.set x⟩
  · obtain ⟨g', h1, h2, h3⟩ := h; exact ⟨g', h1, h2, h3.other (boxed_ne h3 hg (by decide)) x⟩
  · exact absurd rfl hj
  · trivial
end

def r1S : List Nat := [5, 6, 11, 12, 13, 14, 15]
section
variable {sz Ln lo : Nat} {M : Ad → Nat} {v rV : Value} {i : Nat} {a0 a : Act} {W1 wx w' : World} {D : Nat → Prop}
/-- Behind an operation that lays memory at most. -/
theorem r1_grow (hF : Frm a0 r1S a) (hs : a0.tmps.size = 37) (hbx : Below W1.heap.size W1 wx) (hT : ∀ j, D j → FT sz Ln lo M v rV j a wx) {d : Nat} (hd : d ∈ r1S) (hdj : ∀ j, D j → d ∉ FS j) (x : Value) (hb : Below wx.heap.size wx w') (hi : FT sz Ln lo M v rV i (a.put (some d) x) w') :
    (Frm a0 r1S (a.put (some d) x) ∧ Below W1.heap.size W1 w') ∧ FT sz Ln lo M v rV i (a.put (some d) x) w' ∧ ∀ j, D j → FT sz Ln lo M v rV j (a.put (some d) x) w' := by
  have hd37 : d < 37 := by
    unfold r1S at hd
    simp at hd
    omega
  exact ⟨⟨hF.put hd (by rw [hs]; exact hd37) x, hbx.trans (hb.mono hbx.size)⟩, hi, fun j hj => ((hT j hj).grow hb).put (hdj j hj) (by rw [hF.size, hs]; exact hd37) x⟩
theorem slot_self {d : Nat} (hF : Frm a0 r1S a) (hs : a0.tmps.size = 37) (hd : d < 37) (x : Value) : slot (a.put (some d) x) d = x := by
  rw [slot_put (by rw [hF.size, hs]; exact hd), if_pos rfl]
end

/-! ### The loop -/
def TF (g : Nat) (b : Nat) : Prop := b = g ∨ b = g + 1
def EF (g5 g6 b : Nat) (sz : Nat) (ob : Obj) : List (Nat × Obj) := [(g5, .cells #[.int .i64 (sz : Int)] 3), (g6, .cells #[.map (some b)] 100), (b, ob)]
/-- What Free's loop keeps: i addresses have come; where what is taken ends, how many are left. -/
structure FI (w : World) (g g5 g6 b sz : Nat) (ob : Obj) (m : Nat → Nat) (r : Ad) (pre : List (Nat × Ad)) (T : Nat → Prop) (W : World) : Prop where
  eT : T = TF g
  pfx : pre = behL r pre.length
  le : pre.length ≤ sz
  lt : pre.length = 0 ∨ endF m pre.length < sz
  cnt : Boxed W g 3 (.int .i64 (cntF m pre.length : Nat))
  fin : Boxed W (g + 1) 3 (.int .i64 (endF m pre.length : Nat))
  has : Has (EF g5 g6 b sz ob) (TF g) W
  bel : Below w.heap.size w W
/-- Where it is left. -/
structure FX (w : World) (g z : Nat) (c : Code) (W : World) : Prop where
  c0 : c = .exit 0
  cnt : Boxed W g 3 (.int .i64 (z : Int))
  bel : Below w.heap.size w W
section
variable {w W W' : World} {g g5 g6 b sz : Nat} {ob : Obj} {m : Nat → Nat} {r : Ad} {pre : List (Nat × Ad)} {T : Nat → Prop}
theorem fi_own (h5 : g5 < g) (h6 : g6 < g) (hb : b < g) (hw : w.heap.size ≤ g) (B' : Nat) (hB : g + 2 ≤ B') (T : Nat → Prop) : OwnFrom B' fun pre W => FI w g g5 g6 b sz ob m r pre T W := by
  rintro pre X Y row h hgr hr
  have key : ∀ k o, k < B' → X.heap[k]? = some o → Y.heap[k]? = some o := fun k o hk h => (hgr.block k (Array.getElem?_eq_some_iff.1 h).1 fun e => by have := (hr k e.symm).1; omega).trans h
  refine ⟨h.eT, h.pfx, h.le, h.lt, key _ _ (by omega) h.cnt, key _ _ (by omega) h.fin, fun p hp => ⟨key _ _ ?_ (h.has p hp).1, (h.has p hp).2⟩, ownFrom_below (β := Unit) (Nat.le_refl _) (show w.heap.size ≤ B' by omega) () X Y row h.bel hgr hr⟩
  simp only [EF, List.mem_cons, List.not_mem_nil, or_false] at hp
  rcases hp with rfl | rfl | rfl <;> dsimp only <;> omega
theorem fx_own (hw : w.heap.size ≤ g) (B' : Nat) (hB : g + 2 ≤ B') (z : Nat) (c : Code) : OwnFrom B' fun (_ : List (Nat × Ad)) W => FX w g z c W := by
  rintro pre X Y row h hgr hr
  have key : ∀ k o, k < B' → X.heap[k]? = some o → Y.heap[k]? = some o := fun k o hk h => (hgr.block k (Array.getElem?_eq_some_iff.1 h).1 fun e => by have := (hr k e.symm).1; omega).trans h
  exact ⟨h.c0, key _ _ (by omega) h.cnt, ownFrom_below (β := Unit) (Nat.le_refl _) (show w.heap.size ≤ B' by omega) () X Y row h.bel hgr hr⟩
theorem FI.fresh (h : FI w g g5 g6 b sz ob m r pre T W) : ∀ k, W.heap.size ≤ k → ¬ T k := by
  rw [h.eT]
  rintro k hk (rfl | rfl)
  · have := h.cnt.lt; omega
  · have := h.fin.lt; omega
/-- Another world in which the two boxes and the rest lie as they lay. -/
theorem FI.kept (h : FI w g g5 g6 b sz ob m r pre (TF g) W) (hb : Below W.heap.size W W') : FI w g g5 g6 b sz ob m r pre (TF g) W' :=
  ⟨rfl, h.pfx, h.le, h.lt, (hb.block g h.cnt.lt).trans h.cnt, (hb.block (g + 1) h.fin.lt).trans h.fin, h.has.kept (Kpt.below hb), h.bel.trans (hb.mono h.bel.size)⟩
end
section
variable {w W : World} {g g5 g6 b sz : Nat} {ob : Obj} {m : Nat → Nat} {r : Ad} {pre : List (Nat × Ad)}
theorem FI.step (h : FI w g g5 g6 b sz ob m r pre (TF g) W) (hw : w.heap.size ≤ g) (k : Nat) (hk : pre.length = k) (ad : Ad) (had : (addA r k).1 = ad) (e2 c2 : Nat) (he : endF m (k + 1) = e2) (hc : cntF m (k + 1) = c2) (hlt : e2 < sz) (W' : World)
    (hW : (c2 = cntF m k ∧ W' = (W.setCell ⟨g + 1, 0, none⟩ (.int .i64 (e2 : Int))).drew) ∨ W' = ((W.setCell ⟨g + 1, 0, none⟩ (.int .i64 (e2 : Int))).setCell ⟨g, 0, none⟩ (.int .i64 (c2 : Int))).drew) :
    FI w g g5 g6 b sz ob m r (pre ++ [(k, ad)]) (TF g) W' ∧ Kpt (TF g) (TF g) W W' := by
  have t0 : TF g g := .inl rfl
  have t1 : TF g (g + 1) := .inr rfl
  have hlen : (pre ++ [(k, ad)]).length = k + 1 := by rw [List.length_append, hk, List.length_singleton]
  have hpf := h.pfx
  rw [hk] at hpf
  have hge := endF_ge (m := m) k
  have hkp : Kpt (TF g) (TF g) W W' := by
    rcases hW with ⟨_, rfl⟩ | rfl
    · exact (Kpt.setCell (p := ⟨g + 1, 0, none⟩) t1 _).trans (Kpt.below ((Below.refl _ _).drew))
    · exact ((Kpt.setCell (p := ⟨g + 1, 0, none⟩) t1 _).trans (Kpt.setCell (p := ⟨g, 0, none⟩) t0 _)).trans (Kpt.below ((Below.refl _ _).drew))
  have hc0 := h.cnt
  rw [hk] at hc0
  refine ⟨⟨rfl, by rw [hlen, behL_succ, ← hpf, had], by rw [hlen]; omega, by rw [hlen, he]; exact .inr hlt, ?_, ?_, h.has.kept hkp, ?_⟩, hkp⟩
  · rw [hlen, hc]
    rcases hW with ⟨e, rfl⟩ | rfl
    · rw [e]
      exact boxed_drew (hc0.other (by omega) _)
    · exact boxed_drew ((hc0.other (B' := g + 1) (by omega) _).set _)
  · rw [hlen, he]
    rcases hW with ⟨e, rfl⟩ | rfl
    · exact boxed_drew (h.fin.set _)
    · exact boxed_drew ((h.fin.set _).other (by omega) _)
  · rcases hW with ⟨e, rfl⟩ | rfl
    · exact (h.bel.setCell (p := ⟨g + 1, 0, none⟩) (by dsimp only; omega) _).drew
    · exact ((h.bel.setCell (p := ⟨g + 1, 0, none⟩) (by dsimp only; omega) _).setCell (p := ⟨g, 0, none⟩) hw _).drew
end
theorem addA_fit (a : Ad) (n : Nat) : fitA (addA a n).1 := by
  unfold addA
  split
  · unfold fitA noA; decide
  · split
    · unfold fitA noA; decide
    · unfold fitA sumA
      exact ⟨Nat.mod_lt _ (by decide), Nat.mod_lt _ (by decide)⟩
end Go.Proofs.YtpmlldgjbmingaaGreatDoor
