/-
  HashProbes: what its first loop keeps. No condition.
-/
import Derived.Test.YtmjhofgcfolelaaHsC
namespace Go.Proofs.Ytmjhofgcfolelaa
open Go.RowKit
set_option linter.unusedVariables false

theorem mem_upto {a x : Int} {n : Nat} : x ∈ upto a n ↔ a ≤ x ∧ x < a + n := by
  unfold upto
  rw [List.mem_map]
  constructor
  · rintro ⟨i, hi, rfl⟩
    have := List.mem_range.1 hi
    omega
  · intro h
    exact ⟨(x - a).toNat, List.mem_range.2 (by omega), by omega⟩
theorem upto_nodup (a : Int) (n : Nat) : (upto a n).Nodup := by
  unfold upto
  refine List.Pairwise.map _ (fun i j (h : i ≠ j) => ?_) List.nodup_range
  omega
theorem rnd_nodup {a b : Int} (h0 : 0 ≤ a) : (rnd a b).Nodup := by
  unfold rnd
  rw [List.nodup_append]
  refine ⟨upto_nodup _ _, upto_nodup _ _, fun x hx y hy => ?_⟩
  have h1 := mem_upto.1 hx
  have h2 := mem_upto.1 hy
  omega
theorem rnd_new {a b : Int} (h0 : 0 ≤ a) {pre : List Int} {x : Int} (h : pre ++ [x] <+: rnd a b) : x ∉ pre := by
  have h1 : (pre ++ [x]).Nodup := (rnd_nodup h0 (b := b)).sublist h.sublist
  rw [List.nodup_append] at h1
  intro hx
  exact h1.2.2 x hx x (by simp) rfl

/-- The marks of those that have come. -/
def marks (m : Nat) (pre : List Int) : List Value := (List.range m).map fun (j : Nat) => Value.bool (decide ((j : Int) ∈ pre))
theorem marks_at {m : Nat} {pre : List Int} {j : Nat} (h : j < m) : (marks m pre)[j]? = some (.bool (decide ((j : Int) ∈ pre))) := by
  unfold marks
  rw [List.getElem?_map, List.getElem?_range h]
  rfl
theorem marks_nil (m : Nat) : List.replicate m (Value.bool false) = marks m [] := by
  unfold marks
  simp [List.map_const']
theorem marks_set {m : Nat} {pre : List Int} {j : Nat} (h : j < m) : (marks m pre).set j (.bool true) = marks m (pre ++ [(j : Int)]) := by
  apply List.ext_getElem?
  intro i
  by_cases hi : i < m
  · rw [marks_at hi, List.getElem?_set]
    by_cases hij : j = i
    · subst hij
      rw [if_pos rfl, if_pos (by unfold marks; simpa using hi)]
      simp
    · rw [if_neg hij, marks_at hi]
      have : ((i : Int) ∈ pre ++ [(j : Int)]) ↔ (i : Int) ∈ pre := by simp; omega
      simp only [this]
  · rw [List.getElem?_eq_none (by unfold marks; simp; omega), List.getElem?_eq_none (by unfold marks; simp; omega)]

def T1 (G b : Nat) : Prop := b = G ∨ b = G + 2 ∨ b = G + 3 ∨ b = G + 4
def E1 (B G g m : Nat) (s e : Int) : List (Nat × Obj) :=
  [(B, .cells #[.int .i64 (m : Int)] 3), (B + 1, .cells #[.int .i64 e] 3), (B + 2, .cells #[.bool false] 4), (G + 1, .cells #[.slice (some ⟨G, 0, none⟩) m m] 36), (g, .cells #[.int .i64 s] 3), (g + 1, .cells #[.int .i64 (m : Int)] 3)]
def fstP (s : Int) (k : Nat) : Int := if k = 0 then -1 else s
def lstP (s : Int) (m k : Nat) : Int := if k = 0 then -1 else (s + ((k - 1 : Nat) : Int)) % m
structure PI (w : World) (G g m : Nat) (s e : Int) (pre : List Int) (T : Nat → Prop) (W : World) : Prop where
  eT : T = T1 G
  pfx : pre <+: rnd s m
  row : ∃ C, W.heap[G]? = some (.cells C 4) ∧ C.toList = marks m pre
  fst : Boxed W (G + 2) 3 (.int .i64 (fstP s pre.length))
  cnt : Boxed W (G + 3) 3 (.int .i64 (pre.length : Int))
  lst : Boxed W (G + 4) 3 (.int .i64 (lstP s m pre.length))
  has : Has (E1 w.heap.size G g m s e) (T1 G) W
  bel : Below w.heap.size w W
section
variable {w W : World} {G g m : Nat} {s e : Int} {pre : List Int} {T : Nat → Prop}
theorem pi_own (hG : w.heap.size ≤ G) (hg : g + 1 < G) (hgB : w.heap.size + 3 ≤ g) (B' : Nat) (hB : G + 5 ≤ B') (T : Nat → Prop) : OwnFrom B' fun pre W => PI w G g m s e pre T W := by
  rintro pre X Y row h hgr hr
  have key : ∀ k o, k < B' → X.heap[k]? = some o → Y.heap[k]? = some o := fun k o hk h => (hgr.block k (Array.getElem?_eq_some_iff.1 h).1 fun e => by have := (hr k e.symm).1; omega).trans h
  obtain ⟨C, hC, hm⟩ := h.row
  refine ⟨h.eT, h.pfx, ⟨C, key _ _ (by omega) hC, hm⟩, key _ _ (by omega) h.fst, key _ _ (by omega) h.cnt, key _ _ (by omega) h.lst, fun p hp => ⟨key _ _ ?_ (h.has p hp).1, (h.has p hp).2⟩, ownFrom_below (β := Unit) (Nat.le_refl _) (show w.heap.size ≤ B' by omega) () X Y row h.bel hgr hr⟩
  simp only [E1, List.mem_cons, List.not_mem_nil, or_false] at hp
  rcases hp with rfl | rfl | rfl | rfl | rfl | rfl <;> dsimp only <;> omega
theorem PI.fresh (h : PI w G g m s e pre T W) : ∀ b, W.heap.size ≤ b → ¬ T b := by
  rw [h.eT]
  rintro b hb (rfl | rfl | rfl | rfl)
  · obtain ⟨C, hC, _⟩ := h.row
    have := (Array.getElem?_eq_some_iff.1 hC).1
    omega
  · have := h.fst.lt; omega
  · have := h.cnt.lt; omega
  · have := h.lst.lt; omega
theorem PI.step (h : PI w G g m s e pre T W) (hG : w.heap.size ≤ G) {x : Nat} (hx : x < m) (hp : pre ++ [(x : Int)] <+: rnd s m) (he : (x : Int) = (s + (pre.length : Int)) % m) (W1 : World)
    (h1 : (pre.length = 0 ∧ (x : Int) = s ∧ W1 = W.setCell ⟨G + 2, 0, none⟩ (.int .i64 (x : Int))) ∨ (pre.length ≠ 0 ∧ W1 = W)) :
    PI w G g m s e (pre ++ [(x : Int)]) (T1 G) (((W1.setCell ⟨G, x, none⟩ (.bool true)).setCell ⟨G + 4, 0, none⟩ (.int .i64 (x : Int))).setCell ⟨G + 3, 0, none⟩ (.int .i64 ((pre.length : Int) + 1))) ∧
      Kpt (T1 G) (T1 G) W (((W1.setCell ⟨G, x, none⟩ (.bool true)).setCell ⟨G + 4, 0, none⟩ (.int .i64 (x : Int))).setCell ⟨G + 3, 0, none⟩ (.int .i64 ((pre.length : Int) + 1))) := by
  have t0 : T1 G G := .inl rfl
  have t2 : T1 G (G + 2) := .inr (.inl rfl)
  have t3 : T1 G (G + 3) := .inr (.inr (.inl rfl))
  have t4 : T1 G (G + 4) := .inr (.inr (.inr rfl))
  have k1 : Kpt (T1 G) (T1 G) W W1 := by
    rcases h1 with ⟨_, _, rfl⟩ | ⟨_, rfl⟩
    · exact Kpt.setCell (p := ⟨G + 2, 0, none⟩) t2 _
    · exact Kpt.refl _ _
  have hk : Kpt (T1 G) (T1 G) W (((W1.setCell ⟨G, x, none⟩ (.bool true)).setCell ⟨G + 4, 0, none⟩ (.int .i64 (x : Int))).setCell ⟨G + 3, 0, none⟩ (.int .i64 ((pre.length : Int) + 1))) :=
    ((k1.trans (Kpt.setCell (p := ⟨G, x, none⟩) t0 _)).trans (Kpt.setCell (p := ⟨G + 4, 0, none⟩) t4 _)).trans (Kpt.setCell (p := ⟨G + 3, 0, none⟩) t3 _)
  have hf1 : Boxed W1 (G + 2) 3 (.int .i64 s) := by
    rcases h1 with ⟨_, hs, rfl⟩ | ⟨hne, rfl⟩
    · have := h.fst.set (.int .i64 (x : Int))
      rw [hs] at this
      rw [hs]
      exact this
    · have := h.fst
      unfold fstP at this
      rw [if_neg hne] at this
      exact this
  have hc1 : Boxed W1 (G + 3) 3 (.int .i64 (pre.length : Int)) := by
    rcases h1 with ⟨_, _, rfl⟩ | ⟨_, rfl⟩
    · exact h.cnt.other (by omega) _
    · exact h.cnt
  have hl1 : Boxed W1 (G + 4) 3 (.int .i64 (lstP s m pre.length)) := by
    rcases h1 with ⟨_, _, rfl⟩ | ⟨_, rfl⟩
    · exact h.lst.other (by omega) _
    · exact h.lst
  obtain ⟨C, hC0, hm⟩ := h.row
  have hC : W1.heap[G]? = some (.cells C 4) := by
    rcases h1 with ⟨_, _, rfl⟩ | ⟨_, rfl⟩
    · exact (Below.heap_setCell W ⟨G + 2, 0, none⟩ _ G (by simp)).trans hC0
    · exact hC0
  have hb1 : Below w.heap.size w W1 := by
    rcases h1 with ⟨_, _, rfl⟩ | ⟨_, rfl⟩
    · exact h.bel.setCell (p := ⟨G + 2, 0, none⟩) (by simp; omega) _
    · exact h.bel
  have hlen : (pre ++ [(x : Int)]).length = pre.length + 1 := by simp
  refine ⟨⟨rfl, hp, ⟨C.setIfInBounds x (.bool true), ?_, ?_⟩, ?_, ?_, ?_, h.has.kept hk, ?_⟩, hk⟩
  · refine (Below.heap_setCell _ ⟨G + 3, 0, none⟩ _ G (by simp)).trans ((Below.heap_setCell _ ⟨G + 4, 0, none⟩ _ G (by simp)).trans ?_)
    exact heap_setCell_same W1 G x C _ _ hC
  · rw [Array.toList_setIfInBounds, hm, marks_set hx]
  · rw [hlen]
    have e : fstP s (pre.length + 1) = s := if_neg (Nat.succ_ne_zero _)
    rw [e]
    refine Boxed.other (Boxed.other ?_ (by omega) _) (by omega) _
    exact (Below.heap_setCell _ ⟨G, x, none⟩ _ (G + 2) (by simp)).trans hf1
  · rw [hlen, Int.natCast_add, Int.natCast_one]
    have h3 : Boxed ((W1.setCell ⟨G, x, none⟩ (.bool true)).setCell ⟨G + 4, 0, none⟩ (.int .i64 (x : Int))) (G + 3) 3 (.int .i64 (pre.length : Int)) :=
      Boxed.other ((Below.heap_setCell _ ⟨G, x, none⟩ _ (G + 3) (by simp)).trans hc1) (by omega) _
    exact h3.set _
  · rw [hlen]
    have e : lstP s m (pre.length + 1) = (x : Int) := by
      unfold lstP
      rw [if_neg (Nat.succ_ne_zero _), Nat.add_sub_cancel, he]
    rw [e]
    have h4 : Boxed (W1.setCell ⟨G, x, none⟩ (.bool true)) (G + 4) 3 (.int .i64 (lstP s m pre.length)) := (Below.heap_setCell _ ⟨G, x, none⟩ _ (G + 4) (by simp)).trans hl1
    exact (h4.set (.int .i64 (x : Int))).other (by omega) _
  · exact ((hb1.setCell (p := ⟨G, x, none⟩) hG _).setCell (p := ⟨G + 4, 0, none⟩) (by simp; omega) _).setCell (p := ⟨G + 3, 0, none⟩) (by simp; omega) _
end
end Go.Proofs.Ytmjhofgcfolelaa
