/-
  RangesFree's region that makes a row of its own, appends to it and asks: what each operation leaves behind. Conditions: as each theorem names them.
-/
import Derived.Test.YtpmlldgjbmingaaGreatDoorZk38
import Derived.Test.YtpmlldgjbmingaaGreatDoorZk40
namespace Go.Proofs.YtpmlldgjbmingaaGreatDoor
open Go.RowKit Go.Maps
set_option linter.unusedVariables false

def S17 (j : Nat) : Nat := if j = 7 then 13 else j + 56
def L17 : List Nat := [56, 57, 58, 59, 60, 61, 62, 13]
def T17 (rV v mV : Value) (x base : Nat) (L : List (Ad × Int)) (mo : Ad × Int) (j : Nat) (a : Act) (w : World) : Prop :=
  match j with
  | 0 => slot a 56 = rV
  | 1 => slot a 57 = v
  | 2 => ∃ u, slot a 58 = u ∧ (slot a 61 = undef → OwnG w base u L)
  | 3 => slot a 59 = mV
  | 4 => ∃ u, slot a 60 = u ∧ (slot a 61 = undef → RgRowN w u [mo])
  | 5 => ∃ u, slot a 61 = u ∧ OwnG w base u (L ++ [mo])
  | 6 => slot a 62 = .int .i64 (x : Int)
  | 7 => slot a 13 = .int .i64 (x : Int)
  | _ => True
section
variable {rV v mV : Value} {x base : Nat} {L : List (Ad × Int)} {mo : Ad × Int} {j d i : Nat} {a a0 : Act} {w w' W1 : World} {D : Nat → Prop}
theorem T17.keep (h : T17 rV v mV x base L mo j a w) (hb : Below w.heap.size w w') (hd : d ≠ S17 j) (h61 : d ≠ 61) (hs : d < a.tmps.size) (y : Value) : T17 rV v mV x base L mo j (a.put (some d) y) w' := by
  have e61 : slot (a.put (some d) y) 61 = slot a 61 := by rw [slot_put hs, if_neg (Ne.symm h61)]
  unfold T17 at h ⊢
  split at h
  · rw [slot_put hs, if_neg (show ¬ (56 = d) from fun e => hd e.symm)]; exact h
  · rw [slot_put hs, if_neg (show ¬ (57 = d) from fun e => hd e.symm)]; exact h
  · obtain ⟨u, e1, e2⟩ := h
    exact ⟨u, by rw [slot_put hs, if_neg (show ¬ (58 = d) from fun e => hd e.symm)]; exact e1, fun e => (e2 (by rw [← e61]; exact e)).next hb⟩
  · rw [slot_put hs, if_neg (show ¬ (59 = d) from fun e => hd e.symm)]; exact h
  · obtain ⟨u, e1, e2⟩ := h
    exact ⟨u, by rw [slot_put hs, if_neg (show ¬ (60 = d) from fun e => hd e.symm)]; exact e1, fun e => (e2 (by rw [← e61]; exact e)).next hb⟩
  · obtain ⟨u, e1, e2⟩ := h
    exact ⟨u, by rw [e61]; exact e1, e2.next hb⟩
  · rw [slot_put hs, if_neg (show ¬ (62 = d) from fun e => hd e.symm)]; exact h
  · rw [slot_put hs, if_neg (show ¬ (13 = d) from fun e => hd e.symm)]; exact h
  · trivial
theorem T17.at5 (h : T17 rV v mV x base L mo j a w) (hj : j < 5 ∨ 7 < j) (hs : 61 < a.tmps.size) {y : Value} (hy : y ≠ undef) : T17 rV v mV x base L mo j (a.put (some 61) y) w' := by
  have e61 : slot (a.put (some 61) y) 61 = y := by rw [slot_put hs, if_pos rfl]
  unfold T17 at h ⊢
  split at h
  · rw [slot_put hs, if_neg (by decide)]; exact h
  · rw [slot_put hs, if_neg (by decide)]; exact h
  · obtain ⟨u, e1, _⟩ := h
    exact ⟨u, by rw [slot_put hs, if_neg (by decide)]; exact e1, fun e => absurd (e61.symm.trans e) hy⟩
  · rw [slot_put hs, if_neg (by decide)]; exact h
  · obtain ⟨u, e1, _⟩ := h
    exact ⟨u, by rw [slot_put hs, if_neg (by decide)]; exact e1, fun e => absurd (e61.symm.trans e) hy⟩
  · omega
  · omega
  · omega
  · trivial
theorem S17_inj (hi : i < 8) (h : S17 i = S17 j) : i = j := by
  unfold S17 at h
  split at h <;> split at h <;> omega
theorem S17_mem (hi : i < 8) : S17 i ∈ L17 ∧ S17 i < 97 := by
  have : i = 0 ∨ i = 1 ∨ i = 2 ∨ i = 3 ∨ i = 4 ∨ i = 5 ∨ i = 6 ∨ i = 7 := by omega
  rcases this with rfl | rfl | rfl | rfl | rfl | rfl | rfl | rfl <;> decide
def B17 (a0 : Act) (W1 : World) (D : Nat → Prop) (a : Act) (w : World) : Prop := Frm a0 L17 a ∧ Below W1.heap.size W1 w ∧ (¬ D 5 → slot a 61 = undef)
theorem k17 (hB : B17 a0 W1 D a w) (hsz : a0.tmps.size = 97) (hT : ∀ j, D j → T17 rV v mV x base L mo j a w) (hi : i < 8) (hi5 : i ≠ 5) (hn : ¬ D i) (y : Value) (hb : Below w.heap.size w w') (hTi : T17 rV v mV x base L mo i (a.put (some (S17 i)) y) w') :
    B17 a0 W1 (fun j => D j ∨ j = i) (a.put (some (S17 i)) y) w' ∧ T17 rV v mV x base L mo i (a.put (some (S17 i)) y) w' ∧ ∀ j, D j → T17 rV v mV x base L mo j (a.put (some (S17 i)) y) w' := by
  have hs : a.tmps.size = 97 := hB.1.size.trans hsz
  have h61 : S17 i ≠ 61 := fun e => hi5 (S17_inj (j := 5) hi e)
  refine ⟨⟨hB.1.put (S17_mem hi).1 (by rw [hsz]; exact (S17_mem hi).2) y, hB.2.1.trans (hb.mono hB.2.1.size), fun h => ?_⟩, hTi, fun j hj => (hT j hj).keep hb (fun e => hn (by rw [S17_inj hi e]; exact hj)) h61 (by rw [hs]; exact (S17_mem hi).2) y⟩
  rw [slot_put (by rw [hs]; exact (S17_mem hi).2), if_neg (Ne.symm h61)]
  exact hB.2.2 fun h5 => h (.inl h5)
theorem k17_5 (hB : B17 a0 W1 D a w) (hsz : a0.tmps.size = 97) (hT : ∀ j, D j → T17 rV v mV x base L mo j a w) (hn : ∀ j, D j → j < 5 ∨ 7 < j) {y : Value} (hy : OwnG w' base y (L ++ [mo])) (hb : Below W1.heap.size W1 w') :
    B17 a0 W1 (fun j => D j ∨ j = 5) (a.put (some 61) y) w' ∧ T17 rV v mV x base L mo 5 (a.put (some 61) y) w' ∧ ∀ j, D j → T17 rV v mV x base L mo j (a.put (some 61) y) w' := by
  have hs : a.tmps.size = 97 := hB.1.size.trans hsz
  have hyu : y ≠ undef := by
    rcases hy.2 with ⟨rfl, _⟩ | ⟨g, cap, cur, rfl, _⟩ <;> simp [undef]
  exact ⟨⟨hB.1.put (by decide) (by rw [hsz]; decide) y, hb, fun h => absurd (.inr rfl) h⟩, ⟨y, by rw [slot_put (by rw [hs]; decide), if_pos rfl], hy⟩, fun j hj => (hT j hj).at5 (hn j hj) (by rw [hs]; decide) hyu⟩
/-- The rest of a drawn region behind its first k operations: each leaves behind what V says of its slot. -/
theorem tl_inv {P : Program} {Q : Exit → Act → World → Prop} {l : List Oper} (k N sz : Nat) (S : Nat → Nat) (SL : List Nat) (V : Nat → Value → World → Prop) (hlen : l.length = N) (hk : k ≤ N) (hb : backB 0 l = true) (hsz : a0.tmps.size = sz) (hmem : ∀ i, k ≤ i → i < N → S i ∈ SL ∧ S i < sz) (hinj : ∀ i j, S i = S j → i = j)
    (hgrow : ∀ j v w w', V j v w → Below w.heap.size w w' → V j v w')
    (step : ∀ (i : Nat) (o : Oper) (a : Act) (w : World) (K : Act → World → Prop), l[i]? = some o → k ≤ i → i < N → Frm a0 SL a → Below W1.heap.size W1 w →
      (∀ e ∈ o.after, Region.binds .any e = true → k ≤ e.on → V e.on (slot a (S e.on)) w) → a.tmps.size = sz → (∀ v w', Below w.heap.size w w' → V i v w' → K (a.put (some (S i)) v) w') → wpOp P l.toArray Q i K a w)
    (fin : ∀ a w, Frm a0 SL a → Below W1.heap.size W1 w → (∀ j, k ≤ j → j < N → V j (slot a (S j)) w) → a.tmps.size = sz → Q .normal a w) : RegAt P l Q k a0 W1 := by
  refine at_inv k (by omega) hb (fun _ a w' => Frm a0 SL a ∧ Below W1.heap.size W1 w') (fun j a w => k ≤ j → j < N → V j (slot a (S j)) w) ⟨Frm.refl _ _, Below.refl _ _⟩ (fun j hj h => by omega) ?_ ?_
  · intro f i o a w D ho hf hn hD hdep hcl hB hT
    have hi : k ≤ i := Nat.le_of_not_lt fun h => hn (hD i h)
    have hi2 : i < N := by rw [← hlen]; exact (List.getElem?_eq_some_iff.1 ho).1
    have hs : a.tmps.size = sz := hB.1.size.trans hsz
    refine step i o a w _ ho hi hi2 hB.1 hB.2 (fun e he hbd hke => hT _ (hdep e he hbd) hke ?_) hs ?_
    · have := backB_spec l 0 hb i o ho e he
      omega
    · intro v w' hbw hv
      refine ⟨⟨hB.1.put (hmem i hi hi2).1 (by rw [hsz]; exact (hmem i hi hi2).2) v, hB.2.trans (hbw.mono hB.2.size)⟩, fun _ _ => ?_, fun j hj h1 h2 => ?_⟩
      · rw [slot_put (by rw [hs]; exact (hmem i hi hi2).2), if_pos rfl]
        exact hv
      · rw [slot_put (by rw [hs]; exact (hmem i hi hi2).2), if_neg (fun e => hn (by rw [← hinj _ _ e]; exact hj))]
        exact hgrow _ _ _ _ (hT j hj h1 h2) hbw
  · intro a w hB hT
    exact fin a w hB.1 hB.2 (fun j h1 h2 => hT j (by omega) h1 h2) (hB.1.size.trans hsz)
theorem reg17 {P : Program} {Q : Exit → Act → World → Prop} {l : List Oper} (rV v mV : Value) (x : Nat) (L : List (Ad × Int)) (mo : Ad × Int) (hlen : l.length = 8) (hb : backB 0 l = true) (hsz : a0.tmps.size = 97) (h61 : slot a0 61 = undef)
    (h65 : ∃ o, l[6]? = some o ∧ ∃ e ∈ o.after, Region.binds .any e = true ∧ e.on = 5) (h76 : ∃ o, l[7]? = some o ∧ ∃ e ∈ o.after, Region.binds .any e = true ∧ e.on = 6)
    (step : ∀ (i : Nat) (o : Oper) (a : Act) (w : World) (D : Nat → Prop) (K : Act → World → Prop), l[i]? = some o → i < 8 → (∀ e ∈ o.after, Region.binds .any e = true → D e.on) → Frm a0 L17 a → Below W1.heap.size W1 w → (i = 5 → slot a 61 = undef) → a.tmps.size = 97 → (∀ j, D j → T17 rV v mV x W1.heap.size L mo j a w) →
      (∀ y w', i ≠ 5 → Below w.heap.size w w' → T17 rV v mV x W1.heap.size L mo i (a.put (some (S17 i)) y) w' → K (a.put (some (S17 i)) y) w') → (∀ y w', i = 5 → OwnG w' W1.heap.size y (L ++ [mo]) → Below W1.heap.size W1 w' → K (a.put (some 61) y) w') → wpOp P l.toArray Q i K a w)
    (fin : ∀ a w, Frm a0 L17 a → Below W1.heap.size W1 w → (∀ j, j < 8 → T17 rV v mV x W1.heap.size L mo j a w) → Q .normal a w) : RegAt P l Q 0 a0 W1 := by
  refine at_invD hb (fun _ D a w => B17 a0 W1 D a w) (T17 rV v mV x W1.heap.size L mo) ⟨Frm.refl _ _, Below.refl _ _, fun _ => h61⟩ ?_ (fun a w D hB hT => fin a w hB.1 hB.2.1 fun j hj => hT j (by omega))
  intro f i o a w D ho hf hn hdep hcl hB hT
  have hi : i < 8 := by rw [← hlen]; exact (List.getElem?_eq_some_iff.1 ho).1
  refine step i o a w D _ ho hi hdep hB.1 hB.2.1 (fun e => hB.2.2 (by rw [← e]; exact hn)) (hB.1.size.trans hsz) hT (fun y w' h5 hbw hTi => k17 hB hsz hT hi h5 hn y hbw hTi) (fun y w' h5 hy hbw => ?_)
  subst h5
  refine k17_5 hB hsz hT (fun j hj => ?_) hy hbw
  have n6 : ¬ D 6 := fun h6 => by
    obtain ⟨o6, e1, e, e2, e3, e4⟩ := h65
    exact hn (by rw [← e4]; exact hcl 6 o6 e1 h6 e e2 e3)
  have n7 : ¬ D 7 := fun h7 => by
    obtain ⟨o7, e1, e, e2, e3, e4⟩ := h76
    exact n6 (by rw [← e4]; exact hcl 7 o7 e1 h7 e e2 e3)
  have : j ≠ 5 := fun e => hn (by rw [← e]; exact hj)
  have : j ≠ 6 := fun e => n6 (by rw [← e]; exact hj)
  have : j ≠ 7 := fun e => n7 (by rw [← e]; exact hj)
  omega
end
end Go.Proofs.YtpmlldgjbmingaaGreatDoor
