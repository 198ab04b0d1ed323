/-
  What was written is read: plain mathematics of acts, and a row of acts that the call owns. No condition beyond those that each theorem names.
-/
import Derived.Test.YthdkceodoflnkaaOcAct
import Derived.Test.YthdkceodoflnkaaOcTwo
namespace Go.Proofs.Ythdkceodoflnkaa
open Go.RowKit
set_option linter.unusedVariables false

/-- The octets that an act writes. -/
def piece (x : Ac) : List UInt8 := if x.kind = 0 then octs x.v x.n.toNat else bs x.s
def flat (D : List Ac) : List UInt8 := D.flatMap piece
theorem flat_snoc (D : List Ac) (x : Ac) : flat (D ++ [x]) = flat D ++ piece x := by simp [flat]
theorem flat_append (D E : List Ac) : flat (D ++ E) = flat D ++ flat E := by simp [flat]
theorem flat_cons (x : Ac) (D : List Ac) : flat (x :: D) = piece x ++ flat D := by simp [flat]
/-- An act that was done. -/
structure Done (x : Ac) : Prop where
  kind : x.kind = 0 ∨ x.kind = 1
  num : x.kind = 0 → room x.v x.n = true
  s : x.s.size ≤ 60
  v : x.v < 4294967296
theorem flat_at (D : List Ac) (k : Nat) (h : k < D.length) : (flat D).drop (flat (D.take k)).length = piece D[k] ++ flat (D.drop (k + 1)) := by
  have e : flat D = flat (D.take k) ++ (piece D[k] ++ flat (D.drop (k + 1))) := by
    rw [← flat_cons, ← flat_append, ← List.drop_eq_getElem_cons h, List.take_append_drop]
  rw [e]
  exact List.drop_left
theorem flat_next (D : List Ac) (k : Nat) (h : k < D.length) : (flat (D.take (k + 1))).length = (flat (D.take k)).length + (piece D[k]).length := by
  rw [List.take_succ_eq_append_getElem h, flat_snoc, List.length_append]
theorem flat_le (D : List Ac) (k : Nat) : (flat (D.take k)).length ≤ (flat D).length := by
  have e : flat D = flat (D.take k) ++ flat (D.drop k) := by rw [← flat_append, List.take_append_drop]
  rw [e, List.length_append]
  omega
/-- An act's four cells. -/
def cells4 (x : Ac) : List Value := [.int .i64 x.kind, .int .i64 x.n, .int .u32 x.v, .string x.s]
def acells (D : List Ac) : List Value := D.flatMap cells4
theorem acells_snoc (D : List Ac) (x : Ac) : acells (D ++ [x]) = acells D ++ cells4 x := by simp [acells]
theorem acells_length (D : List Ac) : (acells D).length = D.length * 4 := by
  induction D with
  | nil => rfl
  | cons x D ih =>
    have e : acells (x :: D) = cells4 x ++ acells D := by simp [acells]
    rw [e, List.length_append, ih, List.length_cons]
    simp [cells4]
    omega
theorem acells_at (D : List Ac) (j i : Nat) (h : j < D.length) (hi : i < 4) : (acells D)[j * 4 + i]? = (cells4 D[j])[i]? := by
  have e : acells D = acells (D.take j) ++ (cells4 D[j] ++ acells (D.drop (j + 1))) := by
    have e1 : ∀ x E, acells (x :: E) = cells4 x ++ acells E := fun x E => by simp [acells]
    have e2 : ∀ X Y, acells (X ++ Y) = acells X ++ acells Y := fun X Y => by simp [acells]
    rw [← e1, ← e2, ← List.drop_eq_getElem_cons h, List.take_append_drop]
  have hl : (acells (D.take j)).length = j * 4 := by rw [acells_length, List.length_take]; congr 1; omega
  rw [e, List.getElem?_append_right (by omega), hl, List.getElem?_append_left (by simp [cells4]; omega)]
  congr 1
  omega

theorem infoAct : (Try.prog.info? 46).map (fun i => (i.zero, i.size, i.bytes)) = some (some (.agg #[.int .i64 0, .int .i64 0, .int .u32 0, .string ⟨#[]⟩]), 4, 40) := by kernel_rfl

/-- The call owns the acts D. -/
def OwnA (w : World) (base : Nat) (v : Value) (D : List Ac) : Prop := w.ownsRow base 46 4 v D.length (acells D)
theorem OwnA.none_ (w : World) (base : Nat) : OwnA w base (.slice none 0 0) [] := World.ownsRow_nil w base _ 4
theorem OwnA.cases {w : World} {base : Nat} {v : Value} {D : List Ac} (h : OwnA w base v D) : (v = .slice none 0 0 ∧ D = []) ∨ ∃ g cap cur, v = .slice (some ⟨g, 0, none⟩) D.length cap ∧ base ≤ g ∧ Lies w g 46 cur ∧ D.length ≤ cap ∧ cap ≤ maxLen := by
  rcases h.2 with ⟨rfl, hn⟩ | ⟨g, cap, cur, rfl, hb, hg, hnc, hcm, _⟩
  · exact .inl ⟨rfl, List.eq_nil_of_length_eq_zero hn⟩
  · exact .inr ⟨g, cap, cur, rfl, hb, hg, hnc, hcm⟩
theorem OwnA.shape {w : World} {base : Nat} {v : Value} {D : List Ac} (h : OwnA w base v D) : ∃ A cap, v = .slice A D.length cap ∧ D.length ≤ cap ∧ cap ≤ maxLen := by
  rcases h.cases with ⟨rfl, rfl⟩ | ⟨g, cap, cur, rfl, _, _, h1, h2⟩
  · exact ⟨none, 0, rfl, Nat.le_refl _, Nat.zero_le _⟩
  · exact ⟨_, cap, rfl, h1, h2⟩
theorem OwnA.grown {w w' : World} {base : Nat} {v : Value} {D : List Ac} {row : Option Nat} (h : OwnA w base v D) (hg : w.grownBy w' row) (hne : v.ownBlock = none ∨ v.ownBlock ≠ row) : OwnA w' base v D := World.ownsRow.kept h hg hne
theorem OwnA.next {w w' : World} {base : Nat} {v : Value} {D : List Ac} (h : OwnA w base v D) (hb : Below w.heap.size w w') : OwnA w' base v D :=
  h.grown (row := none) (below_to_grown hb) (by cases v.ownBlock <;> simp)
theorem OwnA.block {w : World} {base : Nat} {v : Value} {D : List Ac} (h : OwnA w base v D) {k : Nat} (hk : v.ownBlock = some k) : base ≤ k ∧ ∃ cur, Lies w k 46 cur := by
  rcases h.cases with ⟨rfl, rfl⟩ | ⟨g, cap, cur, rfl, h0, hL, _, _⟩
  · cases hk
  · obtain rfl : g = k := by simpa [Value.ownBlock] using hk
    exact ⟨h0, cur, hL⟩
/-- What a writer does leaves the acts. -/
theorem OwnA.write {w w' : World} {base base' g M f : Nat} {v : Value} {D : List Ac} {l : List UInt8} (h : OwnA w base v D) (hk : Kp base' g w w') (hW : WR w base' g M l f) : OwnA w' base v D := by
  rcases h.2 with ⟨rfl, hn⟩ | ⟨b, cap, cur, rfl, hb, hg, hr⟩
  · exact ⟨h.1, .inl ⟨rfl, hn⟩⟩
  · refine ⟨h.1, .inr ⟨b, cap, cur, rfl, hb, ?_, hr⟩⟩
    obtain ⟨v2, hL2, _⟩ := hW
    exact hk.lies ⟨v2, hL2, ‹_›⟩ hg (Lies.ne hg hL2 (by decide)) (by decide)
/-- What is put behind the acts leaves the writer. -/
theorem WR.acts {w w' : World} {base base' g M f : Nat} {v : Value} {D : List Ac} {l : List UInt8} (hW : WR w base' g M l f) (h : OwnA w base v D) (hg : w.grownBy w' v.ownBlock) : WR w' base' g M l f := by
  cases hv : v.ownBlock with
  | none =>
    rw [hv] at hg
    obtain ⟨u, hG, hown⟩ := hW
    exact ⟨u, hG.grown hg (by simp), hown.grown hg (by cases u.ownBlock <;> simp)⟩
  | some k =>
    rw [hv] at hg
    obtain ⟨_, cur, hL⟩ := h.block hv
    obtain ⟨u, hG, hown⟩ := hW
    exact WR.grown ⟨u, hG, hown⟩ hg hL (Lies.ne hL hG (by decide)) (by decide)
theorem OwnA.below {B : Nat} {w w' : World} {base : Nat} {v : Value} {D : List Ac} (h : OwnA w base v D) (hg : w.grownBy w' v.ownBlock) (hB : B ≤ base) (hs : base ≤ w.heap.size) : Below B w w' :=
  (Below.refl B w).grown hg (by omega) fun k hk => by have := (h.block hk).1; omega
/-- An act of those that the call owns. -/
theorem OwnA.at {w : World} {base : Nat} {v : Value} {D : List Ac} (h : OwnA w base v D) (j : Nat) (hj : j < D.length) : ∃ g cap, v = .slice (some ⟨g, 0, none⟩) D.length cap ∧ AcAt w g (0 + j * 4) D[j] := by
  rcases h.cases with ⟨rfl, rfl⟩ | ⟨g, cap, cur, rfl, _, hL, _, _⟩
  · simp at hj
  · refine ⟨g, cap, rfl, ?_⟩
    have get : ∀ i, i < 4 → w.cell? ⟨g, 0 + j * 4 + i, none⟩ = (cells4 D[j])[i]? := fun i hi => by
      rw [← acells_at D j i hj hi, Nat.zero_add]
      exact World.ownsRow.cellAt h (j * 4 + i) (by omega)
    exact ⟨get 0 (by decide), get 1 (by decide), get 2 (by decide), get 3 (by decide)⟩
theorem OwnA.at' {w : World} {base g n cap : Nat} {D : List Ac} (h : OwnA w base (.slice (some ⟨g, 0, none⟩) n cap) D) (j : Nat) (hj : j < D.length) : AcAt w g (j * 4) D[j] := by
  obtain ⟨g', cap', hv, hat⟩ := h.at j hj
  simp only [Value.slice.injEq, Option.some.injEq, Addr.mk.injEq] at hv
  obtain ⟨⟨rfl, _⟩, _⟩ := hv
  rw [Nat.zero_add] at hat
  exact hat
/-- append of one act. -/
theorem wpList_appendA (w : World) {ops : Array Oper} {rest : List Oper} {o : Oper} {a : Act} {Q : Exit → Act → World → Prop} (hgd : o.guard = none) (s x : Operand)
    (ho : o.op = .call { callee := .builtin .append, args := #[s, x], argTypes := #[40, 40] })
    (base : Nat) (v : Value) (D : List Ac) (hs : a.eval s = v) (hown : OwnA w base v D) (y : Ac) (ad : Addr) (hx : a.eval x = .slice (some ad) 1 1)
    (hnews : ∀ j u, (cells4 y)[j]? = some u → w.cell? (ad.add j) = some u) (hlen : D.length ≤ 1000) (hbase : base ≤ w.heap.size)
    (h : ∀ v' w', OwnA w' base v' (D ++ [y]) → w.grownBy w' v.ownBlock → wpList Try.prog ops Q rest (a.put o.dst v') w') :
    wpList Try.prog ops Q (o :: rest) a w := by
  obtain ⟨i, hi, hz, hsz, hby⟩ := info_parts infoAct
  refine wpList_append_own_at w hgd s x 40 ho base 46 i _ 4 40 Try.underlying40 hi hz hsz hby rfl (by decide) v D.length (acells D) hs hown ad 1 1 (cells4 y) hx rfl hnews (fun u hu => ?_) (by unfold maxLen; omega) (by omega) hbase fun v' w' h1 h2 _ _ => ?_
  · simp only [cells4, List.mem_cons, List.not_mem_nil, or_false] at hu
    rcases hu with rfl | rfl | rfl | rfl <;> rfl
  · refine h v' w' ?_ h2
    unfold OwnA
    rw [List.length_append, acells_snoc]
    exact h1
end Go.Proofs.Ythdkceodoflnkaa
