/-
  Laws for walks over names: rows of strings, as they are read, as they are made. Conditions: those that each theorem names. Nothing of any program is named here. Laws for walks over rows of strings that the call makes: append of a string. Conditions: those that each theorem names. Nothing of any program is named here.
-/
import Derived.Test.YtpmlldgjbmingaaGreatDoorZk1
import Derived.RangeFuncNested
import Derived.RangeFuncBox
import Derived.RangeFuncCalls
import Derived.RangeFuncLeaves
import Derived.OwnWalkIn
namespace Go.Proofs.YtpmlldgjbmingaaGreatDoor
open Go.RowKit
set_option linter.unusedVariables false

/-! ### Rows of strings -/
/-- A slice of strings, as it can be read. -/
def SRow (w : World) (v : Value) (L : List ByteArray) : Prop :=
  (∃ A, v = .slice A 0 0 ∧ L = []) ∨ ∃ g off cap, v = .slice (some ⟨g, off, none⟩) L.length cap ∧ g < w.heap.size ∧ L.length ≤ cap ∧ cap ≤ maxLen ∧ ∀ j (h : j < L.length), w.cell? ⟨g, off + j, none⟩ = some (.string L[j])
theorem SRow.below {w w' : World} {v : Value} {L : List ByteArray} {k : Nat} (h : SRow w v L) (hb : Below k w w') (hk : w.heap.size ≤ k) : SRow w' v L := by
  rcases h with h | ⟨g, off, cap, h1, h2, h3, h4, h5⟩
  · exact .inl h
  · exact .inr ⟨g, off, cap, h1, Nat.lt_of_lt_of_le h2 hb.size, h3, h4, fun j hj => (hb.cell (p := ⟨g, off + j, none⟩) (Nat.lt_of_lt_of_le h2 hk)).trans (h5 j hj)⟩
theorem SRow.next {w w' : World} {v : Value} {L : List ByteArray} (h : SRow w v L) (hb : Below w.heap.size w w') : SRow w' v L := h.below hb (Nat.le_refl _)
theorem SRow.shape {w : World} {v : Value} {L : List ByteArray} (h : SRow w v L) : ∃ A cap, v = .slice A L.length cap ∧ L.length ≤ cap ∧ cap ≤ maxLen := by
  rcases h with ⟨A, rfl, rfl⟩ | ⟨g, off, cap, h1, h2, h3, h4, h5⟩
  · exact ⟨A, 0, rfl, Nat.le_refl _, Nat.zero_le _⟩
  · exact ⟨_, cap, h1, h3, h4⟩
/-- A row that the call owns can be read. -/
theorem SRow.of_own {w : World} {base : Nat} {t : TypeId} {v : Value} {L : List ByteArray} (h : w.ownsRow base t 1 v L.length (L.map Value.string)) : SRow w v L := by
  rcases h.2 with ⟨rfl, hn⟩ | ⟨g, cap, cur, rfl, hb, hg, hnc, hcm, _⟩
  · exact .inl ⟨none, rfl, List.eq_nil_of_length_eq_zero hn⟩
  · refine .inr ⟨g, 0, cap, rfl, ?_, hnc, hcm, fun j hj => ?_⟩
    · rcases Nat.lt_or_ge g w.heap.size with hlt | hge
      · exact hlt
      · rw [Array.getElem?_eq_none hge] at hg; cases hg
    · have := World.ownsRow.cells h (g := g) rfl j (.string L[j]) (by rw [List.getElem?_map, List.getElem?_eq_getElem hj]; rfl)
      have e : (⟨g, 0, none⟩ : Addr).add j = ⟨g, 0 + j, none⟩ := by unfold Addr.add; split <;> simp_all
      rw [e] at this
      exact this

theorem boxed_drew {W : World} {b : Nat} {t : TypeId} {v : Value} (h : Boxed W b t v) : Boxed W.drew b t v := h
end Go.Proofs.YtpmlldgjbmingaaGreatDoor
namespace Go.Proofs.YtpmlldgjbmingaaGreatDoor
open Go.RowKit
set_option linter.unusedVariables false

/-! ### Rows of strings that the call makes -/
structure ST (P : Program) (te ts : TypeId) : Prop where
  us : P.underlying ts = some (.slice te)
  info : (P.info? te).map (fun i => (i.zero, i.size, i.bytes)) = some (some (.string ⟨#[]⟩), 1, 16)
/-- The call owns the strings L. -/
def TOwn (te : TypeId) (w : World) (base : Nat) (v : Value) (L : List ByteArray) : Prop := w.ownsRow base te 1 v L.length (L.map Value.string)
section
variable {w w' : World} {base : Nat} {te : TypeId} {v : Value} {L : List ByteArray}
theorem TOwn.none_ (w : World) (base : Nat) : TOwn te w base (.slice none 0 0) [] := World.ownsRow_nil w base te 1
theorem TOwn.alloc (h : TOwn te w base v L) (o : Obj) : TOwn te (w.alloc o) base v L := World.ownsRow.alloc h o
theorem TOwn.drew (h : TOwn te w base v L) : TOwn te w.drew base v L := h
theorem TOwn.below {k : Nat} (h : TOwn te w base v L) (hb : Below k w w') (hk : w.heap.size ≤ k) : TOwn te w' base v L :=
  World.ownsRow.kept (row := none) h ⟨hb.os, hb.tape, hb.output, hb.size, fun j hj _ => hb.block j (by omega)⟩ (by cases hv : v.ownBlock <;> simp)
theorem TOwn.row (h : TOwn te w base v L) : SRow w v L := SRow.of_own h
theorem TOwn.shape (h : TOwn te w base v L) : ∃ A cap, v = .slice A L.length cap := by
  rcases h.2 with ⟨rfl, hn⟩ | ⟨g, cap, cur, rfl, _⟩
  · exact ⟨none, 0, by rw [hn]⟩
  · exact ⟨_, cap, rfl⟩
theorem below_grownT {B0 : Nat} (hg : w.grownBy w' v.ownBlock) (h : TOwn te w base v L) (hB : B0 ≤ base) (hs : base ≤ w.heap.size) : Below B0 w w' :=
  (Below.refl B0 w).grown hg (by omega) fun k hk => by have := (World.ownsRow.lt h k hk).1; omega
end
/-- append of a string onto the strings that the call owns. -/
theorem wpList_appendT {P : Program} {te ts : TypeId} (T : ST P te ts) (w : World) {ops : Array Oper} {rest : List Oper} {o : Oper} {a : Act} {Q : Exit → Act → World → Prop} (hgd : o.guard = none) (s x : Operand)
    (ho : o.op = .call { callee := .builtin .append, args := #[s, x], argTypes := #[ts, ts] })
    (base : Nat) (v : Value) (L : List ByteArray) (hs : a.eval s = v) (hown : TOwn te w base v L)
    (ad : Addr) (t : ByteArray) (hx : a.eval x = .slice (some ad) 1 1) (hds : ∀ j u, [Value.string t][j]? = some u → w.cell? (ad.add j) = some u) (hlen : L.length ≤ 1099511627776) (hbase : base ≤ w.heap.size)
    (h : ∀ v' w', TOwn te w' base v' (L ++ [t]) → w.grownBy w' v.ownBlock → wpList P ops Q rest (a.put o.dst v') w') :
    wpList P ops Q (o :: rest) a w := by
  obtain ⟨i, hi, hz, hsz, hby⟩ := info_parts T.info
  refine wpList_append_own_at w hgd s x ts ho base te i (.string ⟨#[]⟩) 1 16 T.us hi hz hsz hby rfl (by decide) v L.length (L.map Value.string) hs hown ad 1 1 [Value.string t] hx (by simp) hds (fun u hu => ?_) (by unfold maxLen; omega) (by omega) hbase ?_
  · rw [List.mem_singleton.1 hu]
    rfl
  · intro v' w' h1 h2 _ h4
    refine h v' w' ?_ h2
    unfold TOwn
    rw [List.length_append, List.map_append]
    exact h1
/-- The cell of a new block of one string. -/
theorem cellT (w : World) (te : TypeId) (t : ByteArray) : ∀ j u, [Value.string t][j]? = some u → (w.alloc (.cells #[.string t] te)).cell? ((⟨w.heap.size, 0, none⟩ : Addr).add j) = some u := by
  intro j u hu
  rcases j with _ | j
  · simp only [List.getElem?_cons_zero, Option.some.injEq] at hu
    subst hu
    have e : (⟨w.heap.size, 0, none⟩ : Addr).add 0 = ⟨w.heap.size, 0, none⟩ := by unfold Addr.add; split <;> simp_all
    rw [e]
    exact (Boxed.new w te (.string t)).cell
  · simp at hu
end Go.Proofs.YtpmlldgjbmingaaGreatDoor
