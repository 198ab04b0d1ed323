/-
  Laws for walks over rows of strings that the call makes: append of a string. Conditions: those that each theorem names. Nothing of any program is named here.
-/
import Derived.Test.YtmjhofgcfolelaaNmKit
namespace Go.Proofs.Ytmjhofgcfolelaa
open Go.RowKit
set_option linter.unusedVariables false

/-! ### Rows of strings that the call makes -/
structure ST (P : Program) (te ts : TypeId) : Prop where
  us : P.underlying ts = some (.slice te)
  info : (P.info? te).map (fun i => (i.zero, i.size, i.bytes)) = some (some (.string ⟨#[]⟩), 1, 16)
/-- The call owns the strings L. -/
def TOwn (te : TypeId) (w : World) (base : Nat) (v : Value) (L : List ByteArray) : Prop := w.ownsRow base te 1 v L.length (L.map Value.string)
section
variable {w w' : World} {base : Nat} {te : TypeId} {v : Value} {L : List ByteArray}
theorem TOwn.none_ (w : World) (base : Nat) : TOwn te w base (.slice none 0 0) [] := World.ownsRow_nil w base te 1
theorem TOwn.alloc (h : TOwn te w base v L) (o : Obj) : TOwn te (w.alloc o) base v L := World.ownsRow.alloc h o
theorem TOwn.drew (h : TOwn te w base v L) : TOwn te w.drew base v L := h
theorem TOwn.below {k : Nat} (h : TOwn te w base v L) (hb : Below k w w') (hk : w.heap.size ≤ k) : TOwn te w' base v L :=
  World.ownsRow.kept (row := none) h ⟨hb.os, hb.tape, hb.output, hb.size, fun j hj _ => hb.block j (by omega)⟩ (by cases hv : v.ownBlock <;> simp)
theorem TOwn.row (h : TOwn te w base v L) : SRow w v L := SRow.of_own h
theorem TOwn.shape (h : TOwn te w base v L) : ∃ A cap, v = .slice A L.length cap := by
  rcases h.2 with ⟨rfl, hn⟩ | ⟨g, cap, cur, rfl, _⟩
  · exact ⟨none, 0, by rw [hn]⟩
  · exact ⟨_, cap, rfl⟩
theorem below_grownT {B0 : Nat} (hg : w.grownBy w' v.ownBlock) (h : TOwn te w base v L) (hB : B0 ≤ base) (hs : base ≤ w.heap.size) : Below B0 w w' :=
  (Below.refl B0 w).grown hg (by omega) fun k hk => by have := (World.ownsRow.lt h k hk).1; omega
end
/-- append of a string onto the strings that the call owns. -/
theorem wpList_appendT {P : Program} {te ts : TypeId} (T : ST P te ts) (w : World) {ops : Array Oper} {rest : List Oper} {o : Oper} {a : Act} {Q : Exit → Act → World → Prop} (hgd : o.guard = none) (s x : Operand)
    (ho : o.op = .call { callee := .builtin .append, args := #[s, x], argTypes := #[ts, ts] })
    (base : Nat) (v : Value) (L : List ByteArray) (hs : a.eval s = v) (hown : TOwn te w base v L)
    (ad : Addr) (t : ByteArray) (hx : a.eval x = .slice (some ad) 1 1) (hds : ∀ j u, [Value.string t][j]? = some u → w.cell? (ad.add j) = some u) (hlen : L.length ≤ 1099511627776) (hbase : base ≤ w.heap.size)
    (h : ∀ v' w', TOwn te w' base v' (L ++ [t]) → w.grownBy w' v.ownBlock → wpList P ops Q rest (a.put o.dst v') w') :
    wpList P ops Q (o :: rest) a w := by
  obtain ⟨i, hi, hz, hsz, hby⟩ := info_parts T.info
  refine wpList_append_own_at w hgd s x ts ho base te i (.string ⟨#[]⟩) 1 16 T.us hi hz hsz hby rfl (by decide) v L.length (L.map Value.string) hs hown ad 1 1 [Value.string t] hx (by simp) hds (fun u hu => ?_) (by unfold maxLen; omega) (by omega) hbase ?_
  · rw [List.mem_singleton.1 hu]
    rfl
  · intro v' w' h1 h2 _ h4
    refine h v' w' ?_ h2
    unfold TOwn
    rw [List.length_append, List.map_append]
    exact h1
/-- The cell of a new block of one string. -/
theorem cellT (w : World) (te : TypeId) (t : ByteArray) : ∀ j u, [Value.string t][j]? = some u → (w.alloc (.cells #[.string t] te)).cell? ((⟨w.heap.size, 0, none⟩ : Addr).add j) = some u := by
  intro j u hu
  rcases j with _ | j
  · simp only [List.getElem?_cons_zero, Option.some.injEq] at hu
    subst hu
    have e : (⟨w.heap.size, 0, none⟩ : Addr).add 0 = ⟨w.heap.size, 0, none⟩ := by unfold Addr.add; split <;> simp_all
    rw [e]
    exact (Boxed.new w te (.string t)).cell
  · simp at hu
end Go.Proofs.Ytmjhofgcfolelaa
