/-
  A law's own row of names beside the document's packer; names put one behind the other, read one behind the other. Conditions: as each theorem names them.
-/
import Derived.Test.YtlpgoeigcccmhaaUpRn
import Derived.Test.YtlpgoeigcccmhaaNmKitT
import Derived.Test.YtlpgoeigcccmhaaPkOpen
namespace Go.Proofs.Ytlpgoeigcccmhaa
open Go.RowKit
set_option linter.unusedVariables false

theorem NRow.cellB {w : World} {q o n cap : Nat} {L : List ByteArray} (h : NRow w (.slice (some ⟨q, o, none⟩) n cap) L) (j : Nat) (hj : j < L.length) : w.cell? ⟨q, o + j, none⟩ = some (.string L[j]) := by
  obtain ⟨g, o', e, _, h⟩ := h.at j hj
  injection e with e
  injection e with e1 e2
  subst e1; subst e2
  exact h
theorem stNm : ST Try.prog 32 22 := ⟨Try.underlying22, by kernel_rfl⟩
section
variable {w w' : World} {base b : Nat} {te : TypeId} {v v' : Value} {L : List ByteArray} {F F' : Nat → Prop}
theorem TOwn.same (h : TOwn te w base v L) (hs : ∀ k, v.ownBlock = some k → w'.heap[k]? = w.heap[k]?) : TOwn te w' base v L := by
  refine ⟨h.1, h.2.imp id fun ⟨g, cap, cur, h1, h2, h3, h4⟩ => ⟨g, cap, cur, h1, h2, ?_, h4⟩⟩
  rw [hs g (by rw [h1]; rfl)]
  exact h3
theorem TOwn.block (h : TOwn te w base v L) {k : Nat} (hk : v.ownBlock = some k) : base ≤ k ∧ k < w.heap.size := by
  rcases h.2 with ⟨rfl, _⟩ | ⟨g, cap, cur, rfl, hb, hg, _⟩
  · cases hk
  · obtain rfl : g = k := by simpa [Value.ownBlock] using hk
    refine ⟨hb, ?_⟩
    rcases Nat.lt_or_ge g w.heap.size with hlt | hge
    · exact hlt
    · rw [Array.getElem?_eq_none hge] at hg; cases hg
theorem TOwn.ptr {A : Option Addr} {n cap : Nat} (hv : TOwn te w base (.slice A n cap) L) (hne : L ≠ []) : ∃ q, A = some ⟨q, 0, none⟩ := by
  rcases hv.2 with ⟨_, hn⟩ | ⟨q, cap', cur, h1, _⟩
  · exact absurd (List.eq_nil_of_length_eq_zero hn) hne
  · injection h1 with h1
    exact ⟨q, h1⟩
theorem TOwn.at {q n cap : Nat} (hv : TOwn te w base (.slice (some ⟨q, 0, none⟩) n cap) L) {j : Nat} {x : ByteArray} (hj : L[j]? = some x) : w.cell? ⟨q, j, none⟩ = some (.string x) := by
  have := World.ownsRow.cells hv (g := q) rfl j (.string x) (by rw [List.getElem?_map, hj]; rfl)
  have e : (⟨q, 0, none⟩ : Addr).add j = ⟨q, j, none⟩ := by unfold Addr.add; split <;> simp_all
  rw [e] at this
  exact this
theorem bk_pk (hv : TOwn te w base v L) (hd : ∀ k, v.ownBlock = some k → ¬ F k) (hk : Kf b F F' w w') : TOwn te w' base v L ∧ ∀ k, v.ownBlock = some k → ¬ F' k :=
  ⟨hv.same fun k h => hk.rest k (hv.block h).2 (hd k h), fun k h h' => (hk.sub k h').elim (hd k h) (fun e => by have := (hv.block h).2; omega)⟩
theorem bk_app {gp gw : Nat} {vm : Value} {M : Nat} {S x : ByteArray} {ms : List (ByteArray × Nat)} (hx : RPx w b F gp gw vm M S ms) (hv : TOwn te w base v L) (hd : ∀ k, v.ownBlock = some k → ¬ F k) (hbase : base ≤ w.heap.size)
    (h1 : w'.ownsRow base te 1 v' (L.length + 1) (L.map Value.string ++ [.string x])) (hg : (w.alloc (.cells #[.string x] te)).grownBy w' v.ownBlock) (hob : v'.ownBlock = v.ownBlock ∨ v'.ownBlock = some (w.alloc (.cells #[.string x] te)).heap.size) :
    TOwn te w' base v' (L ++ [x]) ∧ (∀ k, v'.ownBlock = some k → ¬ F k) ∧ RPx w' b F gp gw vm M S ms ∧ Below base w w' := by
  have hg' := grown_alloc hg
  refine ⟨by unfold TOwn; rw [List.length_append, List.map_append]; exact h1, fun k hk hF => ?_, hx.kept hg'.size fun k hF => hg'.block k (hx.Fl k hF).2 (fun e => hd k e.symm hF), (Below.refl base w).grown hg' hbase (fun k hk => (hv.block hk).1)⟩
  rcases hob with e | e
  · exact hd k (e ▸ hk) hF
  · rw [e] at hk
    injection hk with hk
    have := (hx.Fl k hF).2
    simp at hk
    omega
end

/-- Names that stand one behind the other, from a place to another. -/
def Chn (x : List UInt8) : Nat → List ByteArray → Nat → Prop
  | p, [], q => p = q
  | p, d :: D, q => ∃ e c, Ru x p p (bs d) e c ∧ (bs d).length ≤ 254 ∧ p < e ∧ Chn x e D q
theorem Chn.app {x : List UInt8} (y : List UInt8) : ∀ {D : List ByteArray} {p q : Nat}, Chn x p D q → Chn (x ++ y) p D q
  | [], _, _, h => h
  | _ :: _, _, _, ⟨e, c, h1, h2, h3, h4⟩ => ⟨e, c, h1.app y, h2, h3, Chn.app y h4⟩
theorem Chn.snoc {x : List UInt8} {d : ByteArray} {r c : Nat} : ∀ {D : List ByteArray} {p q : Nat}, Chn x p D q → Ru x q q (bs d) r c → (bs d).length ≤ 254 → q < r → Chn x p (D ++ [d]) r
  | [], p, q, h, hr, hd, hl => by
    have h' : p = q := h
    subst h'
    exact ⟨r, c, hr, hd, hl, rfl⟩
  | _ :: _, _, _, ⟨e, c, h1, h2, h3, h4⟩, hr, hd, hl => ⟨e, c, h1, h2, h3, Chn.snoc h4 hr hd hl⟩
theorem Chn.le {x : List UInt8} : ∀ {D : List ByteArray} {p q : Nat}, Chn x p D q → p ≤ q
  | [], _, _, h => Nat.le_of_eq h
  | _ :: _, _, _, ⟨e, c, h1, h2, h3, h4⟩ => by have := Chn.le h4; omega
/-- The relation of the law's first loop. -/
def BkRel (L : List ByteArray) (w : World) (b gp gw : Nat) (vd vi : Value) (wr : World) : Prop :=
  ∃ k F S ms vm D, vi = .int .i64 (k : Nat) ∧ k ≤ L.length ∧ RPx wr b F gp gw vm 65535 S ms ∧ GM (bs S) ms ∧ S.size ≤ 255 * k ∧ ms.length ≤ 16384 * k ∧ TOwn 32 wr b vd D ∧ (∀ q, vd.ownBlock = some q → ¬ F q) ∧ D.length ≤ k ∧ Chn (bs S) 0 D S.size ∧ Below w.heap.size w wr
/-- The relation of its second one. -/
def BlRel (S : ByteArray) (D : List ByteArray) (wE : World) (va vi : Value) (wr : World) : Prop :=
  ∃ k p, vi = .int .i64 (k : Nat) ∧ va = .int .i64 (p : Nat) ∧ k ≤ D.length ∧ Chn (bs S) p (D.drop k) S.size ∧ Below wE.heap.size wE wr
end Go.Proofs.Ytlpgoeigcccmhaa
