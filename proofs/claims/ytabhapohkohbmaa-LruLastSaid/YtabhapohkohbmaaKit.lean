/-
  Laws for walks over byte slices that a call makes for itself: '[]byte(s)', 'string(b)', append of bytes. Conditions: those that each theorem names (the types' rows in the program's table; sizes below 2^46). Nothing of any program is named here.
-/
import Derived.WalkKit
import Derived.WalkSpells
import Derived.WalkLawsBesides
import Derived.Lib.Hide
import Derived.Lib.Strings
import Derived.Lib.SmallJoins
import Derived.Laws.IdiomStrings
import Derived.Laws.BytesArg
import Derived.Maps.AppendAt
namespace Go.Proofs.Ytabhapohkohbmaa
open Go.RowKit

/-- A byte as a cell holds it. -/
def B (b : UInt8) : Value := .int .u8 (b.toNat : Int)
theorem B_one (b : UInt8) : (B b).oneCell' = true := rfl

/-- A string's bytes. -/
def bs (s : ByteArray) : List UInt8 := s.data.toList
theorem bs_length (s : ByteArray) : (bs s).length = s.size := by simp [bs]
theorem bs_mk (l : List UInt8) : bs ⟨l.toArray⟩ = l := by simp [bs]
theorem bs_toList (s : ByteArray) : s.toList = bs s := Lib.toList_data s
theorem bs_append (a b : ByteArray) : bs (a ++ b) = bs a ++ bs b := Joins.data_append a b
theorem bs_inj {a b : ByteArray} (h : bs a = bs b) : a = b := by
  cases a; cases b
  simp only [bs] at h
  rw [Array.toList_inj.1 h]
theorem bs_eq {a : ByteArray} {l : List UInt8} (h : bs a = l) : a = ⟨l.toArray⟩ := bs_inj (h.trans (bs_mk l).symm)
theorem bs_extract (s : ByteArray) (a b : Nat) : bs (s.extract a b) = ((bs s).drop a).take (b - a) := Lib.extract_data s a b
theorem drop_at (s : ByteArray) (k : Nat) (h : k < s.size) : (bs s).drop k = s[k] :: (bs s).drop (k + 1) := by
  have h' : k < (bs s).length := by rw [bs_length]; exact h
  rw [List.drop_eq_getElem_cons h']
  rfl
theorem drop_end (s : ByteArray) (k : Nat) (h : s.size ≤ k) : (bs s).drop k = [] := List.drop_eq_nil_of_le (by rw [bs_length]; exact h)

/-- The rows of the program's table for bytes, byte slices, strings. -/
structure BT (P : Program) (tb ts tt : TypeId) : Prop where
  ub : P.underlying tb = some (.int .u8)
  us : P.underlying ts = some (.slice tb)
  ut : P.underlying tt = some .string
  info : (P.info? tb).map (fun i => (i.zero, i.size, i.bytes)) = some (some (.int .u8 0), 1, 1)

/-- Block g holds the bytes l at its head. -/
structure Row (w : World) (g : Nat) (l : List UInt8) : Prop where
  lt : g < w.heap.size
  cell : ∀ j (h : j < l.length), w.cell? ⟨g, j, none⟩ = some (B l[j])
  free : ∀ j, j < l.length → w.frozen? ⟨g, j, none⟩ = false
  mark : ∀ c e, w.heap[g]? ≠ some (.cells c e (0, 0))

/-- The call owns the bytes l. -/
def Own (tb : TypeId) (w : World) (base : Nat) (v : Value) (l : List UInt8) : Prop := w.ownsRow base tb 1 v l.length (l.map B)

section
variable {w w' : World} {g base : Nat} {l ds : List UInt8} {tb : TypeId} {v : Value}
theorem Row.grown {row : Option Nat} (h : Row w g l) (hg : w.grownBy w' row) (hne : some g ≠ row) : Row w' g l :=
  ⟨Nat.lt_of_lt_of_le h.lt hg.size, fun j hj => (World.cell?_of_block (w := w) (hg.block g h.lt hne)).trans (h.cell j hj), fun j hj => (World.frozen?_of_block (w := w) (hg.block g h.lt hne)).trans (h.free j hj), fun c e => by rw [hg.block g h.lt hne]; exact h.mark c e⟩
theorem Row.below {k : Nat} (h : Row w g l) (hb : Below k w w') (hk : g < k) : Row w' g l :=
  ⟨Nat.lt_of_lt_of_le h.lt hb.size, fun j hj => (World.cell?_of_block (w := w) (hb.block g hk)).trans (h.cell j hj), fun j hj => (World.frozen?_of_block (w := w) (hb.block g hk)).trans (h.free j hj), fun c e => by rw [hb.block g hk]; exact h.mark c e⟩
theorem Row.drew (h : Row w g l) : Row w.drew g l := ⟨h.lt, h.cell, h.free, h.mark⟩
theorem Row.alloc (h : Row w g l) (o : Obj) : Row (w.alloc o) g l := h.below (k := w.heap.size) ((Below.refl _ _).alloc (Nat.le_refl _) o) h.lt
/-- A store into a row that was made of a string. -/
theorem Row.set (h : Row w g l) {k : Nat} (hk : k < l.length) (c : UInt8) : Row (w.setCell ⟨g, k, none⟩ (B c)) g (l.set k c) := by
  refine ⟨by have := h.lt; simpa [World.setCell] using this, fun j hj => ?_, fun j hj => ?_, fun cs e => ?_⟩
  · have hj' : j < l.length := by rw [List.length_set] at hj; exact hj
    by_cases hjk : j = k
    · subst hjk
      rw [World.cell?_setCell_same _ _ _ (h.cell j hj')]
      simp
    · rw [World.cell?_setCell_other w ⟨g, k, none⟩ ⟨g, j, none⟩ _ (fun e => hjk (by injection e with _ e _; exact e.symm)), h.cell j hj']
      rw [List.getElem_set_ne (Ne.symm hjk)]
  · rw [List.length_set] at hj
    rw [World.frozen?_setCell]
    exact h.free j hj
  · have hm := h.mark
    simp only [World.setCell, Array.getElem?_modify, if_true]
    intro he
    rcases ho : w.heap[g]? with _ | o
    · rw [ho] at he; cases he
    · rw [ho] at he
      simp only [Option.map_some, Option.some.injEq] at he
      cases o with
      | cells c0 e0 m0 =>
        simp only [Obj.cells.injEq] at he
        obtain ⟨_, rfl, rfl⟩ := he
        exact hm _ _ ho
      | _ => cases he
/-- A row that was made of a string is no row of the call's own: it bears the mark. -/
theorem Own.ne_row (h : Own tb w base v l) (hr : Row w g ds) : some g ≠ v.ownBlock := by
  intro e
  rcases h.2 with ⟨rfl, _⟩ | ⟨g', cap, cur, rfl, _, hh, _⟩
  · simp [Value.ownBlock] at e
  · have : g = g' := by simpa [Value.ownBlock] using e
    subst this
    exact hr.mark _ _ hh
theorem Own.none_ (w : World) (base : Nat) : Own tb w base (.slice none 0 0) [] := World.ownsRow_nil w base tb 1
theorem Own.alloc (h : Own tb w base v l) (o : Obj) : Own tb (w.alloc o) base v l := World.ownsRow.alloc h o
theorem Own.drew (h : Own tb w base v l) : Own tb w.drew base v l := h
theorem Own.below {k : Nat} (h : Own tb w base v l) (hb : Below k w w') (hk : w.heap.size ≤ k) : Own tb w' base v l :=
  World.ownsRow.kept (row := none) h ⟨hb.os, hb.tape, hb.output, hb.size, fun j hj _ => hb.block j (by omega)⟩ (by cases hv : v.ownBlock <;> simp)
/-- The shape of what is owned. -/
theorem Own.form (h : Own tb w base v l) : (v = .slice none 0 0 ∧ l = []) ∨ ∃ g cap, v = .slice (some ⟨g, 0, none⟩) l.length cap ∧ base ≤ g ∧ g < w.heap.size ∧ l.length ≤ cap ∧ cap ≤ maxLen := by
  rcases h.2 with ⟨rfl, hn⟩ | ⟨g, cap, cur, rfl, hb, hg, hnc, hcm, _⟩
  · exact .inl ⟨rfl, List.eq_nil_of_length_eq_zero hn⟩
  · refine .inr ⟨g, cap, rfl, hb, ?_, hnc, hcm⟩
    rcases Nat.lt_or_ge g w.heap.size with hlt | hge
    · exact hlt
    · rw [Array.getElem?_eq_none hge] at hg; cases hg
theorem Own.shape (h : Own tb w base v l) : ∃ A cap, v = .slice A l.length cap := by
  rcases h.form with ⟨rfl, rfl⟩ | ⟨g, cap, rfl, _⟩
  · exact ⟨none, 0, rfl⟩
  · exact ⟨_, cap, rfl⟩
theorem le_alloc {n : Nat} {w : World} (h : n ≤ w.heap.size) (o : Obj) : n ≤ (w.alloc o).heap.size := by simp; omega
/-- The cells of a new block of bytes. -/
theorem cellsN (w : World) (t : TypeId) (C : Array Value) (ds : List UInt8) (hC : C.toList = ds.map B) (ad : Addr) (ha : ad = ⟨w.heap.size, 0, none⟩) :
    ∀ j u, (ds.map B)[j]? = some u → (w.alloc (.cells C t)).cell? (ad.add j) = some u := by
  subst ha
  intro j u hu
  have e : (⟨w.heap.size, 0, none⟩ : Addr).add j = ⟨w.heap.size, j, none⟩ := by unfold Addr.add; split <;> simp_all
  rw [e, World.cell?_alloc_mark w C t (0, 0) j, ← Array.getElem?_toList, hC]
  exact hu
theorem add_block (a : Addr) (n : Nat) : (a.add n).block = a.block := by unfold Addr.add; split <;> rfl
theorem cells_grown {ad : Addr} {xs : List Value} {row : Option Nat} (h : ∀ j u, xs[j]? = some u → w.cell? (ad.add j) = some u) (hlt : ad.block < w.heap.size) (hg : w.grownBy w' row) (hne : some ad.block ≠ row) :
    ∀ j u, xs[j]? = some u → w'.cell? (ad.add j) = some u := fun j u hu =>
  (World.cell?_of_block (w := w) (hg.block _ (by rw [add_block]; exact hlt) (by rw [add_block]; exact hne))).trans (h j u hu)
theorem cells_alloc {ad : Addr} {xs : List Value} (h : ∀ j u, xs[j]? = some u → w.cell? (ad.add j) = some u) (hlt : ad.block < w.heap.size) (o : Obj) :
    ∀ j u, xs[j]? = some u → (w.alloc o).cell? (ad.add j) = some u := cells_grown h hlt (World.grownBy_alloc w o none) (by simp)
theorem below_grown {B0 : Nat} {v : Value} {l : List UInt8} (hg : w.grownBy w' v.ownBlock) (h : Own tb w base v l) (hB : B0 ≤ base) (hs : base ≤ w.heap.size) : Below B0 w w' :=
  (Below.refl B0 w).grown hg (by omega) fun k hk => by have := (World.ownsRow.lt h k hk).1; omega
end

section
variable {P : Program} {tb ts tt : TypeId}

/-- 'string(b)' of bytes that the call owns. -/
theorem BT.conv_own (T : BT P tb ts tt) {w : World} {base : Nat} {v : Value} {l : List UInt8} (h : Own tb w base v l) :
    (convert ts tt v).run P w = .ok (.string ⟨l.toArray⟩) w := by
  rcases h.form with ⟨rfl, rfl⟩ | ⟨g, cap, rfl, _, _, _, _⟩
  · have := run_convert_bytes_nil (P := P) w ts tb T.us T.ub 0 0 tt T.ut
    rw [this]
    rfl
  · refine run_convert_bytes_back w ts tt tb ⟨g, 0, none⟩ cap l T.us T.ub T.ut fun j hj => ?_
    exact World.ownsRow.cells h (g := g) rfl j _ (by rw [List.getElem?_map, List.getElem?_eq_getElem hj]; rfl)

/-- 'string(b)' of a row that was made of a string. -/
theorem BT.conv_row (T : BT P tb ts tt) {w : World} {g : Nat} {l : List UInt8} (h : Row w g l) (n cap : Nat) (hn : n = l.length) :
    (convert ts tt (.slice (some ⟨g, 0, none⟩) n cap)).run P w = .ok (.string ⟨l.toArray⟩) w := by
  subst hn
  refine run_convert_bytes_back w ts tt tb ⟨g, 0, none⟩ cap l T.us T.ub T.ut fun j hj => ?_
  have e : (⟨g, 0, none⟩ : Addr).add j = ⟨g, j, none⟩ := by unfold Addr.add; split <;> simp_all
  rw [e]
  exact h.cell j hj

/-- '[]byte(s)': a new row of the string's bytes. -/
theorem BT.bytes (T : BT P tb ts tt) (w : World) (s : ByteArray) (hs : s.size ≤ maxLen) :
    ∃ cap w', (convert tt ts (.string s)).run P w = .ok (.slice (some ⟨w.heap.size, 0, none⟩) s.size cap) w' ∧ Row w' w.heap.size (bs s) ∧ Below w.heap.size w w' ∧ w'.heap.size = w.heap.size + 1 ∧ s.size ≤ cap ∧ cap ≤ maxLen := by
  refine ⟨_, _, run_bytes_of_string w tt ts tb s T.ut T.us T.ub, ?_, ?_, ?_, grownCap_ge w _ _ _, grownCap_le_maxLen w _ _ _ hs⟩
  · unfold bs
    have hlen : s.data.toList.length = s.data.size := by simp
    refine ⟨by simp, fun j hj => ?_, fun j hj => ?_, fun c e => ?_⟩
    · have hj' : j < s.data.size := by rw [← hlen]; exact hj
      have := World.cell?_alloc_mark w.drew (bytesRow s (grownCap w s.size 0 tb)) tb ((bytesRow s (grownCap w s.size 0 tb)).size, (bytesRow s (grownCap w s.size 0 tb)).size + 1) j
      have e1 := this.trans (bytesRow_at s (grownCap w s.size 0 tb) j hj')
      exact e1
    · have hj' : j < s.data.size := by rw [← hlen]; exact hj
      have := World.frozen?_alloc_mark w.drew (bytesRow s (grownCap w s.size 0 tb)) tb (bytesRow s (grownCap w s.size 0 tb)).size ((bytesRow s (grownCap w s.size 0 tb)).size + 1) j
      refine this.trans ?_
      have hsz : s.data.size ≤ (bytesRow s (grownCap w s.size 0 tb)).size := by unfold bytesRow; simp
      simp; omega
    · have hh : (w.drew.alloc (.cells (bytesRow s (grownCap w s.size 0 tb)) tb ((bytesRow s (grownCap w s.size 0 tb)).size, (bytesRow s (grownCap w s.size 0 tb)).size + 1))).heap[w.heap.size]? = some (.cells (bytesRow s (grownCap w s.size 0 tb)) tb ((bytesRow s (grownCap w s.size 0 tb)).size, (bytesRow s (grownCap w s.size 0 tb)).size + 1)) := by
        show (w.heap.push _)[w.heap.size]? = _
        simp
      rw [hh]
      intro e
      injection e with e
      injection e with _ _ e
      simp at e
  · exact (Below.refl _ _).drew.alloc (by simp) _
  · simp

theorem wpList_bytes (T : BT P tb ts tt) (w : World) {ops : Array Oper} {rest : List Oper} {o : Oper} {a : Act} {Q : Exit → Act → World → Prop} (hgd : o.guard = none) (x : Operand)
    (ho : o.op = .convert tt ts x) (s : ByteArray) (hx : a.eval x = .string s) (hs : s.size ≤ maxLen)
    (h : ∀ cap w', Row w' w.heap.size (bs s) → Below w.heap.size w w' → w.heap.size + 1 ≤ w'.heap.size → s.size ≤ cap → cap ≤ maxLen → wpList P ops Q rest (a.put o.dst (.slice (some ⟨w.heap.size, 0, none⟩) s.size cap)) w') :
    wpList P ops Q (o :: rest) a w := by
  refine wpList_plain hgd fun K hK => ?_
  obtain ⟨cap, w', hr, h1, h2, h3, h4, h5⟩ := T.bytes w s hs
  unfold Oper.wp execOp
  simp only [ho, Sem.run_bind, Sem.run_pure, Result.andThen_ok, hx, hr]
  exact hK _ _ (h cap w' h1 h2 (by omega) h4 h5)

/-- append of bytes onto what the call owns. -/
theorem wpList_appendB (T : BT P tb ts tt) (w : World) {ops : Array Oper} {rest : List Oper} {o : Oper} {a : Act} {Q : Exit → Act → World → Prop} (hgd : o.guard = none) (s x : Operand)
    (ho : o.op = .call { callee := .builtin .append, args := #[s, x], argTypes := #[ts, ts] })
    (base : Nat) (v : Value) (l : List UInt8) (hs : a.eval s = v) (hown : Own tb w base v l)
    (ad : Addr) (m c : Nat) (ds : List UInt8) (hx : a.eval x = .slice (some ad) m c) (hm : m = ds.length) (hds : ∀ j u, (ds.map B)[j]? = some u → w.cell? (ad.add j) = some u)
    (hlen : l.length + ds.length ≤ 70368744177664) (hbase : base ≤ w.heap.size)
    (h : ∀ v' w', Own tb w' base v' (l ++ ds) → w.grownBy w' v.ownBlock → (v'.ownBlock = v.ownBlock ∨ v'.ownBlock = some w.heap.size) → wpList P ops Q rest (a.put o.dst v') w') :
    wpList P ops Q (o :: rest) a w := by
  subst hm
  obtain ⟨i, hi, hz, hsz, hby⟩ := info_parts T.info
  refine wpList_append_own_at w hgd s x ts ho base tb i (.int .u8 0) 1 1 T.us hi hz hsz hby rfl (by decide) v l.length (l.map B) hs hown ad ds.length c (ds.map B) hx (by simp) hds (fun u hu => ?_) (by unfold maxLen; omega) (by omega) hbase ?_
  · obtain ⟨b, _, rfl⟩ := List.mem_map.1 hu
    rfl
  · intro v' w' h1 h2 _ h4
    refine h v' w' ?_ h2 h4
    unfold Own
    rw [List.length_append, List.map_append]
    exact h1
end
end Go.Proofs.Ytabhapohkohbmaa
