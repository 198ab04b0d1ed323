/-
  Objects that a call makes and that its callees write: a block known whole; what stays, where one object is written; appends and copies of bytes. Conditions: those that each theorem names. A reader, a writer of octets, as the program's blocks. Conditions: those that each theorem names. What a reader of octets answers: the walks of octets.NewReader and the reader's methods. Condition: the string is no longer than Go's own limit. What a writer of octets answers: the walks of octets.NewWriter and the writer's methods. Conditions: as each theorem names them.
-/
import Derived.Test.YtdpgcgaalamgkaaGreatZk4
import Derived.Test.YtdpgcgaalamgkaaGreatZk0
import Derived.Deep.QuietTactic
import Derived.BigQuiet
import Derived.IntWalk
import Derived.Laws.CopyOwn
import Derived.LaidEqlPtr
import Derived.Laws.BitsAllLaws
namespace Go.Proofs.YtdpgcgaalamgkaaGreat
open Go.RowKit
set_option linter.unusedVariables false

/-- Block g bears the cells cs, of type t; all may be written. -/
def Lies (w : World) (g : Nat) (t : TypeId) (cs : Array Value) : Prop := w.heap[g]? = some (.cells cs t (0, 0))
section
variable {w w' : World} {g base k : Nat} {t tb : TypeId} {cs : Array Value} {v : Value} {l : List UInt8}
theorem Lies.lt (h : Lies w g t cs) : g < w.heap.size := (Array.getElem?_eq_some_iff.1 h).1
theorem Lies.cell (h : Lies w g t cs) (j : Nat) : w.cell? ⟨g, j, none⟩ = cs[j]? := cell_of_row w g j cs t (0, 0) h
theorem Lies.free (h : Lies w g t cs) (j : Nat) : w.frozen? ⟨g, j, none⟩ = false := frozen_of_row w g j cs t h
theorem Lies.set (h : Lies w g t cs) (j : Nat) (u : Value) : Lies (w.setCell ⟨g, j, none⟩ u) g t (cs.setIfInBounds j u) := heap_setCell_same w g j cs t u h
theorem Lies.grown {row : Option Nat} (h : Lies w g t cs) (hg : w.grownBy w' row) (hne : some g ≠ row) : Lies w' g t cs := (hg.block g h.lt hne).trans h
theorem Lies.below (h : Lies w g t cs) (hb : Below k w w') (hk : g < k) : Lies w' g t cs := (hb.block g hk).trans h
theorem Lies.next (h : Lies w g t cs) (hb : Below w.heap.size w w') : Lies w' g t cs := h.below hb h.lt
theorem Lies.drew (h : Lies w g t cs) : Lies w.drew g t cs := h
theorem Lies.drewN (h : Lies w g t cs) (n : Nat) : Lies (w.drewN n) g t cs := h
theorem Lies.alloc (h : Lies w g t cs) (o : Obj) : Lies (w.alloc o) g t cs := (heap_alloc_old w o h.lt).trans h
theorem Lies.new (w : World) (t : TypeId) (cs : Array Value) : Lies (w.alloc (.cells cs t)) w.heap.size t cs := heap_alloc_new w _
theorem Lies.ne {t' : TypeId} {cs' : Array Value} {g' : Nat} (h : Lies w g t cs) (h' : Lies w g' t' cs') (ht : t ≠ t') : g ≠ g' := fun e => by
  subst e
  have e : some (Obj.cells cs t (0, 0)) = some (Obj.cells cs' t' (0, 0)) := h.symm.trans h'
  injection e with e
  injection e with _ e _
  exact ht e
theorem Own.ne_lies (h : Own tb w base v l) (hL : Lies w g t cs) (ht : t ≠ tb) : some g ≠ v.ownBlock := by
  intro e
  rcases h.2 with ⟨rfl, _⟩ | ⟨g', cap, cur, rfl, _, hh, _⟩
  · simp [Value.ownBlock] at e
  · have : g = g' := by simpa [Value.ownBlock] using e
    subst this
    exact Lies.ne hL hh ht rfl
theorem Own.grown {row : Option Nat} (h : Own tb w base v l) (hg : w.grownBy w' row) (hne : v.ownBlock = none ∨ v.ownBlock ≠ row) : Own tb w' base v l := World.ownsRow.kept h hg hne
theorem Own.base_le {base' : Nat} (h : Own tb w base v l) (hb : base' ≤ base) : Own tb w base' v l :=
  ⟨h.1, h.2.imp id fun ⟨g, cap, cur, h1, h2, h3⟩ => ⟨g, cap, cur, h1, Nat.le_trans hb h2, h3⟩⟩

/-- The block of the row that lies in the first cell of block g. -/
def rowOf (w : World) (g : Nat) : Option Nat := (w.cell? ⟨g, 0, none⟩).bind Value.ownBlock
theorem rowOf_cell {u : Value} (h : w.cell? ⟨g, 0, none⟩ = some u) : rowOf w g = u.ownBlock := by
  unfold rowOf
  rw [h]
  rfl
theorem rowOf_lies {u : Value} (h : Lies w g t cs) (h0 : cs[0]? = some u) : rowOf w g = u.ownBlock := rowOf_cell ((h.cell 0).trans h0)
theorem rowOf_same (h : w'.heap[g]? = w.heap[g]?) : rowOf w' g = rowOf w g := by
  unfold rowOf
  rw [World.cell?_of_block (w := w) (w' := w') (a := ⟨g, 0, none⟩) h]
theorem rowOf_set (w : World) (g : Nat) {j : Nat} (hj : j ≠ 0) (u : Value) : rowOf (w.setCell ⟨g, j, none⟩ u) g = rowOf w g := by
  unfold rowOf
  rw [World.cell?_setCell_other w ⟨g, j, none⟩ ⟨g, 0, none⟩ u (fun e => hj (congrArg Addr.off e))]

/-- w' is w, but for block g and the row of bytes that lies in its first cell: those may have been written, the row may be a new one. -/
structure Kp (base g : Nat) (w w' : World) : Prop where
  below : Below base w w'
  rest : ∀ k, k < w.heap.size → k ≠ g → some k ≠ rowOf w g → w'.heap[k]? = w.heap[k]?
  row : rowOf w' g = rowOf w g ∨ ∀ k, rowOf w' g = some k → w.heap.size ≤ k
theorem Kp.refl (base g : Nat) (w : World) : Kp base g w w := ⟨Below.refl _ _, fun _ _ _ _ => rfl, .inl rfl⟩
theorem Kp.trans {w'' : World} (h : Kp base g w w') (k : Kp base g w' w'') : Kp base g w w'' := by
  refine ⟨h.below.trans k.below, fun i hi hg hr => ?_, ?_⟩
  · refine (k.rest i (Nat.lt_of_lt_of_le hi h.below.size) hg ?_).trans (h.rest i hi hg hr)
    rcases h.row with e | e
    · rw [e]; exact hr
    · intro e2
      have := e i e2.symm
      omega
  · rcases k.row with e | e
    · rw [e]; exact h.row
    · exact .inr fun i hi => Nat.le_trans h.below.size (e i hi)
theorem Kp.of_grown (hg : w.grownBy w' (some g)) (hbase : base ≤ g) (hb : base ≤ w.heap.size) (hr : rowOf w' g = rowOf w g) : Kp base g w w' :=
  ⟨(Below.refl base w).grown hg hb fun k hk => by injection hk with hk; omega, fun k hk hne _ => hg.block k hk (fun e => hne (by injection e)), .inl hr⟩
theorem Kp.of_below (hg : Below w.heap.size w w') (hb : base ≤ w.heap.size) (hlt : g < w.heap.size) : Kp base g w w' :=
  ⟨hg.mono hb, fun k hk _ _ => hg.block k hk, .inl (rowOf_same (hg.block g hlt))⟩
/-- The row is written in its place. -/
theorem Kp.of_row {u : Value} (hL : Lies w g t cs) (h0 : cs[0]? = some u) (hown : Own tb w base u l) (ht : t ≠ tb) (hg : w.grownBy w' u.ownBlock) (hb : base ≤ w.heap.size) : Kp base g w w' :=
  ⟨below_grown hg hown (Nat.le_refl _) hb, fun k hk _ hr => hg.block k hk (by rw [← rowOf_lies hL h0]; exact hr), .inl (by rw [rowOf_lies (hL.grown hg (hown.ne_lies hL ht)) h0, rowOf_lies hL h0])⟩
/-- The row is made longer, and stored into the first cell. -/
theorem Kp.of_put {u u' : Value} (hL : Lies w g t cs) (h0 : cs[0]? = some u) (hown : Own tb w base u l) (ht : t ≠ tb) (hg : w.grownBy w' u.ownBlock) (hb : base ≤ w.heap.size) (hbg : base ≤ g) (hob : u'.ownBlock = u.ownBlock ∨ u'.ownBlock = some w.heap.size) :
    Kp base g w (w'.setCell ⟨g, 0, none⟩ u') := by
  have hL' := hL.grown hg (hown.ne_lies hL ht)
  have hc : 0 < cs.size := (Array.getElem?_eq_some_iff.1 h0).1
  have hr : rowOf (w'.setCell ⟨g, 0, none⟩ u') g = u'.ownBlock := rowOf_lies (hL'.set 0 u') (by simp [hc])
  refine ⟨(below_grown hg hown (Nat.le_refl _) hb).setCell hbg _, fun k hk hne hkr => ?_, ?_⟩
  · rw [heap_setCell_other w' ⟨g, 0, none⟩ k u' hne]
    exact hg.block k hk (by rw [← rowOf_lies hL h0]; exact hkr)
  · rw [hr, rowOf_lies hL h0]
    rcases hob with e | e
    · exact .inl e
    · refine .inr fun k hk => ?_
      rw [e] at hk
      injection hk with hk
      omega
theorem Kp.from_drewN {n : Nat} (h : Kp base g (w.drewN n) w') : Kp base g w w' :=
  ⟨⟨h.below.os, h.below.tape, h.below.output, h.below.size, h.below.block⟩, h.rest, h.row⟩
theorem grown_set {base : Nat} (w : World) (g j : Nat) (u : Value) : w.grownBy (w.setCell ⟨g, j, none⟩ u) (some g) :=
  ⟨rfl, rfl, rfl, by simp [World.setCell], fun k _ hk => heap_setCell_other w ⟨g, j, none⟩ k u (fun e => hk (by simp [e]))⟩
theorem grown_drewN (w : World) (n : Nat) (row : Option Nat) : w.grownBy (w.drewN n) row := ⟨rfl, rfl, rfl, Nat.le_refl _, fun _ _ _ => rfl⟩
theorem grown_next {w'' : World} {row : Option Nat} (h : w.grownBy w' row) (k : w'.grownBy w'' row) : w.grownBy w'' row := grown_trans h k (.inl rfl)
end

section
variable {P : Program} {tb ts tt : TypeId}
theorem own_of {w : World} {base n : Nat} {tb : TypeId} {v : Value} {l : List UInt8} (hl : l.length = n) (h : w.ownsRow base tb 1 v n (l.map B)) : Own tb w base v l := by subst hl; exact h
theorem run_append_where (T : BT P tb ts tt) (w : World) (ty : TypeId) (base : Nat) (v : Value) (l : List UInt8) (hown : Own tb w base v l) (s : ByteArray) (hlen : l.length + s.size ≤ 70368744177664) :
    ∀ v' w', (Builtin.append_ #[ts, tt] ty #[v, .string s]).run P w = .ok v' w' → (v' = .slice none 0 0 ↔ v = .slice none 0 0 ∧ s.size = 0) → v'.ownBlock = v.ownBlock ∨ v'.ownBlock = some w.heap.size := by
  intro v' w' hr hiff
  obtain ⟨i, hi, hz, hsz, hby⟩ := info_parts T.info
  rcases hown.2 with ⟨rfl, hn⟩ | ⟨g, cap, cur, rfl, hbg, hg, hnc, hcm, hcs, htake⟩
  · by_cases h0 : s.size = 0
    · rw [hiff.2 ⟨rfl, h0⟩]; exact .inl rfl
    · have h2 := run_append_nil_string (P := P) w ts tt ty tb i (.int .u8 0) T.us T.ut hi hz s (by omega) (by omega) (by rw [hby]; omega)
      rw [h2] at hr
      injection hr with hr
      rw [← hr]
      exact .inr rfl
  · by_cases hroom : l.length + s.size ≤ cap
    · have h2 := Lib.run_append_room_string (P := P) w ts tt ty tb i T.us T.ut hi hsz g l.length cap cur hg s hroom (by omega)
      rw [h2] at hr
      injection hr with hr
      rw [← hr]
      exact .inl rfl
    · have h2 := Lib.run_append_grow_string (P := P) w ts tt ty tb i (.int .u8 0) T.us T.ut hi hz ⟨g, 0, none⟩ l.length cap (l.map B) (by rw [hsz, List.length_map, Nat.mul_one]) (World.ownsRow.cells hown (g := g) rfl) s (by omega) (by omega) (by rw [hby]; exact growslice_fits (by omega) (by omega))
      rw [h2] at hr
      injection hr with hr
      rw [← hr]
      exact .inr rfl

/-- append of a string onto bytes that the call owns: the new slice written out; its octets under a name of the prover's; where it lies. -/
theorem wpList_appendL (T : BT P tb ts tt) (w : World) {ops : Array Oper} {rest : List Oper} {o : Oper} {a : Act} {Q : Exit → Act → World → Prop} (hgd : o.guard = none) (s x : Operand)
    (ho : o.op = .call { callee := .builtin .append, args := #[s, x], argTypes := #[ts, tt] })
    (base : Nat) (v : Value) (l : List UInt8) (hs : a.eval s = v) (hown : Own tb w base v l)
    (t : ByteArray) (hx : a.eval x = .string t) (hlen : l.length + t.size ≤ 70368744177664) (hbase : base ≤ w.heap.size) (L : List UInt8) (hL : l ++ bs t = L)
    (h : ∀ A' cap' w', Own tb w' base (.slice A' L.length cap') L → w.grownBy w' v.ownBlock → ((Value.slice A' L.length cap').ownBlock = v.ownBlock ∨ (Value.slice A' L.length cap').ownBlock = some w.heap.size) → wpList P ops Q rest (a.put o.dst (.slice A' L.length cap')) w') :
    wpList P ops Q (o :: rest) a w := by
  subst hL
  refine wpList_plain hgd fun K hK => ?_
  obtain ⟨i, hi, hz, hsz, hby⟩ := info_parts T.info
  obtain ⟨v', w', hr, h2, h3, h4⟩ := Lib.run_append_own_string (P := P) w base ts tt o.type tb i T.us T.ut hi hz hsz hby v l.length (l.map B) hown t (by unfold maxLen; omega) (by omega) hbase
  have h5 := run_append_where T w o.type base v l hown t hlen v' w' hr h4
  have h6 : Own tb w' base v' (l ++ bs t) := own_of (by rw [List.length_append, bs_length]) (by rw [List.map_append]; exact h2)
  obtain ⟨A', cap', rfl⟩ := h6.shape
  unfold Oper.wp execOp
  simp only [ho, resolve, invoke, builtin, Sem.run_bind, Sem.run_pure, Result.andThen_ok, List.map_toArray, List.map_cons, List.map_nil, hs, hx, hr]
  exact hK _ _ (h A' cap' w' h6 h3 h5)

theorem take_splice {α : Type} (L : List α) (n k : Nat) (x : List α) (h : k + x.length ≤ n) (hn : n ≤ L.length) : (L.take k ++ x ++ L.drop (k + x.length)).take n = (L.take n).take k ++ (x ++ (L.take n).drop (k + x.length)) := by
  apply List.ext_getElem?
  intro j
  have hk : (L.take k).length = k := by rw [List.length_take]; omega
  have hk' : ((L.take n).take k).length = k := by rw [List.length_take, List.length_take]; omega
  by_cases h1 : j < k
  · rw [List.getElem?_take, if_pos (by omega), List.append_assoc, List.getElem?_append_left (by omega), List.getElem?_append_left (by omega), List.getElem?_take, if_pos h1, List.getElem?_take, if_pos h1, List.getElem?_take, if_pos (by omega)]
  · by_cases h2 : j < k + x.length
    · rw [List.getElem?_take, if_pos (by omega), List.append_assoc, List.getElem?_append_right (by omega), List.getElem?_append_left (by omega), List.getElem?_append_right (by omega), List.getElem?_append_left (by omega), hk, hk']
    · rw [List.append_assoc, List.getElem?_take, List.getElem?_append_right (by omega : ((L.take n).take k).length ≤ j), List.getElem?_append_right (by omega : x.length ≤ j - ((L.take n).take k).length), List.getElem?_drop, List.getElem?_take, hk']
      by_cases h3 : j < n
      · rw [if_pos h3, if_pos (by omega), List.getElem?_append_right (by omega), List.getElem?_append_right (by omega), List.getElem?_drop, hk]
      · rw [if_neg h3, if_neg (by omega)]

/-- copy of bytes into the midst of bytes that the call owns, as one step of a region that draws. -/
theorem step_copyB (T : BT P tb ts tt) {ops : Array Oper} {o : Oper} {a : Act} {w : World} {K : Act → World → Prop} {Q : Exit → Act → World → Prop} {E : Prop} (hgd : o.guard = none) (d s : Operand)
    (ho : o.op = .call { callee := .builtin .copy, args := #[d, s], argTypes := #[ts, ts] })
    (base g0 cap k : Nat) (l x : List UInt8) (hown : Own tb w base (.slice (some ⟨g0, 0, none⟩) l.length cap) l) (dLen dCap : Nat) (hd : a.eval d = .slice (some ⟨g0, k, none⟩) dLen dCap)
    (ad : Addr) (m c : Nat) (hs : a.eval s = .slice (some ad) m c) (hm : m = x.length) (hx : ∀ j u, (x.map B)[j]? = some u → w.cell? (ad.add j) = some u) (hfit : k + x.length ≤ l.length) (hdl : x.length ≤ dLen)
    (h : ∀ w', Own tb w' base (.slice (some ⟨g0, 0, none⟩) l.length cap) (over l k x) → w.grownBy w' (some g0) → K (a.put o.dst (goInt x.length)) w') :
    if Region.wanted o (yielded ops a.tmps) = true then Oper.wp P o a w K Q else E := by
  subst hm
  have hw : Region.wanted o (yielded ops a.tmps) = true := by simp [Region.wanted, hgd]
  rw [if_pos hw]
  obtain ⟨i, hi, hz, hsz, hby⟩ := info_parts T.info
  rcases hown.2 with ⟨h', _⟩ | ⟨g', cap', cur, h', hb, hg, hnc, hcm, hcs, htake⟩
  · simp at h'
  · simp only [Value.slice.injEq, Option.some.injEq, Addr.mk.injEq, and_true, true_and] at h'
    obtain ⟨rfl, rfl⟩ := h'
    have hlen : (x.map B).length = Nat.min x.length dLen := by rw [List.length_map]; exact (Nat.min_eq_left hdl).symm
    have hrun := run_copy_row (P := P) w ts ts o.type tb g0 k dLen dCap ad x.length c cur tb (x.map B) T.us (by rw [hi]; simp [hsz]) hg hlen hx (by rw [List.length_map, hcs]; omega) (fun v hv => by obtain ⟨b, _, rfl⟩ := List.mem_map.1 hv; rfl)
    rw [List.length_map] at hrun
    unfold Oper.wp
    simp [execOp, ho, resolve, invoke, builtin, hd, hs, hrun, Result.andThen]
    refine h _ (own_of (over_length l k x hfit) ⟨?_, .inr ⟨g0, cap, _, rfl, hb, setRow_heap w g0 _ _ tb _ hg, hnc, hcm, ?_, ?_⟩⟩) ⟨rfl, rfl, rfl, by simp [World.setRow], fun j _ hj => setRow_other w g0 j _ (fun e => hj (by rw [e]))⟩
    · rw [List.length_map, over_length l k x hfit, Nat.mul_one]
    · simp [hcs]; omega
    · have h2 := take_splice cur.toList (l.length * 1) k (x.map B) (by rw [List.length_map]; omega) (by show l.length * 1 ≤ cur.size; omega)
      rw [htake, List.length_map] at h2
      refine (congrArg (List.take (l.length * 1)) (show _ = cur.toList.take k ++ x.map B ++ cur.toList.drop (k + x.length) by simp)).trans (h2.trans ?_)
      simp [over, List.map_take, List.map_drop]
end

/-- A call that only reads: it hands back v. -/
def Quiet (w : World) (v : Value) (e : Ending) (w' : World) : Prop := e = .returned v ∧ ∃ m, w' = w.drewN m
end Go.Proofs.YtdpgcgaalamgkaaGreat
namespace Go.Proofs.YtdpgcgaalamgkaaGreat
open Go.RowKit
set_option linter.unusedVariables false

/-! ### A reader -/
/-- Block g is a reader of s, made by NewReader, at the place k. -/
def RD (w : World) (g : Nat) (s : ByteArray) (k : Nat) : Prop := Lies w g 249 #[.string s, .int .i64 k, .pointer (some ⟨g, 0, none⟩)]
/-- What a reader's call does: it hands back v, and its place is k' then. -/
def Rdr (w : World) (g : Nat) (s : ByteArray) (k' : Nat) (v : Value) (e : Ending) (w' : World) : Prop := e = .returned v ∧ RD w' g s k' ∧ w.grownBy w' (some g)

/-! ### A writer -/
/-- Block g is a writer, made by NewWriter, of at most M octets: it has the octets l, the error f. -/
def WR (w : World) (base g M : Nat) (l : List UInt8) (f : Nat) : Prop :=
  ∃ v, Lies w g 159 #[v, .int .i64 M, .int .i64 f, .pointer (some ⟨g, 0, none⟩)] ∧ Own 5 w base v l
/-- What a writer's call does: it hands back v; it has l', f' then. -/
def Wtr (w : World) (base g M : Nat) (l' : List UInt8) (f' : Nat) (v : Value) (e : Ending) (w' : World) : Prop := e = .returned v ∧ WR w' base g M l' f' ∧ Kp base g w w'
theorem WR.row_ne {w : World} {base g M : Nat} {l : List UInt8} {f h : Nat} {t : TypeId} {cs : Array Value} (hW : WR w base g M l f) (hL : Lies w h t cs) (ht : t ≠ 5) : some h ≠ rowOf w g := by
  obtain ⟨v, hG, hown⟩ := hW
  rw [rowOf_lies hG rfl]
  exact hown.ne_lies hL ht
/-- Another object stays. -/
theorem Kp.lies {w w' : World} {base base' g M : Nat} {l : List UInt8} {f h : Nat} {t : TypeId} {cs : Array Value} (hk : Kp base g w w') (hW : WR w base' g M l f) (hL : Lies w h t cs) (hne : h ≠ g) (ht : t ≠ 5) : Lies w' h t cs :=
  (hk.rest h hL.lt hne (hW.row_ne hL ht)).trans hL
/-- Another writer stays, whose row is another one. -/
theorem Kp.wr {w w' : World} {base base1 base2 g M h M' : Nat} {l l' : List UInt8} {f f' : Nat} (hk : Kp base g w w') (hW : WR w base1 g M l f) (hX : WR w base2 h M' l' f') (hne : h ≠ g) (hr : rowOf w h = none ∨ rowOf w h ≠ rowOf w g) :
    WR w' base2 h M' l' f' ∧ rowOf w' h = rowOf w h ∧ (rowOf w' h = none ∨ rowOf w' h ≠ rowOf w' g) := by
  obtain ⟨v, hL, hown⟩ := hX
  have hL' := hk.lies hW hL hne (by decide)
  have e1 := rowOf_lies hL rfl
  have e2 := rowOf_lies hL' rfl
  have e3 : rowOf w' h = rowOf w h := e2.trans e1.symm
  refine ⟨⟨v, hL', ?_⟩, e3, ?_⟩
  · rcases hown.2 with ⟨rfl, hn⟩ | ⟨b, cap, cur, rfl, h1, h2, h3⟩
    · exact ⟨hown.1, .inl ⟨rfl, hn⟩⟩
    · refine ⟨hown.1, .inr ⟨b, cap, cur, rfl, h1, ?_, h3⟩⟩
      have hb : some b ≠ rowOf w g := by
        rcases hr with e | e
        · rw [e1] at e; cases e
        · rw [e1] at e; exact e
      have hbg : b ≠ g := fun e => by
        subst e
        obtain ⟨v2, hL2, _⟩ := hW
        exact Lies.ne h2 hL2 (by decide) rfl
      exact (hk.rest b (Array.getElem?_eq_some_iff.1 h2).1 hbg hb).trans h2
  · rcases hown.2 with ⟨rfl, _⟩ | ⟨b, cap, cur, rfl, h1, h2, h3⟩
    · exact .inl e2
    · rw [e3]
      rcases hr with e | e
      · exact .inl e
      · refine .inr ?_
        rcases hk.row with e4 | e4
        · rw [e4]; exact e
        · intro e5
          rw [e1] at e5
          have h6 := e4 b e5.symm
          have h7 := (Array.getElem?_eq_some_iff.1 h2).1
          omega
end Go.Proofs.YtdpgcgaalamgkaaGreat
namespace Go.Proofs.YtdpgcgaalamgkaaGreat
open Go.RowKit
set_option linter.unusedVariables false

theorem infoR : (Tryz.prog.info? 249).isSome = true := by kernel_rfl
theorem eqlR (w : World) (a : Addr) : (binOp .eql 204 (.pointer (some a)) (.pointer (some a))).run Tryz.prog w = .ok (.bool true) w := by
  obtain ⟨j, hj⟩ := Option.isSome_iff_exists.1 infoR
  exact run_eql_ptr_same w a Tryz.underlying204 hj

theorem NewReader_any (s : ByteArray) (w : World) :
    Calls Tryz.prog 156 #[.string s] w fun e w' => e = .returned (.pointer (some ⟨w.heap.size, 0, none⟩)) ∧ RD w' w.heap.size s 0 ∧ Below w.heap.size w w' := by
  go_enter Tryz.func156, Tryz.ntmps156
  go_wp2
  go_ret
  refine ⟨rfl, ?_, ?_⟩
  · exact Lies.new _ _ _
  · exact (Below.refl _ _).alloc (Nat.le_refl _) _

theorem isWidth_any (n : Int) (w : World) :
    Calls Tryz.prog 172 #[.int .i64 n] w fun e w' => e = .returned (.bool (isW n)) ∧ w = w' := by
  have hc : isW n = (decide (1 ≤ n) && decide (n ≤ 4)) := by simp [isW]
  rw [hc]
  clear hc
  by_cases h1 : 1 ≤ n
  all_goals
    go_enter Tryz.func172, Tryz.ntmps172
    go_wp2
    go_ret
    simp [h1] <;> omega

theorem made_yes {g : Nat} {s : ByteArray} {k : Nat} {w : World} (h : RD w g s k) :
    Calls Tryz.prog 191 #[.pointer (some ⟨g, 0, none⟩)] w fun e w' => e = .returned (.bool true) ∧ w = w' := by
  have hc : w.cell? ⟨g, 2, none⟩ = some (.pointer (some ⟨g, 0, none⟩)) := h.cell 2
  have he := eqlR w ⟨g, 0, none⟩
  clear h
  go_enter Tryz.func191, Tryz.ntmps191
  go_wp2
  go_ret
  exact ⟨rfl, rfl⟩
theorem left_any {g : Nat} {s : ByteArray} {k : Nat} {w : World} (h : RD w g s k) (hs : s.size ≤ maxLen) (hk : k ≤ s.size) :
    Calls Tryz.prog 245 #[.pointer (some ⟨g, 0, none⟩)] w (Quiet w (.int .i64 ((s.size : Int) - k))) := by
  have hc0 : w.cell? ⟨g, 0, none⟩ = some (.string s) := h.cell 0
  have hc1 : w.cell? ⟨g, 1, none⟩ = some (.int .i64 k) := h.cell 1
  unfold maxLen at hs
  clear h
  have hw : IntKind.i64.wrap ((s.size : Int) - k) = (s.size : Int) - k := IntWalk.i64_in _ (by omega)
  go_enter Tryz.func245, Tryz.ntmps245
  go_wp2
  go_quiet (fail)
  go_wp2
  go_ret
  exact ⟨rfl, _, rfl⟩

/-- A string's part, as 'takR' has it. -/
theorem part_eq (s : ByteArray) (k n : Nat) : s.extract k (k + n) = ⟨(((bs s).drop k).take n).toArray⟩ := by
  refine bs_eq ?_
  rw [bs_extract]
  congr 1
  omega

theorem next_yes {g : Nat} {s : ByteArray} {k n : Nat} {w : World} (h : RD w g s k) (hs : s.size ≤ maxLen) (hk : k + n ≤ s.size) :
    Calls Tryz.prog 192 #[.pointer (some ⟨g, 0, none⟩), .int .i64 n] w (Rdr w g s (k + n) (.tuple #[.string ⟨(((bs s).drop k).take n).toArray⟩, .bool true])) := by
  have HC := Lib.hid (fun wx (hx : RD wx g s k) => left_any hx hs (by omega))
  have hc0 : w.cell? ⟨g, 0, none⟩ = some (.string s) := h.cell 0
  have hc1 : w.cell? ⟨g, 1, none⟩ = some (.int .i64 k) := h.cell 1
  have hf1 : w.frozen? ⟨g, 1, none⟩ = false := h.free 1
  have hdec : decide ((s.size : Int) - k < n) = false := by simp; omega
  have HP := Lib.hid (part_eq s k n)
  have hi1 : (0 : Int) ≤ (k : Int) := by omega
  have hi2 : (k : Int) ≤ (k : Int) + (n : Int) := by omega
  have hi3 : (k : Int) + (n : Int) ≤ (s.size : Int) := by omega
  have hi4 : ((k : Int) + (n : Int)).toNat = k + n := by omega
  have HR : Hid (RD w g s k) := Lib.hid h
  unfold maxLen at hs
  clear h
  go_enter Tryz.func192, Tryz.ntmps192
  go_wp2_with (go_at_call 245; refine (HC.out _ HR.out).mono ?_; rintro e w' ⟨rfl, nd, rfl⟩)
  go_quiet (fail)
  go_wp2
  go_ret2
  refine ⟨by rw [← HP.out]; rfl, ((HR.out.drewN nd).set 1 _).drewN nq, ?_⟩
  exact grown_next (grown_next (grown_drewN _ nd _) (grown_set (base := 0) _ g 1 _)) (grown_drewN _ nq _)
theorem next_no {g : Nat} {s : ByteArray} {k : Nat} {n : Int} {w : World} (h : RD w g s k) (hs : s.size ≤ maxLen) (hk : k ≤ s.size) (hn : (s.size : Int) - k < n) :
    Calls Tryz.prog 192 #[.pointer (some ⟨g, 0, none⟩), .int .i64 n] w (Quiet w (.tuple #[.string ⟨#[]⟩, .bool false])) := by
  have HC := Lib.hid (fun wx (hx : RD wx g s k) => left_any hx hs (by omega))
  have HR : Hid (RD w g s k) := Lib.hid h
  clear h
  go_enter Tryz.func192, Tryz.ntmps192
  go_wp2_with (go_at_call 245; refine (HC.out _ HR.out).mono ?_; rintro e w' ⟨rfl, nd, rfl⟩)
  go_ret2
  exact ⟨rfl, _, rfl⟩

theorem or32 (a c : Nat) (h : a * 256 + c < 4294967296) (hc : c < 256) : bits BinOp.or IntKind.u32 ((a : Int) * 256 % 4294967296) c = ((a * 256 + c : Nat) : Int) := by
  have h2 : a * 256 < 4294967296 := Nat.lt_of_le_of_lt (Nat.le_add_right _ _) h
  have h3 : c < 4294967296 := Nat.lt_trans hc (by decide)
  have e : (a : Int) * 256 % 4294967296 = ((a * 256 : Nat) : Int) := by omega
  rw [e, u32_or_nat (a * 256) c h2 h3]
  clear e h2 h3 h
  have h1 := Nat.shiftLeft_add_eq_or_of_lt (show c < 2 ^ 8 by omega) a
  rw [Nat.shiftLeft_eq] at h1
  rw [show (256 : Nat) = 2 ^ 8 by decide, h1]
theorem take_more' (s : ByteArray) (k : Nat) (h : k < s.size) : (bs s).take (k + 1) = (bs s).take k ++ [s[k]] := by
  rw [List.take_succ_eq_append_getElem (by rw [bs_length]; exact h)]; rfl
/-- The relation of joined's loop. -/
def JnRel (s : ByteArray) (w : World) (g : Nat) (v i : Value) (wr : World) : Prop :=
  ∃ k : Nat, i = .int .i64 k ∧ k ≤ s.size ∧ v = .int .u32 (num ((bs s).take k)) ∧ Row wr g (bs s) ∧ Below w.heap.size w wr
set_option maxHeartbeats 1000000 in
theorem joined_any (s : ByteArray) (w : World) (hs : s.size ≤ 4) :
    Calls Tryz.prog 193 #[.string s] w fun e w' => e = .returned (.int .u32 (num (bs s))) ∧ Below w.heap.size w w' := by
  have HM : Hid (s.size ≤ maxLen) := Lib.hid (by unfold maxLen; omega)
  go_enter Tryz.func193, Tryz.ntmps193
  go_wp2_with (refine wpList_bytes bt _ rfl _ rfl s rfl HM.out ?_; intro cap w1 hrow hb1 _ _ _)
  have HR0 : Hid (JnRel s w w.heap.size (.int .u32 0) (.int .i64 0) w1) := Lib.hid ⟨0, rfl, Nat.zero_le _, rfl, hrow, hb1⟩
  clear hrow hb1
  go_loopw [3, 9] (fun v i wr => JnRel s w w.heap.size v i wr) (fun _ i _ => s.size - (intOf i).toNat)
  case atStart => exact HR0.out
  case round =>
    clear HR0
    obtain ⟨k, rfl, hk, rfl, hrow, hb⟩ := hrel
    rcases Nat.lt_or_ge k s.size with hlt | hge
    · have hcell : wr.cell? ⟨w.heap.size, k, none⟩ = some (.int .u8 s[k].toNat) := hrow.cell k (by rw [bs_length]; exact hlt)
      have HT := Lib.hid (take_more' s k hlt)
      have hn := num_lt ((bs s).take k)
      have hl : ((bs s).take k).length = k := by rw [List.length_take, bs_length]; omega
      rw [hl] at hn
      have hp := pow_le4 (show k + 1 ≤ 4 by omega)
      rw [Nat.pow_succ] at hp
      have hc256 : s[k].toNat < 256 := s[k].toNat_lt
      have HV : Hid (bits BinOp.or IntKind.u32 (↑(num ((bs s).take k)) * 256 % 4294967296) ↑s[k].toNat = ((num ((bs s).take (k + 1)) : Nat) : Int)) := Lib.hid (by
        rw [HT.out, num_snoc]
        exact or32 _ _ (by omega) hc256)
      clear hn hl hp
      go_wp2
      go_roundw
      case rel => exact ⟨k + 1, by go_num, by omega, by rw [HV.out], hrow, hb⟩
      case measure => simp [intOf]; omega
    · have ht : (bs s).take k = bs s := List.take_of_length_le (by rw [bs_length]; omega)
      rw [ht]
      clear ht
      go_wp2
      go_ret
      exact ⟨rfl, hb⟩

/-! ### The methods -/
theorem numR_bad {l : List UInt8} {k : Nat} {n : Int} (h : isW n = false) : numR l k n = ⟨[], 2, k⟩ := if_pos h
theorem numR_take {l : List UInt8} {k : Nat} {n : Int} (h : isW n = true) : numR l k n = takR l k n := if_neg (by simp [h])
theorem takR_neg {l : List UInt8} {k : Nat} {n : Int} (h : n < 0) : takR l k n = ⟨[], 2, k⟩ := if_pos h
theorem takR_more {l : List UInt8} {k : Nat} {n : Int} (h0 : 0 ≤ n) (h : (l.length : Int) - k < n) : takR l k n = ⟨[], 8, k⟩ := by
  unfold takR
  rw [if_neg (by omega), if_pos h]
theorem takR_some {l : List UInt8} {k n : Nat} (h : k + n ≤ l.length) : takR l k (n : Int) = ⟨(l.drop k).take n, 0, k + n⟩ := by
  unfold takR
  rw [if_neg (by omega), if_neg (by omega)]
  rfl
theorem isW_yes {n : Int} (h : isW n = true) : 1 ≤ n ∧ n ≤ 4 := by simpa [isW] using h
theorem rdr_quiet {w w' : World} {g : Nat} {s : ByteArray} {k : Nat} {v : Value} (h : RD w g s k) (m : Nat) (hw : w' = w.drewN m) : Rdr w g s k v (.returned v) w' := by
  subst hw
  exact ⟨rfl, h.drewN m, grown_drewN _ _ _⟩
theorem Rdr.to {w w' : World} {g k k' : Nat} {s : ByteArray} {v v' : Value} {e : Ending} (h : Rdr w g s k v e w') (hk : k = k') (hv : v = v') : Rdr w g s k' v' e w' := by
  subst hk; subst hv; exact h

set_option maxHeartbeats 1000000 in
theorem rTake_any {g : Nat} {s : ByteArray} {k : Nat} {w : World} (n : Int) (h : RD w g s k) (hs : s.size ≤ maxLen) (hk : k ≤ s.size) :
    Calls Tryz.prog 203 #[.pointer (some ⟨g, 0, none⟩), .int .i64 n] w (Rdr w g s (takR (bs s) k n).k (.tuple #[.string ⟨(takR (bs s) k n).s.toArray⟩, .int .i64 (takR (bs s) k n).e])) := by
  have HR : Hid (RD w g s k) := Lib.hid h
  have HM := Lib.hid (fun wx (hx : RD wx g s k) => made_yes hx)
  by_cases h0 : n < 0
  · rw [takR_neg h0]
    clear h hs hk
    go_enter Tryz.func203, Tryz.ntmps203
    go_wp2_with (go_at_call 191; refine (HM.out _ HR.out).mono ?_; rintro e w' ⟨rfl, rfl⟩)
    go_ret2
    exact rdr_quiet HR.out 0 rfl
  · have h0' : 0 ≤ n := by omega
    clear h0
    by_cases hn : (s.size : Int) - k < n
    · have HN := Lib.hid (fun wx (hx : RD wx g s k) => next_no hx hs hk hn)
      rw [takR_more h0' (by rw [bs_length]; exact hn)]
      clear h hs hk hn
      go_enter Tryz.func203, Tryz.ntmps203
      go_wp2_with (first | (go_at_call 191; refine (HM.out _ HR.out).mono ?_; rintro e w' ⟨rfl, rfl⟩) | (go_at_call 192; refine (HN.out _ HR.out).mono ?_; rintro e w' ⟨rfl, nd, rfl⟩))
      go_ret2
      exact rdr_quiet HR.out _ rfl
    · obtain ⟨n, rfl⟩ := Int.eq_ofNat_of_zero_le h0'
      have HN := Lib.hid (fun wx (hx : RD wx g s k) => next_yes (n := n) hx hs (by omega))
      rw [takR_some (by rw [bs_length]; omega)]
      clear h hs hk hn
      go_enter Tryz.func203, Tryz.ntmps203
      go_wp2_with (first | (go_at_call 191; refine (HM.out _ HR.out).mono ?_; rintro e w' ⟨rfl, rfl⟩) | (go_at_call 192; refine (HN.out _ HR.out).mono ?_; rintro e w1 ⟨rfl, hr1, hg1⟩; have HR1 := Lib.hid hr1; have HG1 := Lib.hid hg1; clear hr1 hg1))
      go_ret2
      exact ⟨rfl, HR1.out, HG1.out⟩
theorem tosize (l : List UInt8) : (⟨l.toArray⟩ : ByteArray).size = l.length := by rw [← bs_length, bs_mk]
set_option maxHeartbeats 1000000 in
theorem rNumber_any {g : Nat} {s : ByteArray} {k : Nat} {w : World} (n : Int) (h : RD w g s k) (hs : s.size ≤ maxLen) (hk : k ≤ s.size) :
    Calls Tryz.prog 157 #[.pointer (some ⟨g, 0, none⟩), .int .i64 n] w (Rdr w g s (numR (bs s) k n).k (.tuple #[.int .u32 (num (numR (bs s) k n).s), .int .i64 (numR (bs s) k n).e])) := by
  have HR : Hid (RD w g s k) := Lib.hid h
  have HM := Lib.hid (fun wx (hx : RD wx g s k) => made_yes hx)
  cases hw : isW n
  · rw [numR_bad hw]
    clear h hs hk
    have HI := Lib.hid (isWidth_any n)
    rw [hw] at HI
    clear hw
    go_enter Tryz.func157, Tryz.ntmps157
    go_wp2_with (first | (go_at_call 191; refine (HM.out _ HR.out).mono ?_; rintro e w' ⟨rfl, rfl⟩) | (go_at_call 172; refine (HI.out _).mono ?_; rintro e w' ⟨rfl, rfl⟩))
    go_ret2
    exact rdr_quiet HR.out 0 rfl
  · obtain ⟨h1, h4⟩ := isW_yes hw
    rw [numR_take hw]
    have HI := Lib.hid (isWidth_any n)
    rw [hw] at HI
    clear hw
    by_cases hn : (s.size : Int) - k < n
    · have HN := Lib.hid (fun wx (hx : RD wx g s k) => next_no hx hs hk hn)
      rw [takR_more (by omega) (by rw [bs_length]; exact hn)]
      clear h hs hk hn
      go_enter Tryz.func157, Tryz.ntmps157
      go_wp2_with (first | (go_at_call 191; refine (HM.out _ HR.out).mono ?_; rintro e w' ⟨rfl, rfl⟩) | (go_at_call 172; refine (HI.out _).mono ?_; rintro e w' ⟨rfl, rfl⟩) | (go_at_call 192; refine (HN.out _ HR.out).mono ?_; rintro e w' ⟨rfl, nd, rfl⟩))
      go_ret2
      exact rdr_quiet HR.out _ rfl
    · obtain ⟨n, rfl⟩ := Int.eq_ofNat_of_zero_le (show 0 ≤ n by omega)
      have HN := Lib.hid (fun wx (hx : RD wx g s k) => next_yes (n := n) hx hs (by omega))
      rw [takR_some (by rw [bs_length]; omega)]
      have HJ := Lib.hid (fun wx => joined_any ⟨(((bs s).drop k).take n).toArray⟩ wx (by rw [tosize, List.length_take]; omega))
      rw [bs_mk] at HJ
      clear h hs hk hn
      go_enter Tryz.func157, Tryz.ntmps157
      go_wp2_with (first | (go_at_call 191; refine (HM.out _ HR.out).mono ?_; rintro e w' ⟨rfl, rfl⟩) | (go_at_call 172; refine (HI.out _).mono ?_; rintro e w' ⟨rfl, rfl⟩) | (go_at_call 192; refine (HN.out _ HR.out).mono ?_; rintro e w1 ⟨rfl, hr1, hg1⟩; have HR1 := Lib.hid hr1; have HG1 := Lib.hid hg1; clear hr1 hg1) | (go_at_call 193; refine (HJ.out _).mono ?_; rintro e w2 ⟨rfl, hb2⟩))
      go_ret2
      exact ⟨rfl, HR1.out.next hb2, grown_below HG1.out hb2⟩
theorem seekR_bad {l : List UInt8} {k : Nat} {n : Int} (h : n < 0 ∨ (l.length : Int) < n) : seekR l k n = (2, k) := if_pos h
theorem seekR_some {l : List UInt8} {k n : Nat} (h : n ≤ l.length) : seekR l k (n : Int) = (0, n) := if_neg (by omega)
set_option maxHeartbeats 1000000 in
theorem rSeek_any {g : Nat} {s : ByteArray} {k : Nat} {w : World} (n : Int) (h : RD w g s k) (hs : s.size ≤ maxLen) (hk : k ≤ s.size) :
    Calls Tryz.prog 196 #[.pointer (some ⟨g, 0, none⟩), .int .i64 n] w (Rdr w g s (seekR (bs s) k n).2 (.int .i64 (seekR (bs s) k n).1)) := by
  have HR : Hid (RD w g s k) := Lib.hid h
  have HM := Lib.hid (fun wx (hx : RD wx g s k) => made_yes hx)
  have hc0 : w.cell? ⟨g, 0, none⟩ = some (.string s) := h.cell 0
  have hc1 : w.cell? ⟨g, 1, none⟩ = some (.int .i64 k) := h.cell 1
  have hf1 : w.frozen? ⟨g, 1, none⟩ = false := h.free 1
  clear h
  by_cases h0 : n < 0
  · rw [seekR_bad (.inl h0)]
    go_enter Tryz.func196, Tryz.ntmps196
    go_wp2_with (go_at_call 191; refine (HM.out _ HR.out).mono ?_; rintro e w' ⟨rfl, rfl⟩)
    go_ret
    exact rdr_quiet HR.out 0 rfl
  · have h0' : 0 ≤ n := by omega
    clear h0
    by_cases hn : (s.size : Int) < n
    · rw [seekR_bad (.inr (by rw [bs_length]; exact hn))]
      go_enter Tryz.func196, Tryz.ntmps196
      go_wp2_with (go_at_call 191; refine (HM.out _ HR.out).mono ?_; rintro e w' ⟨rfl, rfl⟩)
      go_ret
      exact rdr_quiet HR.out 0 rfl
    · obtain ⟨n, rfl⟩ := Int.eq_ofNat_of_zero_le h0'
      rw [seekR_some (by rw [bs_length]; omega)]
      have hd : decide (s.size < n) = false := by simp; omega
      go_enter Tryz.func196, Tryz.ntmps196
      go_wp2_with (go_at_call 191; refine (HM.out _ HR.out).mono ?_; rintro e w' ⟨rfl, rfl⟩)
      go_ret
      exact ⟨rfl, HR.out.set 1 _, grown_set (base := 0) _ g 1 _⟩
theorem rAt_any {g : Nat} {s : ByteArray} {k : Nat} {w : World} (h : RD w g s k) :
    Calls Tryz.prog 199 #[.pointer (some ⟨g, 0, none⟩)] w fun e w' => e = .returned (.int .i64 k) ∧ w = w' := by
  have HR : Hid (RD w g s k) := Lib.hid h
  have HM := Lib.hid (fun wx (hx : RD wx g s k) => made_yes hx)
  have hc1 : w.cell? ⟨g, 1, none⟩ = some (.int .i64 k) := h.cell 1
  clear h
  go_enter Tryz.func199, Tryz.ntmps199
  go_wp2_with (go_at_call 191; refine (HM.out _ HR.out).mono ?_; rintro e w' ⟨rfl, rfl⟩)
  go_ret
  exact ⟨rfl, rfl⟩
theorem rLeft_any {g : Nat} {s : ByteArray} {k : Nat} {w : World} (h : RD w g s k) (hs : s.size ≤ maxLen) (hk : k ≤ s.size) :
    Calls Tryz.prog 188 #[.pointer (some ⟨g, 0, none⟩)] w (Quiet w (.int .i64 ((s.size : Int) - k))) := by
  have HR : Hid (RD w g s k) := Lib.hid h
  have HM := Lib.hid (fun wx (hx : RD wx g s k) => made_yes hx)
  have HL := Lib.hid (fun wx (hx : RD wx g s k) => left_any hx hs hk)
  clear h hs hk
  go_enter Tryz.func188, Tryz.ntmps188
  go_wp2_with (first | (go_at_call 191; refine (HM.out _ HR.out).mono ?_; rintro e w' ⟨rfl, rfl⟩) | (go_at_call 245; refine (HL.out _ HR.out).mono ?_; rintro e w' ⟨rfl, nd, rfl⟩))
  go_ret
  exact ⟨rfl, _, rfl⟩
end Go.Proofs.YtdpgcgaalamgkaaGreat
namespace Go.Proofs.YtdpgcgaalamgkaaGreat
open Go.RowKit
set_option linter.unusedVariables false

theorem infoW : (Tryz.prog.info? 159).isSome = true := by kernel_rfl
theorem eqlW (w : World) (a : Addr) : (binOp .eql 80 (.pointer (some a)) (.pointer (some a))).run Tryz.prog w = .ok (.bool true) w := by
  obtain ⟨j, hj⟩ := Option.isSome_iff_exists.1 infoW
  exact run_eql_ptr_same w a Tryz.underlying80 hj

/-- What WR says of the object's cells. -/
theorem WR.most {w : World} {base g M : Nat} {l : List UInt8} {f : Nat} (h : WR w base g M l f) : w.cell? ⟨g, 1, none⟩ = some (.int .i64 M) ∧ w.frozen? ⟨g, 0, none⟩ = false ∧ w.frozen? ⟨g, 2, none⟩ = false ∧ w.cell? ⟨g, 2, none⟩ = some (.int .i64 f) ∧ w.cell? ⟨g, 3, none⟩ = some (.pointer (some ⟨g, 0, none⟩)) := by
  obtain ⟨v, hL, _⟩ := h
  exact ⟨hL.cell 1, hL.free 0, hL.free 2, hL.cell 2, hL.cell 3⟩
theorem WR.drewN {w : World} {base g M : Nat} {l : List UInt8} {f : Nat} (h : WR w base g M l f) (m : Nat) : WR (w.drewN m) base g M l f := h

/-- What NewWriter does. -/
def NewW (w : World) (M : Nat) (e : Ending) (w' : World) : Prop := e = .returned (.pointer (some ⟨w.heap.size, 0, none⟩)) ∧ WR w' w.heap.size w.heap.size M [] 0 ∧ rowOf w' w.heap.size = none ∧ Below w.heap.size w w'
theorem NewWriter_any (n : Int) (w : World) (hn : n ≤ 9223372036854775807) :
    Calls Tryz.prog 47 #[.int .i64 n] w (NewW w n.toNat) := by
  rcases Int.lt_or_le n 0 with h0 | h0
  · obtain ⟨M, hM⟩ : ∃ M, M = n.toNat := ⟨_, rfl⟩
    have hM0 : M = 0 := by omega
    rw [← hM, hM0]
    clear hM hM0
    go_enter Tryz.func47, Tryz.ntmps47
    go_wp2
    go_ret
    exact ⟨rfl, ⟨_, Lies.new _ _ _, Own.none_ _ _⟩, rowOf_lies (u := .slice none 0 0) (Lies.new _ _ _) rfl, (Below.refl _ _).alloc (Nat.le_refl _) _⟩
  · obtain ⟨M, rfl⟩ := Int.eq_ofNat_of_zero_le h0
    rw [Int.toNat_natCast]
    go_enter Tryz.func47, Tryz.ntmps47
    go_wp2
    go_ret
    exact ⟨rfl, ⟨_, Lies.new _ _ _, Own.none_ _ _⟩, rowOf_lies (u := .slice none 0 0) (Lies.new _ _ _) rfl, (Below.refl _ _).alloc (Nat.le_refl _) _⟩

theorem wmade_yes {base g M : Nat} {l : List UInt8} {f : Nat} {w : World} (h : WR w base g M l f) :
    Calls Tryz.prog 114 #[.pointer (some ⟨g, 0, none⟩)] w fun e w' => e = .returned (.bool true) ∧ w = w' := by
  have hc : w.cell? ⟨g, 3, none⟩ = some (.pointer (some ⟨g, 0, none⟩)) := h.most.2.2.2.2
  have he := eqlW w ⟨g, 0, none⟩
  clear h
  go_enter Tryz.func114, Tryz.ntmps114
  go_wp2
  go_ret
  exact ⟨rfl, rfl⟩
theorem wErr_any {base g M : Nat} {l : List UInt8} {f : Nat} {w : World} (h : WR w base g M l f) :
    Calls Tryz.prog 111 #[.pointer (some ⟨g, 0, none⟩)] w fun e w' => e = .returned (.int .i64 f) ∧ w = w' := by
  have HW := Lib.hid h
  have HM := Lib.hid (fun wx (hx : WR wx base g M l f) => wmade_yes hx)
  have hc : w.cell? ⟨g, 2, none⟩ = some (.int .i64 f) := h.most.2.2.2.1
  clear h
  go_enter Tryz.func111, Tryz.ntmps111
  go_wp2_with (go_at_call 114; refine (HM.out _ HW.out).mono ?_; rintro e w' ⟨rfl, rfl⟩)
  go_ret
  exact ⟨rfl, rfl⟩
theorem wLen_any {base g M : Nat} {l : List UInt8} {f : Nat} {w : World} (h : WR w base g M l f) :
    Calls Tryz.prog 109 #[.pointer (some ⟨g, 0, none⟩)] w fun e w' => e = .returned (.int .i64 l.length) ∧ w = w' := by
  have HW := Lib.hid h
  have HM := Lib.hid (fun wx (hx : WR wx base g M l f) => wmade_yes hx)
  obtain ⟨v, hL, hown⟩ := h
  obtain ⟨A, cap, rfl⟩ := hown.shape
  have hc : w.cell? ⟨g, 0, none⟩ = some (.slice A l.length cap) := hL.cell 0
  clear hL hown
  go_enter Tryz.func109, Tryz.ntmps109
  go_wp2_with (go_at_call 114; refine (HM.out _ HW.out).mono ?_; rintro e w' ⟨rfl, rfl⟩)
  go_ret
  exact ⟨rfl, rfl⟩
theorem wText_any {base g M : Nat} {l : List UInt8} {f : Nat} {w : World} (h : WR w base g M l f) :
    Calls Tryz.prog 59 #[.pointer (some ⟨g, 0, none⟩)] w fun e w' => e = .returned (.string ⟨l.toArray⟩) ∧ w = w' := by
  have HW := Lib.hid h
  have HM := Lib.hid (fun wx (hx : WR wx base g M l f) => wmade_yes hx)
  obtain ⟨v, hL, hown⟩ := h
  have hcv := bt.conv_own hown
  obtain ⟨A, cap, rfl⟩ := hown.shape
  have hc : w.cell? ⟨g, 0, none⟩ = some (.slice A l.length cap) := hL.cell 0
  clear hL hown
  go_enter Tryz.func59, Tryz.ntmps59
  go_wp2_with (go_at_call 114; refine (HM.out _ HW.out).mono ?_; rintro e w' ⟨rfl, rfl⟩)
  go_ret
  exact ⟨rfl, rfl⟩
theorem div_zero (v m : Nat) (h : 0 < m) : (((v : Int) / (m : Int)) == 0) = decide (v < m) := by
  rw [Bool.eq_iff_iff, beq_iff_eq, decide_eq_true_iff]
  have e : (v : Int) / (m : Int) = ((v / m : Nat) : Int) := by omega
  rw [e, Int.natCast_eq_zero, Nat.div_eq_zero_iff]
  omega
theorem ret_bool {a b : Bool} (h : a = b) : Ending.returned (.bool a) = .returned (.bool b) := by rw [h]
theorem hasRoom_any (v : Nat) (n : Int) (w : World) (hv : v < 4294967296) :
    Calls Tryz.prog 148 #[.int .u32 v, .int .i64 n] w fun e w' => e = .returned (.bool (room v n)) ∧ w = w' := by
  have HI := Lib.hid (isWidth_any n)
  cases hw : isW n
  · rw [hw] at HI
    have HB : Hid (room v n = false) := Lib.hid (by unfold room; rw [hw]; rfl)
    clear hw
    go_enter Tryz.func148, Tryz.ntmps148
    go_wp2_with (go_at_call 172; refine (HI.out _).mono ?_; rintro e w' ⟨rfl, rfl⟩)
    go_ret
    exact ⟨by rw [HB.out]; rfl, rfl⟩
  · obtain ⟨h1, h4⟩ := isW_yes hw
    rw [hw] at HI
    have hb : room v n = decide (v < 256 ^ n.toNat) := by unfold room; rw [hw]; rfl
    clear hw
    obtain rfl | rfl | rfl | rfl : n = 1 ∨ n = 2 ∨ n = 3 ∨ n = 4 := by omega
    all_goals
      have HB := Lib.hid hb
      clear hb h1 h4
      go_enter Tryz.func148, Tryz.ntmps148
      go_wp2_with (go_at_call 172; refine (HI.out _).mono ?_; rintro e w' ⟨rfl, rfl⟩)
      go_ret
      rw [HB.out]
      first | exact ⟨ret_bool (div_zero v 256 (by decide)), rfl⟩ | exact ⟨ret_bool (div_zero v 65536 (by decide)), rfl⟩ | exact ⟨ret_bool (div_zero v 16777216 (by decide)), rfl⟩ | exact ⟨ret_bool (div_zero v 4294967296 (by decide)), rfl⟩

theorem made_own {w1 : World} {base n : Nat} {tb : TypeId} {v : Value} (h : w1.ownsRow base tb 1 v n (madeCells (Value.int .u8 0).cells (n * 1)).toList) : w1.ownsRow base tb 1 v n ((List.replicate n (0 : UInt8)).map B) := by
  have e : (madeCells (Value.int .u8 0).cells (n * 1)).toList = (List.replicate n (0 : UInt8)).map B := by
    rw [Nat.mul_one, List.map_replicate]
    exact toList_madeCells_one _ _
  rw [← e]
  exact h
theorem shr8 (v m : Nat) : (v : Int) / 2 ^ (8 * m) % 256 = ((UInt8.ofNat (v / 256 ^ m)).toNat : Int) := by
  have e : (2 : Int) ^ (8 * m) = ((256 ^ m : Nat) : Int) := by
    rw [show (256 : Nat) = 2 ^ 8 by decide, ← Nat.pow_mul]
    exact (Int.natCast_pow 2 (8 * m)).symm
  rw [ofNat_val, Int.natCast_emod, Int.natCast_ediv, e]
  rfl
/-- The relation of cut's loop. -/
def CutRel (v n : Nat) (w : World) (sh i : Value) (wr : World) : Prop :=
  ∃ k : Nat, i = .int .i64 k ∧ k ≤ n ∧ sh = .int .i64 ((8 * (n - k) : Nat) : Int) ∧ wr.ownsRow w.heap.size 5 1 (.slice (some ⟨w.heap.size, 0, none⟩) n n) n ((front v n k).map B) ∧ Below w.heap.size w wr
set_option maxHeartbeats 1000000 in
theorem cut_any (v n : Nat) (w : World) (hv : v < 4294967296) (hn : n ≤ 4) :
    Calls Tryz.prog 149 #[.int .u32 v, .int .i64 n] w fun e w' => e = .returned (.slice (some ⟨w.heap.size, 0, none⟩) n n) ∧ Own 5 w' w.heap.size (.slice (some ⟨w.heap.size, 0, none⟩) n n) (octs v n) ∧ Below w.heap.size w w' := by
  obtain ⟨i0, hi, hz0, hz1, hz2⟩ := info_parts bt.info
  obtain ⟨w1, hmk, hown, hg⟩ := run_make_full w w.heap.size 58 5 i0 (.int .u8 0) 1 bt.us hi hz0 hz1 .i64 .i64 n (by rw [hz2]; omega) (by unfold maxLen; omega) (Nat.le_refl _)
  have HB1 := Lib.hid ((Below.refl w.heap.size w).grown hg (Nat.le_refl _) (by simp))
  have HO1 := Lib.hid (made_own hown)
  rw [← front_zero v n] at HO1
  have HR0 : Hid (CutRel v n w (.int .i64 (8 * (n : Int))) (.int .i64 0) w1) := Lib.hid ⟨0, rfl, Nat.zero_le _, by rw [Nat.sub_zero]; congr 1, HO1.out, HB1.out⟩
  clear hi hz0 hz1 hz2 hown hg HO1
  go_enter Tryz.func149, Tryz.ntmps149
  go_wp2
  clear hmk
  go_loopw [6, 13] (fun sh i wr => CutRel v n w sh i wr) (fun _ i _ => n - (intOf i).toNat)
  case atStart => exact HR0.out
  case round =>
    clear HR0
    obtain ⟨k, rfl, hk, rfl, hown, hb⟩ := hrel
    rcases Nat.lt_or_ge k n with hlt | hge
    · obtain ⟨u, hcell⟩ : ∃ u, wr.cell? ⟨w.heap.size, k, none⟩ = some u := by
        have hfl := front_length (v := v) hk
        exact ⟨B ((front v n k)[k]'(by omega)), by rw [World.ownsRow.cellAt hown k (by omega), List.getElem?_map, List.getElem?_eq_getElem (by omega)]; rfl⟩
      have hfr : wr.frozen? ⟨w.heap.size, k, none⟩ = false := World.ownsRow.frozenAt hown k
      have HV : Hid (Value.int .u8 ((v : Int) / 2 ^ (8 * (n - k) - 8) % 256) = B (UInt8.ofNat (v / 256 ^ (n - 1 - k)))) := Lib.hid (by
        rw [show 8 * (n - k) - 8 = 8 * (n - 1 - k) by omega, shr8]
        rfl)
      have HS : Hid (Value.int .i64 (8 * ((n - k : Nat) : Int) - 8) = Value.int .i64 ((8 * (n - (k + 1)) : Nat) : Int)) := Lib.hid (by congr 1; omega)
      have HF := Lib.hid (front_step (v := v) hlt)
      have HO := Lib.hid hown
      clear hown
      go_wp2
      go_roundw
      case rel =>
        have h1 := (World.ownsRow.stored HO.out k (B (UInt8.ofNat (v / 256 ^ (n - 1 - k))))).1
        rw [← List.map_set, HF.out] at h1
        exact ⟨k + 1, by go_num, by omega, HS.out, by rw [HV.out]; exact h1, hb.setCell (by simp) _⟩
      case measure => simp [intOf]; omega
    · obtain rfl : k = n := by omega
      rw [front_end] at hown
      have HO := Lib.hid hown
      clear hown
      go_wp2
      go_ret
      exact ⟨rfl, own_of (octs_length _ _) HO.out, hb⟩

/-! ### Put, Number, Patch -/
theorem Wtr.keep {w : World} {base g M : Nat} {l : List UInt8} {f : Nat} {v : Value} (h : WR w base g M l f) : Wtr w base g M l f v (.returned v) w := ⟨rfl, h, Kp.refl _ _ _⟩
theorem putW_err {M : Nat} {l : List UInt8} {f : Nat} {s : List UInt8} (h : f ≠ 0) : putW M l f s = ⟨f, l, f⟩ := if_pos h
theorem putW_long {M : Nat} {l : List UInt8} {s : List UInt8} (h : M < l.length + s.length) : putW M l 0 s = ⟨3, l, 3⟩ := by
  unfold putW
  rw [if_neg (by omega), if_pos h]
theorem putW_ok {M : Nat} {l : List UInt8} {s : List UInt8} (h : l.length + s.length ≤ M) : putW M l 0 s = ⟨0, l ++ s, 0⟩ := by
  unfold putW
  rw [if_neg (by omega), if_neg (by omega)]
set_option maxHeartbeats 1000000 in
theorem wPut_any {base g M : Nat} {l : List UInt8} {f : Nat} {w : World} (s : ByteArray) (h : WR w base g M l f) (hb : base ≤ g) (hl : l.length ≤ M) (hM : M ≤ 9223372036854775807) (hll : l.length ≤ 1099511627776) (hs : s.size ≤ 1099511627776) :
    Calls Tryz.prog 146 #[.pointer (some ⟨g, 0, none⟩), .string s] w (Wtr w base g M (putW M l f (bs s)).l (putW M l f (bs s)).f (.int .i64 (putW M l f (bs s)).e)) := by
  have HW := Lib.hid h
  have HE := Lib.hid (fun wx (hx : WR wx base g M l f) => wErr_any hx)
  by_cases hf : f = 0
  · subst hf
    obtain ⟨v, hL, hown⟩ := h
    have hbw : base ≤ w.heap.size := Nat.le_trans hb (Nat.le_of_lt hL.lt)
    obtain ⟨A, cap, rfl⟩ := hown.shape
    have hc0 : w.cell? ⟨g, 0, none⟩ = some (.slice A l.length cap) := hL.cell 0
    have hc1 : w.cell? ⟨g, 1, none⟩ = some (.int .i64 M) := hL.cell 1
    have hc2 : w.cell? ⟨g, 2, none⟩ = some (.int .i64 0) := hL.cell 2
    have hf0 : w.frozen? ⟨g, 0, none⟩ = false := hL.free 0
    have hf2 : w.frozen? ⟨g, 2, none⟩ = false := hL.free 2
    have hw : IntKind.i64.wrap ((M : Int) - l.length) = (M : Int) - l.length := IntWalk.i64_in _ (by omega)
    have HL := Lib.hid hL
    have HO := Lib.hid hown
    clear hL hown
    by_cases hlong : M < l.length + s.size
    · have hd : decide ((M : Int) - l.length < s.size) = true := by simp; omega
      rw [putW_long (by rw [bs_length]; exact hlong)]
      clear hlong
      go_enter Tryz.func146, Tryz.ntmps146
      go_wp2_with (go_at_call 111; refine (HE.out _ HW.out).mono ?_; rintro e w' ⟨rfl, rfl⟩)
      go_quiet (fail)
      go_wp2
      go_ret
      exact ⟨rfl, ⟨_, (HL.out.drewN nq).set 2 _, Own.grown (w := w.drewN nq) HO.out (grown_set (base := 0) _ g 2 _) (.inr (Own.ne_lies HO.out HL.out (by decide)).symm)⟩, Kp.from_drewN (n := nq) (Kp.of_grown (w := w.drewN nq) (grown_set (base := 0) _ g 2 _) hb hbw (rowOf_set _ g (by decide) _))⟩
    · have hd : decide ((M : Int) - l.length < s.size) = false := by simp; omega
      rw [putW_ok (by rw [bs_length]; omega)]
      obtain ⟨L, hL'⟩ : ∃ L, l ++ bs s = L := ⟨_, rfl⟩
      rw [hL']
      have HLL := Lib.hid hL'
      clear hlong hL'
      go_enter Tryz.func146, Tryz.ntmps146
      go_wp2_with (go_at_call 111; refine (HE.out _ HW.out).mono ?_; rintro e w' ⟨rfl, rfl⟩)
      go_quiet (fail)
      have hLL : l.length + s.size ≤ 70368744177664 := by omega
      have hbw' : base ≤ (w.drewN nq).heap.size := hbw
      go_wp2_with (at_builtin; refine wpList_appendL bt _ rfl (.tmp 35) (.tmp 36) rfl base (.slice A l.length cap) l rfl HO.out s rfl hLL hbw' L HLL.out ?_; intro A3 cap3 w3 hown3 hg3 hob3; have HB3 := Lib.hid hob3; clear hob3; have HO3 := Lib.hid hown3; have HG3 := Lib.hid hg3; have HL3 := Lib.hid (Lies.grown (w := w.drewN nq) HL.out hg3 (Own.ne_lies HO.out HL.out (by decide))); clear hown3 hg3; have hc3 := HL3.out.cell 0; have hf3 := HL3.out.free 0)
      go_ret
      refine ⟨rfl, ⟨_, HL3.out.set 0 _, Own.grown HO3.out (grown_set (base := 0) _ g 0 _) (.inr (Own.ne_lies HO3.out HL3.out (by decide)).symm)⟩, ?_⟩
      exact Kp.from_drewN (n := nq) (Kp.of_put (w := w.drewN nq) (HL.out.drewN nq) rfl HO.out (by decide) HG3.out hbw hb HB3.out)
  · rw [putW_err hf]
    have hfb : ((f : Int) != 0) = true := by rw [bne_iff_ne]; omega
    clear h hf
    go_enter Tryz.func146, Tryz.ntmps146
    go_wp2_with (go_at_call 111; refine (HE.out _ HW.out).mono ?_; rintro e w' ⟨rfl, rfl⟩)
    go_ret
    exact Wtr.keep HW.out

theorem numW_err {M : Nat} {l : List UInt8} {f v : Nat} {n : Int} (h : f ≠ 0) : numW M l f v n = ⟨f, l, f⟩ := if_pos h
theorem numW_arg {M : Nat} {l : List UInt8} {v : Nat} {n : Int} (h : room v n = false) : numW M l 0 v n = ⟨2, l, 0⟩ := by
  unfold numW
  rw [if_neg (by omega), if_pos h]
theorem numW_put {M : Nat} {l : List UInt8} {v : Nat} {n : Int} (h : room v n = true) : numW M l 0 v n = putW M l 0 (octs v n.toNat) := by
  unfold numW
  rw [if_neg (by omega), if_neg (by simp [h])]
theorem WR.next {w w' : World} {base g M : Nat} {l : List UInt8} {f : Nat} (h : WR w base g M l f) (hb : Below w.heap.size w w') : WR w' base g M l f := by
  obtain ⟨v, hL, hown⟩ := h
  exact ⟨v, hL.next hb, hown.below hb (Nat.le_refl _)⟩
theorem WR.lt {w : World} {base g M : Nat} {l : List UInt8} {f : Nat} (h : WR w base g M l f) : g < w.heap.size := by
  obtain ⟨v, hL, _⟩ := h
  exact hL.lt
set_option maxHeartbeats 1000000 in
theorem wNumber_any {base g M : Nat} {l : List UInt8} {f : Nat} {w : World} (v : Nat) (n : Int) (h : WR w base g M l f) (hv : v < 4294967296) (hb : base ≤ g) (hl : l.length ≤ M) (hM : M ≤ 9223372036854775807) (hll : l.length ≤ 1099511627776) :
    Calls Tryz.prog 103 #[.pointer (some ⟨g, 0, none⟩), .int .u32 v, .int .i64 n] w (Wtr w base g M (numW M l f v n).l (numW M l f v n).f (.int .i64 (numW M l f v n).e)) := by
  have HW := Lib.hid h
  have HE := Lib.hid (fun wx (hx : WR wx base g M l f) => wErr_any hx)
  have hbw : base ≤ w.heap.size := Nat.le_trans hb (Nat.le_of_lt h.lt)
  by_cases hf : f = 0
  · subst hf
    have HH := Lib.hid (fun wx => hasRoom_any v n wx hv)
    cases hr : room v n
    · rw [numW_arg hr]
      rw [hr] at HH
      clear h hr
      go_enter Tryz.func103, Tryz.ntmps103
      go_wp2_with (first | (go_at_call 111; refine (HE.out _ HW.out).mono ?_; rintro e w' ⟨rfl, rfl⟩) | (go_at_call 148; refine (HH.out _).mono ?_; rintro e w' ⟨rfl, rfl⟩))
      go_ret
      exact Wtr.keep HW.out
    · rw [numW_put hr]
      rw [hr] at HH
      obtain ⟨h1, h4, _⟩ := room_yes hr
      obtain ⟨n, rfl⟩ := Int.eq_ofNat_of_zero_le (show 0 ≤ n by omega)
      rw [Int.toNat_natCast]
      have HC := Lib.hid (fun wx => cut_any v n wx hv (by omega))
      have hos : (⟨(octs v n).toArray⟩ : ByteArray).size ≤ 1099511627776 := by rw [tosize, octs_length]; omega
      have HP := Lib.hid (fun wx (hx : WR wx base g M l 0) => wPut_any ⟨(octs v n).toArray⟩ hx hb hl hM hll hos)
      rw [bs_mk] at HP
      clear h hr hos
      go_enter Tryz.func103, Tryz.ntmps103
      go_wp2_with (first | (go_at_call 111; refine (HE.out _ HW.out).mono ?_; rintro e w' ⟨rfl, rfl⟩) | (go_at_call 148; refine (HH.out _).mono ?_; rintro e w' ⟨rfl, rfl⟩) | (go_at_call 149; refine (HC.out _).mono ?_; rintro e w1 ⟨rfl, hown1, hb1⟩; have hcv := bt.conv_own hown1; have HB1 := Lib.hid hb1; clear hown1 hb1) | (go_at_call 146; refine (HP.out _ (HW.out.next HB1.out)).mono ?_; rintro e w2 ⟨rfl, hw2, hk2⟩; have HW2 := Lib.hid hw2; have HK2 := Lib.hid hk2; clear hw2 hk2))
      go_ret
      exact ⟨rfl, HW2.out, (Kp.of_below HB1.out hbw HW.out.lt).trans HK2.out⟩
  · rw [numW_err hf]
    have hfb : ((f : Int) != 0) = true := by rw [bne_iff_ne]; omega
    clear h hf
    go_enter Tryz.func103, Tryz.ntmps103
    go_wp2_with (go_at_call 111; refine (HE.out _ HW.out).mono ?_; rintro e w' ⟨rfl, rfl⟩)
    go_ret
    exact Wtr.keep HW.out
end Go.Proofs.YtdpgcgaalamgkaaGreat
