/-
  Objects that a call makes and that its callees write: a block known whole; what stays, where one object is written; appends and copies of bytes. Conditions: those that each theorem names. A reader, a writer of octets, as the program's blocks. Conditions: those that each theorem names. The part of a name that begins at a place: the walk of unpack.partAt. Condition: the octets are no longer than Go's own limit, the place is within them. A walk along a name, as the program's block; what its calls do; append of a string as a step of a region that draws. Conditions: those that each theorem names. What an address' octets are: the walks of addr.joined, elder, newer, cut. Conditions: as each theorem names them. Rows that can be read, cut in parts; numbers' octets. Conditions: as each theorem names them. Addresses of octets, and their octets: the walks of addr.elder, newer, Four, Check, allOctets, octetsOf, Octets, Of. Conditions: as each theorem names them. Newer addresses of their parts: the walks of addr.newer. Conditions: as each theorem names them. Addresses of octets: the walk of addr.Of. Condition: the text is no longer than Go's own limit.
-/
import Derived.Test.YtdpgcgaalamgkaaGreatZk0
import Derived.Deep.QuietTactic
import Derived.BigQuiet
import Derived.IntWalk
import Derived.Laws.CopyOwn
import Derived.Test.YtdpgcgaalamgkaaGreatZk1
import Derived.Deep.RegionLaw
import Derived.Deep.RegionHeld3
import Derived.Laws.BitsAllLaws
import Derived.Laws.Bits64
import Derived.Laws.ResultCell
import Derived.Laws.Rows
namespace Go.Proofs.YtdpgcgaalamgkaaGreat
open Go.RowKit
set_option linter.unusedVariables false

/-- Block g bears the cells cs, of type t; all may be written. -/
def Lies (w : World) (g : Nat) (t : TypeId) (cs : Array Value) : Prop := w.heap[g]? = some (.cells cs t (0, 0))
section
variable {w w' : World} {g base k : Nat} {t tb : TypeId} {cs : Array Value} {v : Value} {l : List UInt8}
theorem Lies.lt (h : Lies w g t cs) : g < w.heap.size := (Array.getElem?_eq_some_iff.1 h).1
theorem Lies.cell (h : Lies w g t cs) (j : Nat) : w.cell? ⟨g, j, none⟩ = cs[j]? := cell_of_row w g j cs t (0, 0) h
theorem Lies.free (h : Lies w g t cs) (j : Nat) : w.frozen? ⟨g, j, none⟩ = false := frozen_of_row w g j cs t h
theorem Lies.set (h : Lies w g t cs) (j : Nat) (u : Value) : Lies (w.setCell ⟨g, j, none⟩ u) g t (cs.setIfInBounds j u) := heap_setCell_same w g j cs t u h
theorem Lies.grown {row : Option Nat} (h : Lies w g t cs) (hg : w.grownBy w' row) (hne : some g ≠ row) : Lies w' g t cs := (hg.block g h.lt hne).trans h
theorem Lies.below (h : Lies w g t cs) (hb : Below k w w') (hk : g < k) : Lies w' g t cs := (hb.block g hk).trans h
theorem Lies.next (h : Lies w g t cs) (hb : Below w.heap.size w w') : Lies w' g t cs := h.below hb h.lt
theorem Lies.drew (h : Lies w g t cs) : Lies w.drew g t cs := h
theorem Lies.drewN (h : Lies w g t cs) (n : Nat) : Lies (w.drewN n) g t cs := h
theorem Lies.alloc (h : Lies w g t cs) (o : Obj) : Lies (w.alloc o) g t cs := (heap_alloc_old w o h.lt).trans h
theorem Lies.new (w : World) (t : TypeId) (cs : Array Value) : Lies (w.alloc (.cells cs t)) w.heap.size t cs := heap_alloc_new w _
theorem Lies.ne {t' : TypeId} {cs' : Array Value} {g' : Nat} (h : Lies w g t cs) (h' : Lies w g' t' cs') (ht : t ≠ t') : g ≠ g' := fun e => by
  subst e
  have e : some (Obj.cells cs t (0, 0)) = some (Obj.cells cs' t' (0, 0)) := h.symm.trans h'
  injection e with e
  injection e with _ e _
  exact ht e
theorem Own.ne_lies (h : Own tb w base v l) (hL : Lies w g t cs) (ht : t ≠ tb) : some g ≠ v.ownBlock := by
  intro e
  rcases h.2 with ⟨rfl, _⟩ | ⟨g', cap, cur, rfl, _, hh, _⟩
  · simp [Value.ownBlock] at e
  · have : g = g' := by simpa [Value.ownBlock] using e
    subst this
    exact Lies.ne hL hh ht rfl
theorem Own.grown {row : Option Nat} (h : Own tb w base v l) (hg : w.grownBy w' row) (hne : v.ownBlock = none ∨ v.ownBlock ≠ row) : Own tb w' base v l := World.ownsRow.kept h hg hne
theorem Own.base_le {base' : Nat} (h : Own tb w base v l) (hb : base' ≤ base) : Own tb w base' v l :=
  ⟨h.1, h.2.imp id fun ⟨g, cap, cur, h1, h2, h3⟩ => ⟨g, cap, cur, h1, Nat.le_trans hb h2, h3⟩⟩

/-- The block of the row that lies in the first cell of block g. -/
def rowOf (w : World) (g : Nat) : Option Nat := (w.cell? ⟨g, 0, none⟩).bind Value.ownBlock
theorem rowOf_cell {u : Value} (h : w.cell? ⟨g, 0, none⟩ = some u) : rowOf w g = u.ownBlock := by
  unfold rowOf
  rw [h]
  rfl
theorem rowOf_lies {u : Value} (h : Lies w g t cs) (h0 : cs[0]? = some u) : rowOf w g = u.ownBlock := rowOf_cell ((h.cell 0).trans h0)
theorem rowOf_same (h : w'.heap[g]? = w.heap[g]?) : rowOf w' g = rowOf w g := by
  unfold rowOf
  rw [World.cell?_of_block (w := w) (w' := w') (a := ⟨g, 0, none⟩) h]
theorem rowOf_set (w : World) (g : Nat) {j : Nat} (hj : j ≠ 0) (u : Value) : rowOf (w.setCell ⟨g, j, none⟩ u) g = rowOf w g := by
  unfold rowOf
  rw [World.cell?_setCell_other w ⟨g, j, none⟩ ⟨g, 0, none⟩ u (fun e => hj (congrArg Addr.off e))]

/-- w' is w, but for block g and the row of bytes that lies in its first cell: those may have been written, the row may be a new one. -/
structure Kp (base g : Nat) (w w' : World) : Prop where
  below : Below base w w'
  rest : ∀ k, k < w.heap.size → k ≠ g → some k ≠ rowOf w g → w'.heap[k]? = w.heap[k]?
  row : rowOf w' g = rowOf w g ∨ ∀ k, rowOf w' g = some k → w.heap.size ≤ k
theorem Kp.refl (base g : Nat) (w : World) : Kp base g w w := ⟨Below.refl _ _, fun _ _ _ _ => rfl, .inl rfl⟩
theorem Kp.trans {w'' : World} (h : Kp base g w w') (k : Kp base g w' w'') : Kp base g w w'' := by
  refine ⟨h.below.trans k.below, fun i hi hg hr => ?_, ?_⟩
  · refine (k.rest i (Nat.lt_of_lt_of_le hi h.below.size) hg ?_).trans (h.rest i hi hg hr)
    rcases h.row with e | e
    · rw [e]; exact hr
    · intro e2
      have := e i e2.symm
      omega
  · rcases k.row with e | e
    · rw [e]; exact h.row
    · exact .inr fun i hi => Nat.le_trans h.below.size (e i hi)
theorem Kp.of_grown (hg : w.grownBy w' (some g)) (hbase : base ≤ g) (hb : base ≤ w.heap.size) (hr : rowOf w' g = rowOf w g) : Kp base g w w' :=
  ⟨(Below.refl base w).grown hg hb fun k hk => by injection hk with hk; omega, fun k hk hne _ => hg.block k hk (fun e => hne (by injection e)), .inl hr⟩
theorem Kp.of_below (hg : Below w.heap.size w w') (hb : base ≤ w.heap.size) (hlt : g < w.heap.size) : Kp base g w w' :=
  ⟨hg.mono hb, fun k hk _ _ => hg.block k hk, .inl (rowOf_same (hg.block g hlt))⟩
/-- The row is written in its place. -/
theorem Kp.of_row {u : Value} (hL : Lies w g t cs) (h0 : cs[0]? = some u) (hown : Own tb w base u l) (ht : t ≠ tb) (hg : w.grownBy w' u.ownBlock) (hb : base ≤ w.heap.size) : Kp base g w w' :=
  ⟨below_grown hg hown (Nat.le_refl _) hb, fun k hk _ hr => hg.block k hk (by rw [← rowOf_lies hL h0]; exact hr), .inl (by rw [rowOf_lies (hL.grown hg (hown.ne_lies hL ht)) h0, rowOf_lies hL h0])⟩
/-- The row is made longer, and stored into the first cell. -/
theorem Kp.of_put {u u' : Value} (hL : Lies w g t cs) (h0 : cs[0]? = some u) (hown : Own tb w base u l) (ht : t ≠ tb) (hg : w.grownBy w' u.ownBlock) (hb : base ≤ w.heap.size) (hbg : base ≤ g) (hob : u'.ownBlock = u.ownBlock ∨ u'.ownBlock = some w.heap.size) :
    Kp base g w (w'.setCell ⟨g, 0, none⟩ u') := by
  have hL' := hL.grown hg (hown.ne_lies hL ht)
  have hc : 0 < cs.size := (Array.getElem?_eq_some_iff.1 h0).1
  have hr : rowOf (w'.setCell ⟨g, 0, none⟩ u') g = u'.ownBlock := rowOf_lies (hL'.set 0 u') (by simp [hc])
  refine ⟨(below_grown hg hown (Nat.le_refl _) hb).setCell hbg _, fun k hk hne hkr => ?_, ?_⟩
  · rw [heap_setCell_other w' ⟨g, 0, none⟩ k u' hne]
    exact hg.block k hk (by rw [← rowOf_lies hL h0]; exact hkr)
  · rw [hr, rowOf_lies hL h0]
    rcases hob with e | e
    · exact .inl e
    · refine .inr fun k hk => ?_
      rw [e] at hk
      injection hk with hk
      omega
theorem Kp.from_drewN {n : Nat} (h : Kp base g (w.drewN n) w') : Kp base g w w' :=
  ⟨⟨h.below.os, h.below.tape, h.below.output, h.below.size, h.below.block⟩, h.rest, h.row⟩
theorem grown_set {base : Nat} (w : World) (g j : Nat) (u : Value) : w.grownBy (w.setCell ⟨g, j, none⟩ u) (some g) :=
  ⟨rfl, rfl, rfl, by simp [World.setCell], fun k _ hk => heap_setCell_other w ⟨g, j, none⟩ k u (fun e => hk (by simp [e]))⟩
theorem grown_drewN (w : World) (n : Nat) (row : Option Nat) : w.grownBy (w.drewN n) row := ⟨rfl, rfl, rfl, Nat.le_refl _, fun _ _ _ => rfl⟩
theorem grown_next {w'' : World} {row : Option Nat} (h : w.grownBy w' row) (k : w'.grownBy w'' row) : w.grownBy w'' row := grown_trans h k (.inl rfl)
end

section
variable {P : Program} {tb ts tt : TypeId}
theorem own_of {w : World} {base n : Nat} {tb : TypeId} {v : Value} {l : List UInt8} (hl : l.length = n) (h : w.ownsRow base tb 1 v n (l.map B)) : Own tb w base v l := by subst hl; exact h
theorem run_append_where (T : BT P tb ts tt) (w : World) (ty : TypeId) (base : Nat) (v : Value) (l : List UInt8) (hown : Own tb w base v l) (s : ByteArray) (hlen : l.length + s.size ≤ 70368744177664) :
    ∀ v' w', (Builtin.append_ #[ts, tt] ty #[v, .string s]).run P w = .ok v' w' → (v' = .slice none 0 0 ↔ v = .slice none 0 0 ∧ s.size = 0) → v'.ownBlock = v.ownBlock ∨ v'.ownBlock = some w.heap.size := by
  intro v' w' hr hiff
  obtain ⟨i, hi, hz, hsz, hby⟩ := info_parts T.info
  rcases hown.2 with ⟨rfl, hn⟩ | ⟨g, cap, cur, rfl, hbg, hg, hnc, hcm, hcs, htake⟩
  · by_cases h0 : s.size = 0
    · rw [hiff.2 ⟨rfl, h0⟩]; exact .inl rfl
    · have h2 := run_append_nil_string (P := P) w ts tt ty tb i (.int .u8 0) T.us T.ut hi hz s (by omega) (by omega) (by rw [hby]; omega)
      rw [h2] at hr
      injection hr with hr
      rw [← hr]
      exact .inr rfl
  · by_cases hroom : l.length + s.size ≤ cap
    · have h2 := Lib.run_append_room_string (P := P) w ts tt ty tb i T.us T.ut hi hsz g l.length cap cur hg s hroom (by omega)
      rw [h2] at hr
      injection hr with hr
      rw [← hr]
      exact .inl rfl
    · have h2 := Lib.run_append_grow_string (P := P) w ts tt ty tb i (.int .u8 0) T.us T.ut hi hz ⟨g, 0, none⟩ l.length cap (l.map B) (by rw [hsz, List.length_map, Nat.mul_one]) (World.ownsRow.cells hown (g := g) rfl) s (by omega) (by omega) (by rw [hby]; exact growslice_fits (by omega) (by omega))
      rw [h2] at hr
      injection hr with hr
      rw [← hr]
      exact .inr rfl

/-- append of a string onto bytes that the call owns: the new slice written out; its octets under a name of the prover's; where it lies. -/
theorem wpList_appendL (T : BT P tb ts tt) (w : World) {ops : Array Oper} {rest : List Oper} {o : Oper} {a : Act} {Q : Exit → Act → World → Prop} (hgd : o.guard = none) (s x : Operand)
    (ho : o.op = .call { callee := .builtin .append, args := #[s, x], argTypes := #[ts, tt] })
    (base : Nat) (v : Value) (l : List UInt8) (hs : a.eval s = v) (hown : Own tb w base v l)
    (t : ByteArray) (hx : a.eval x = .string t) (hlen : l.length + t.size ≤ 70368744177664) (hbase : base ≤ w.heap.size) (L : List UInt8) (hL : l ++ bs t = L)
    (h : ∀ A' cap' w', Own tb w' base (.slice A' L.length cap') L → w.grownBy w' v.ownBlock → ((Value.slice A' L.length cap').ownBlock = v.ownBlock ∨ (Value.slice A' L.length cap').ownBlock = some w.heap.size) → wpList P ops Q rest (a.put o.dst (.slice A' L.length cap')) w') :
    wpList P ops Q (o :: rest) a w := by
  subst hL
  refine wpList_plain hgd fun K hK => ?_
  obtain ⟨i, hi, hz, hsz, hby⟩ := info_parts T.info
  obtain ⟨v', w', hr, h2, h3, h4⟩ := Lib.run_append_own_string (P := P) w base ts tt o.type tb i T.us T.ut hi hz hsz hby v l.length (l.map B) hown t (by unfold maxLen; omega) (by omega) hbase
  have h5 := run_append_where T w o.type base v l hown t hlen v' w' hr h4
  have h6 : Own tb w' base v' (l ++ bs t) := own_of (by rw [List.length_append, bs_length]) (by rw [List.map_append]; exact h2)
  obtain ⟨A', cap', rfl⟩ := h6.shape
  unfold Oper.wp execOp
  simp only [ho, resolve, invoke, builtin, Sem.run_bind, Sem.run_pure, Result.andThen_ok, List.map_toArray, List.map_cons, List.map_nil, hs, hx, hr]
  exact hK _ _ (h A' cap' w' h6 h3 h5)

theorem take_splice {α : Type} (L : List α) (n k : Nat) (x : List α) (h : k + x.length ≤ n) (hn : n ≤ L.length) : (L.take k ++ x ++ L.drop (k + x.length)).take n = (L.take n).take k ++ (x ++ (L.take n).drop (k + x.length)) := by
  apply List.ext_getElem?
  intro j
  have hk : (L.take k).length = k := by rw [List.length_take]; omega
  have hk' : ((L.take n).take k).length = k := by rw [List.length_take, List.length_take]; omega
  by_cases h1 : j < k
  · rw [List.getElem?_take, if_pos (by omega), List.append_assoc, List.getElem?_append_left (by omega), List.getElem?_append_left (by omega), List.getElem?_take, if_pos h1, List.getElem?_take, if_pos h1, List.getElem?_take, if_pos (by omega)]
  · by_cases h2 : j < k + x.length
    · rw [List.getElem?_take, if_pos (by omega), List.append_assoc, List.getElem?_append_right (by omega), List.getElem?_append_left (by omega), List.getElem?_append_right (by omega), List.getElem?_append_left (by omega), hk, hk']
    · rw [List.append_assoc, List.getElem?_take, List.getElem?_append_right (by omega : ((L.take n).take k).length ≤ j), List.getElem?_append_right (by omega : x.length ≤ j - ((L.take n).take k).length), List.getElem?_drop, List.getElem?_take, hk']
      by_cases h3 : j < n
      · rw [if_pos h3, if_pos (by omega), List.getElem?_append_right (by omega), List.getElem?_append_right (by omega), List.getElem?_drop, hk]
      · rw [if_neg h3, if_neg (by omega)]

/-- copy of bytes into the midst of bytes that the call owns, as one step of a region that draws. -/
theorem step_copyB (T : BT P tb ts tt) {ops : Array Oper} {o : Oper} {a : Act} {w : World} {K : Act → World → Prop} {Q : Exit → Act → World → Prop} {E : Prop} (hgd : o.guard = none) (d s : Operand)
    (ho : o.op = .call { callee := .builtin .copy, args := #[d, s], argTypes := #[ts, ts] })
    (base g0 cap k : Nat) (l x : List UInt8) (hown : Own tb w base (.slice (some ⟨g0, 0, none⟩) l.length cap) l) (dLen dCap : Nat) (hd : a.eval d = .slice (some ⟨g0, k, none⟩) dLen dCap)
    (ad : Addr) (m c : Nat) (hs : a.eval s = .slice (some ad) m c) (hm : m = x.length) (hx : ∀ j u, (x.map B)[j]? = some u → w.cell? (ad.add j) = some u) (hfit : k + x.length ≤ l.length) (hdl : x.length ≤ dLen)
    (h : ∀ w', Own tb w' base (.slice (some ⟨g0, 0, none⟩) l.length cap) (over l k x) → w.grownBy w' (some g0) → K (a.put o.dst (goInt x.length)) w') :
    if Region.wanted o (yielded ops a.tmps) = true then Oper.wp P o a w K Q else E := by
  subst hm
  have hw : Region.wanted o (yielded ops a.tmps) = true := by simp [Region.wanted, hgd]
  rw [if_pos hw]
  obtain ⟨i, hi, hz, hsz, hby⟩ := info_parts T.info
  rcases hown.2 with ⟨h', _⟩ | ⟨g', cap', cur, h', hb, hg, hnc, hcm, hcs, htake⟩
  · simp at h'
  · simp only [Value.slice.injEq, Option.some.injEq, Addr.mk.injEq, and_true, true_and] at h'
    obtain ⟨rfl, rfl⟩ := h'
    have hlen : (x.map B).length = Nat.min x.length dLen := by rw [List.length_map]; exact (Nat.min_eq_left hdl).symm
    have hrun := run_copy_row (P := P) w ts ts o.type tb g0 k dLen dCap ad x.length c cur tb (x.map B) T.us (by rw [hi]; simp [hsz]) hg hlen hx (by rw [List.length_map, hcs]; omega) (fun v hv => by obtain ⟨b, _, rfl⟩ := List.mem_map.1 hv; rfl)
    rw [List.length_map] at hrun
    unfold Oper.wp
    simp [execOp, ho, resolve, invoke, builtin, hd, hs, hrun, Result.andThen]
    refine h _ (own_of (over_length l k x hfit) ⟨?_, .inr ⟨g0, cap, _, rfl, hb, setRow_heap w g0 _ _ tb _ hg, hnc, hcm, ?_, ?_⟩⟩) ⟨rfl, rfl, rfl, by simp [World.setRow], fun j _ hj => setRow_other w g0 j _ (fun e => hj (by rw [e]))⟩
    · rw [List.length_map, over_length l k x hfit, Nat.mul_one]
    · simp [hcs]; omega
    · have h2 := take_splice cur.toList (l.length * 1) k (x.map B) (by rw [List.length_map]; omega) (by show l.length * 1 ≤ cur.size; omega)
      rw [htake, List.length_map] at h2
      refine (congrArg (List.take (l.length * 1)) (show _ = cur.toList.take k ++ x.map B ++ cur.toList.drop (k + x.length) by simp)).trans (h2.trans ?_)
      simp [over, List.map_take, List.map_drop]
end

/-- A call that only reads: it hands back v. -/
def Quiet (w : World) (v : Value) (e : Ending) (w' : World) : Prop := e = .returned v ∧ ∃ m, w' = w.drewN m
end Go.Proofs.YtdpgcgaalamgkaaGreat
namespace Go.Proofs.YtdpgcgaalamgkaaGreat
open Go.RowKit
set_option linter.unusedVariables false

/-! ### A reader -/
/-- Block g is a reader of s, made by NewReader, at the place k. -/
def RD (w : World) (g : Nat) (s : ByteArray) (k : Nat) : Prop := Lies w g 249 #[.string s, .int .i64 k, .pointer (some ⟨g, 0, none⟩)]
/-- What a reader's call does: it hands back v, and its place is k' then. -/
def Rdr (w : World) (g : Nat) (s : ByteArray) (k' : Nat) (v : Value) (e : Ending) (w' : World) : Prop := e = .returned v ∧ RD w' g s k' ∧ w.grownBy w' (some g)

/-! ### A writer -/
/-- Block g is a writer, made by NewWriter, of at most M octets: it has the octets l, the error f. -/
def WR (w : World) (base g M : Nat) (l : List UInt8) (f : Nat) : Prop :=
  ∃ v, Lies w g 159 #[v, .int .i64 M, .int .i64 f, .pointer (some ⟨g, 0, none⟩)] ∧ Own 5 w base v l
/-- What a writer's call does: it hands back v; it has l', f' then. -/
def Wtr (w : World) (base g M : Nat) (l' : List UInt8) (f' : Nat) (v : Value) (e : Ending) (w' : World) : Prop := e = .returned v ∧ WR w' base g M l' f' ∧ Kp base g w w'
theorem WR.row_ne {w : World} {base g M : Nat} {l : List UInt8} {f h : Nat} {t : TypeId} {cs : Array Value} (hW : WR w base g M l f) (hL : Lies w h t cs) (ht : t ≠ 5) : some h ≠ rowOf w g := by
  obtain ⟨v, hG, hown⟩ := hW
  rw [rowOf_lies hG rfl]
  exact hown.ne_lies hL ht
/-- Another object stays. -/
theorem Kp.lies {w w' : World} {base base' g M : Nat} {l : List UInt8} {f h : Nat} {t : TypeId} {cs : Array Value} (hk : Kp base g w w') (hW : WR w base' g M l f) (hL : Lies w h t cs) (hne : h ≠ g) (ht : t ≠ 5) : Lies w' h t cs :=
  (hk.rest h hL.lt hne (hW.row_ne hL ht)).trans hL
/-- Another writer stays, whose row is another one. -/
theorem Kp.wr {w w' : World} {base base1 base2 g M h M' : Nat} {l l' : List UInt8} {f f' : Nat} (hk : Kp base g w w') (hW : WR w base1 g M l f) (hX : WR w base2 h M' l' f') (hne : h ≠ g) (hr : rowOf w h = none ∨ rowOf w h ≠ rowOf w g) :
    WR w' base2 h M' l' f' ∧ rowOf w' h = rowOf w h ∧ (rowOf w' h = none ∨ rowOf w' h ≠ rowOf w' g) := by
  obtain ⟨v, hL, hown⟩ := hX
  have hL' := hk.lies hW hL hne (by decide)
  have e1 := rowOf_lies hL rfl
  have e2 := rowOf_lies hL' rfl
  have e3 : rowOf w' h = rowOf w h := e2.trans e1.symm
  refine ⟨⟨v, hL', ?_⟩, e3, ?_⟩
  · rcases hown.2 with ⟨rfl, hn⟩ | ⟨b, cap, cur, rfl, h1, h2, h3⟩
    · exact ⟨hown.1, .inl ⟨rfl, hn⟩⟩
    · refine ⟨hown.1, .inr ⟨b, cap, cur, rfl, h1, ?_, h3⟩⟩
      have hb : some b ≠ rowOf w g := by
        rcases hr with e | e
        · rw [e1] at e; cases e
        · rw [e1] at e; exact e
      have hbg : b ≠ g := fun e => by
        subst e
        obtain ⟨v2, hL2, _⟩ := hW
        exact Lies.ne h2 hL2 (by decide) rfl
      exact (hk.rest b (Array.getElem?_eq_some_iff.1 h2).1 hbg hb).trans h2
  · rcases hown.2 with ⟨rfl, _⟩ | ⟨b, cap, cur, rfl, h1, h2, h3⟩
    · exact .inl e2
    · rw [e3]
      rcases hr with e | e
      · exact .inl e
      · refine .inr ?_
        rcases hk.row with e4 | e4
        · rw [e4]; exact e
        · intro e5
          rw [e1] at e5
          have h6 := e4 b e5.symm
          have h7 := (Array.getElem?_eq_some_iff.1 h2).1
          omega
end Go.Proofs.YtdpgcgaalamgkaaGreat
namespace Go.Proofs.YtdpgcgaalamgkaaGreat
open Go.RowKit
set_option linter.unusedVariables false

theorem ret2 {a b : ByteArray} {x y : Int} (h : a = b) (h' : x = y) : Ending.returned (.tuple #[.string a, .int .i64 x]) = .returned (.tuple #[.string b, .int .i64 y]) := by rw [h, h']
theorem bs_cons {R : ByteArray} (h : 0 < R.size) : ∃ t, bs R = R[0] :: t ∧ t.length + 1 = R.size := by
  have h1 := drop_at R 0 h
  rw [List.drop_zero] at h1
  refine ⟨_, h1, ?_⟩
  have := congrArg List.length h1
  rw [bs_length, List.length_cons] at this
  omega
theorem part_head {R : ByteArray} {n : Nat} : (⟨((bs R).take n).toArray⟩ : ByteArray) = R.extract 0 n := bs_inj (by rw [bs_mk, bs_extract]; simp)
theorem isEmpty_no {R : ByteArray} (h : 0 < R.size) : R.toList.isEmpty = false := by
  rw [bs_toList]
  obtain ⟨t, ht, _⟩ := bs_cons h
  rw [ht]
  rfl
theorem toList_ne {R : ByteArray} (h : 0 < R.size) : ¬ R.toList = [] := by
  rw [bs_toList]
  obtain ⟨t, ht, _⟩ := bs_cons h
  rw [ht]
  simp
set_option maxHeartbeats 400000 in
theorem partAt_any (S : ByteArray) (k : Nat) (w : World) (hs : S.size ≤ maxLen) (hk : k ≤ S.size) :
    Calls Tryz.prog 266 #[.string S, .int .i64 k] w fun e w' => e = .returned (.tuple #[.string ⟨(((bs S).drop k).take (partU ((bs S).drop k)).1).toArray⟩, .int .i64 (partU ((bs S).drop k)).2]) ∧ w = w' := by
  unfold maxLen at hs
  obtain ⟨R, hR⟩ : ∃ R, S.extract k S.size = R := ⟨_, rfl⟩
  have hRb : (bs S).drop k = bs R := by rw [← hR, bs_extract, List.take_of_length_le]; rw [List.length_drop, bs_length]; exact Nat.le_refl _
  have hRs : R.size = S.size - k := by rw [← bs_length, ← hRb, List.length_drop, bs_length]
  rw [hRb]
  have hb1 : (0 : Int) ≤ (k : Int) := by omega
  have hb2 : (k : Int) ≤ (S.size : Int) := by omega
  clear hRb
  by_cases h0 : R.size = 0
  · have hb0 : bs R = [] := List.eq_nil_of_length_eq_zero (by rw [bs_length]; exact h0)
    have he : R.toList.isEmpty = true := by rw [bs_toList, hb0]; rfl
    have he2 : R.toList = [] := by rw [bs_toList, hb0]
    have HP : Hid (partU (bs R) = (0, 8)) := Lib.hid (by rw [hb0]; rfl)
    clear hRs h0 hb0
    go_enter Tryz.func266, Tryz.ntmps266
    go_wp2
    go_ret2
    exact ⟨by rw [HP.out]; exact ret2 (by simp) rfl, rfl⟩
  · have hpos : 0 < R.size := by omega
    have he := isEmpty_no hpos
    have he2 := toList_ne hpos
    obtain ⟨t, ht, htl⟩ := bs_cons hpos
    obtain ⟨c, hc⟩ : ∃ c, R[0] = c := ⟨_, rfl⟩
    rw [hc] at ht
    have hc8 := c.toNat_lt
    have HT := Lib.hid ht
    clear ht h0
    by_cases h1 : 192 ≤ c.toNat
    · have hd1 : decide ((192 : Int) ≤ (c.toNat : Int)) = true := by simp; omega
      by_cases h2 : R.size < 2
      · have hd2 : decide ((R.size : Int) < 2) = true := by simp; omega
        have HP : Hid (partU (bs R) = (0, 8)) := Lib.hid (by rw [HT.out, partU_cons, if_pos h1, if_pos (by omega)])
        clear hRs htl
        go_enter Tryz.func266, Tryz.ntmps266
        go_wp2
        go_ret2
        exact ⟨by rw [HP.out]; exact ret2 (by simp) rfl, rfl⟩
      · have hd2 : decide ((R.size : Int) < 2) = false := by simp; omega
        have hle : 2 ≤ R.size := by omega
        have HP : Hid (partU (bs R) = (2, 0)) := Lib.hid (by rw [HT.out, partU_cons, if_pos h1, if_neg (by omega)])
        clear hRs htl
        go_enter Tryz.func266, Tryz.ntmps266
        go_wp2
        go_ret2
        exact ⟨by rw [HP.out]; exact ret2 part_head.symm rfl, rfl⟩
    · have hd1 : decide ((192 : Int) ≤ (c.toNat : Int)) = false := by simp; omega
      by_cases h2 : 63 < c.toNat
      · have hd2 : decide ((63 : Int) < (c.toNat : Int)) = true := by simp; omega
        have HP : Hid (partU (bs R) = (0, 4)) := Lib.hid (by rw [HT.out, partU_cons, if_neg h1, if_pos h2])
        clear hRs htl
        go_enter Tryz.func266, Tryz.ntmps266
        go_wp2
        go_ret2
        exact ⟨by rw [HP.out]; exact ret2 (by simp) rfl, rfl⟩
      · have hd2 : decide ((63 : Int) < (c.toNat : Int)) = false := by simp; omega
        by_cases h3 : R.size < 1 + c.toNat
        · have hd3 : decide ((R.size : Int) < 1 + (c.toNat : Int)) = true := by simp; omega
          have HP : Hid (partU (bs R) = (0, 8)) := Lib.hid (by rw [HT.out, partU_cons, if_neg h1, if_neg h2, if_pos (by omega)])
          clear hRs htl
          go_enter Tryz.func266, Tryz.ntmps266
          go_wp2
          go_ret2
          exact ⟨by rw [HP.out]; exact ret2 (by simp) rfl, rfl⟩
        · have hd3 : decide ((R.size : Int) < 1 + (c.toNat : Int)) = false := by simp; omega
          have HP : Hid (partU (bs R) = (1 + c.toNat, 0)) := Lib.hid (by rw [HT.out, partU_cons, if_neg h1, if_neg h2, if_neg (by omega)])
          have hq1 : (0 : Int) ≤ 1 + (c.toNat : Int) := by omega
          have hq2 : (1 + (c.toNat : Int)).toNat = 1 + c.toNat := by omega
          have hq3 : 1 + (c.toNat : Int) ≤ (R.size : Int) := by omega
          clear hRs htl
          go_enter Tryz.func266, Tryz.ntmps266
          go_wp2
          go_ret2
          exact ⟨by rw [HP.out]; exact ret2 part_head.symm rfl, rfl⟩
end Go.Proofs.YtdpgcgaalamgkaaGreat
namespace Go.Proofs.YtdpgcgaalamgkaaGreat
open Go.RowKit
set_option linter.unusedVariables false

/-- Block g is a walk along S, that has s. -/
def WK (w : World) (base g : Nat) (S : ByteArray) (s : US) : Prop :=
  ∃ v R P T, Lies w g 276 #[v, .int .i64 s.e, .int .i64 s.j, .int .i64 s.f, .string S, R, P, T] ∧ Own 5 w base v s.l ∧ (s.f = 0 → R = .int .i64 s.r ∧ P = .int .i64 s.p ∧ T = .string ⟨s.t.toArray⟩)
/-- A walk's call: it hands back v; the walk has s' then. -/
def Wlk (w : World) (base g : Nat) (S : ByteArray) (s' : US) (v : Value) (e : Ending) (w' : World) : Prop := e = .returned v ∧ WK w' base g S s' ∧ Kp base g w w'
theorem WK.drewN {w : World} {base g : Nat} {S : ByteArray} {s : US} (h : WK w base g S s) (m : Nat) : WK (w.drewN m) base g S s := h
theorem WK.lt {w : World} {base g : Nat} {S : ByteArray} {s : US} (h : WK w base g S s) : g < w.heap.size := let ⟨_, _, _, _, hL, _⟩ := h; hL.lt
theorem Wlk.keep {w : World} {base g : Nat} {S : ByteArray} {s : US} {v : Value} (h : WK w base g S s) : Wlk w base g S s v (.returned v) w := ⟨rfl, h, Kp.refl _ _ _⟩
abbrev wp_ (g : Nat) : Value := .pointer (some ⟨g, 0, none⟩)

section
variable {P : Program} {tb ts tt : TypeId}
/-- append of a string onto bytes that the call owns, as one step of a region that draws. -/
theorem step_appendL (T : BT P tb ts tt) {ops : Array Oper} {o : Oper} {a : Act} {w : World} {K : Act → World → Prop} {Q : Exit → Act → World → Prop} {E : Prop} (hgd : o.guard = none) (s x : Operand)
    (ho : o.op = .call { callee := .builtin .append, args := #[s, x], argTypes := #[ts, tt] })
    (base : Nat) (v : Value) (l : List UInt8) (hs : a.eval s = v) (hown : Own tb w base v l)
    (t : ByteArray) (hx : a.eval x = .string t) (hlen : l.length + t.size ≤ 70368744177664) (hbase : base ≤ w.heap.size) (L : List UInt8) (hL : l ++ bs t = L)
    (h : ∀ A' cap' w', Own tb w' base (.slice A' L.length cap') L → w.grownBy w' v.ownBlock → ((Value.slice A' L.length cap').ownBlock = v.ownBlock ∨ (Value.slice A' L.length cap').ownBlock = some w.heap.size) → K (a.put o.dst (.slice A' L.length cap')) w') :
    if Region.wanted o (yielded ops a.tmps) = true then Oper.wp P o a w K Q else E := by
  subst hL
  have hw : Region.wanted o (yielded ops a.tmps) = true := by simp [Region.wanted, hgd]
  rw [if_pos hw]
  obtain ⟨i, hi, hz, hsz, hby⟩ := info_parts T.info
  obtain ⟨v', w', hr, h2, h3, h4⟩ := Lib.run_append_own_string (P := P) w base ts tt o.type tb i T.us T.ut hi hz hsz hby v l.length (l.map B) hown t (by unfold maxLen; omega) (by omega) hbase
  have h5 := run_append_where T w o.type base v l hown t hlen v' w' hr h4
  have h6 : Own tb w' base v' (l ++ bs t) := own_of (by rw [List.length_append, bs_length]) (by rw [List.map_append]; exact h2)
  obtain ⟨A', cap', rfl⟩ := h6.shape
  unfold Oper.wp execOp
  simp only [ho, resolve, invoke, builtin, Sem.run_bind, Sem.run_pure, Result.andThen_ok, List.map_toArray, List.map_cons, List.map_nil, hs, hx, hr]
  exact h A' cap' w' h6 h3 h5
end
end Go.Proofs.YtdpgcgaalamgkaaGreat
namespace Go.Proofs.YtdpgcgaalamgkaaGreat
open Go.RowKit
set_option linter.unusedVariables false

/-- A slice whose elements can be read. -/
def RowE {α : Type} (enc : α → Value) (w : World) (v : Value) (L : List α) : Prop :=
  (v = .slice none 0 0 ∧ L = []) ∨ ∃ g off cap, v = .slice (some ⟨g, off, none⟩) L.length cap ∧ g < w.heap.size ∧ L.length ≤ cap ∧ cap ≤ maxLen ∧ ∀ j (h : j < L.length), w.cell? ⟨g, off + j, none⟩ = some (enc L[j])
section
variable {α : Type} {enc : α → Value} {w w' : World} {v : Value} {L : List α}
theorem RowE.below {k : Nat} (h : RowE enc w v L) (hb : Below k w w') (hk : w.heap.size ≤ k) : RowE enc w' v L := by
  rcases h with h | ⟨g, off, cap, h1, h2, h3, h4, h5⟩
  · exact .inl h
  · exact .inr ⟨g, off, cap, h1, Nat.lt_of_lt_of_le h2 hb.size, h3, h4, fun j hj => (hb.cell (p := ⟨g, off + j, none⟩) (Nat.lt_of_lt_of_le h2 hk)).trans (h5 j hj)⟩
theorem RowE.next (h : RowE enc w v L) (hb : Below w.heap.size w w') : RowE enc w' v L := h.below hb (Nat.le_refl _)
theorem RowE.drew (h : RowE enc w v L) : RowE enc w.drew v L := h
theorem RowE.drewN (h : RowE enc w v L) (n : Nat) : RowE enc (w.drewN n) v L := h
theorem RowE.shape (h : RowE enc w v L) : ∃ A cap, v = .slice A L.length cap ∧ L.length ≤ cap ∧ cap ≤ maxLen := by
  rcases h with ⟨rfl, rfl⟩ | ⟨g, off, cap, h1, h2, h3, h4, h5⟩
  · exact ⟨none, 0, rfl, Nat.le_refl _, Nat.zero_le _⟩
  · exact ⟨_, cap, h1, h3, h4⟩
theorem RowE.of_own {base : Nat} {t : TypeId} (h : w.ownsRow base t 1 v L.length (L.map enc)) : RowE enc w v L := by
  rcases h.2 with ⟨rfl, hn⟩ | ⟨g, cap, cur, rfl, hb, hg, hnc, hcm, _⟩
  · exact .inl ⟨rfl, List.eq_nil_of_length_eq_zero hn⟩
  · refine .inr ⟨g, 0, cap, rfl, ?_, hnc, hcm, fun j hj => ?_⟩
    · rcases Nat.lt_or_ge g w.heap.size with hlt | hge
      · exact hlt
      · rw [Array.getElem?_eq_none hge] at hg; cases hg
    · have := World.ownsRow.cells h (g := g) rfl j (enc L[j]) (by rw [List.getElem?_map, List.getElem?_eq_getElem hj]; rfl)
      have e : (⟨g, 0, none⟩ : Addr).add j = ⟨g, 0 + j, none⟩ := by unfold Addr.add; split <;> simp_all
      rw [e] at this
      exact this
end

theorem or64 (m a c : Nat) (j : Nat) (hm : m = 2 ^ j) (h : a * m + c < 18446744073709551616) (hc : c < m) : bits BinOp.or IntKind.u64 (IntKind.u64.wrap ((a : Int) * (m : Int))) (IntKind.u64.wrap c) = ((a * m + c : Nat) : Int) := by
  rw [IntKind.wrap_u64, IntKind.wrap_u64]
  have h2 : a * m < 18446744073709551616 := Nat.lt_of_le_of_lt (Nat.le_add_right _ _) h
  have h3 : c < 18446744073709551616 := Nat.lt_of_le_of_lt (Nat.le_add_left _ _) h
  have e : (a : Int) * (m : Int) % 18446744073709551616 = ((a * m : Nat) : Int) := by
    rw [← Int.natCast_mul]
    omega
  have e2 : (c : Int) % 18446744073709551616 = (c : Int) := by omega
  rw [e, e2, u64_or_nat (a * m) c h2 h3]
  clear e h2 h3 h
  have h1 := Nat.shiftLeft_add_eq_or_of_lt (show c < 2 ^ j by omega) a
  rw [Nat.shiftLeft_eq] at h1
  rw [hm, h1]

theorem jn_snoc (m : Nat) (l : List Nat) (c : Nat) : jn m (l ++ [c]) = jn m l * m + c := by simp [jn]
theorem jn_lt_aux (m : Nat) : ∀ (n : Nat) (l : List Nat), l.length = n → (∀ c ∈ l, c < m) → jn m l < m ^ n
  | 0, l, h, _ => by rw [List.eq_nil_of_length_eq_zero h]; simp [jn]
  | n + 1, l, h, hl => by
    have hne : l ≠ [] := fun e => by rw [e] at h; cases h
    have hc := hl _ (List.getLast_mem hne)
    have ih := jn_lt_aux m n l.dropLast (by rw [List.length_dropLast]; omega) fun c hc => hl c (List.dropLast_subset _ hc)
    rw [← List.dropLast_concat_getLast hne, jn_snoc, Nat.pow_succ]
    have : (jn m l.dropLast + 1) * m ≤ m ^ n * m := Nat.mul_le_mul_right _ ih
    rw [Nat.add_mul] at this
    omega
theorem jn_lt {m : Nat} {l : List Nat} (h : ∀ c ∈ l, c < m) : jn m l < m ^ l.length := jn_lt_aux m _ l rfl h
theorem jn_take {m : Nat} {l : List Nat} {k : Nat} (h : k < l.length) : jn m (l.take (k + 1)) = jn m (l.take k) * m + l[k] := by
  rw [List.take_succ_eq_append_getElem h, jn_snoc]
theorem jn_fit {m : Nat} {l : List Nat} {k : Nat} (hl : ∀ c ∈ l, c < m) (hm : 1 ≤ m) (hn : m ^ l.length ≤ 18446744073709551616) (h : k < l.length) : jn m (l.take k) * m + l[k] < 18446744073709551616 := by
  rw [← jn_take h]
  have h1 := jn_lt (m := m) (l := l.take (k + 1)) fun c hc => hl c (List.take_subset _ _ hc)
  rw [List.length_take, Nat.min_eq_left (by omega)] at h1
  exact Nat.lt_of_lt_of_le h1 (Nat.le_trans (Nat.pow_le_pow_right hm h) hn)

/-- The relation of joined's loop. -/
def JoRel (m : Nat) (l : List Nat) (w : World) (v i : Value) (wr : World) : Prop :=
  ∃ k : Nat, i = .int .i64 k ∧ k ≤ l.length ∧ v = .int .u64 (jn m (l.take k)) ∧ w = wr

set_option maxHeartbeats 1000000 in
theorem joinedB_any (j : Nat) (hj : j = 4 ∨ j = 8) (l : List UInt8) (v : Value) (w : World) (h : RowE B w v l) (hl : ∀ c ∈ nats l, c < 2 ^ j) (hn : (2 ^ j) ^ l.length ≤ 18446744073709551616) :
    Calls Tryz.prog 264 #[v, .int .i64 j] w fun e w' => e = .returned (.int .u64 (jn (2 ^ j) (nats l))) ∧ w = w' := by
  have HL : Hid ((nats l).length = l.length) := Lib.hid (by simp [nats])
  have HF := Lib.hid (fun (k : Nat) (hk : k < (nats l).length) => jn_fit hl (by exact Nat.one_le_two_pow) (by rw [HL.out]; exact hn) hk)
  have HC := Lib.hid (fun (k : Nat) (hk : k < (nats l).length) => hl _ (List.getElem_mem hk))
  have HT := Lib.hid (fun (k : Nat) (hk : k < (nats l).length) => jn_take (m := 2 ^ j) hk)
  have HE : Hid (jn (2 ^ j) ((nats l).take l.length) = jn (2 ^ j) (nats l)) := Lib.hid (by rw [List.take_of_length_le (by rw [HL.out]; exact Nat.le_refl _)])
  have HG : Hid (∀ k (hk : k < l.length), B l[k] = .int .u8 (((nats l)[k]'(by rw [HL.out]; exact hk) : Nat) : Int)) := Lib.hid (fun k hk => by simp [B, nats])
  clear hl hn
  have HR0 : Hid (JoRel (2 ^ j) (nats l) w (.int .u64 0) (.int .i64 0) w) := Lib.hid ⟨0, rfl, Nat.zero_le _, by simp [jn], rfl⟩
  rcases h with ⟨rfl, rfl⟩ | ⟨g, off, cap, rfl, hg, hcap, hcm, hcell⟩
  · go_enter Tryz.func264, Tryz.ntmps264
    go_wp2
    go_loopw [5, 10] (fun v i wr => JoRel (2 ^ j) [] w v i wr) (fun _ i _ => 0 - (intOf i).toNat)
    case atStart => exact HR0.out
    case round =>
      clear HR0
      obtain ⟨k, rfl, hk, rfl, rfl⟩ := hrel
      obtain rfl : k = 0 := by simpa using hk
      go_wp2
      go_ret
      exact ⟨rfl, rfl⟩
  · have HCell := Lib.hid hcell
    clear hcell
    unfold maxLen at hcm
    obtain ⟨M, hM⟩ : ∃ M, M = 2 ^ j := ⟨_, rfl⟩
    rcases hj with rfl | rfl
    all_goals
      go_enter Tryz.func264, Tryz.ntmps264
      go_wp2
      go_loopw [5, 10] (fun v i wr => JoRel M (nats l) w v i wr) (fun _ i _ => l.length - (intOf i).toNat)
      case atStart => rw [hM]; exact HR0.out
      case round =>
        clear HR0
        obtain ⟨k, rfl, hk, rfl, rfl⟩ := hrel
        rw [HL.out] at hk
        rcases Nat.lt_or_ge k l.length with hlt | hge
        · have hc := HCell.out k hlt
          rw [HG.out k hlt] at hc
          have HV := Lib.hid (or64 M _ _ _ hM (by rw [hM]; exact HF.out k (by rw [HL.out]; exact hlt)) (by rw [hM]; exact HC.out k (by rw [HL.out]; exact hlt)))
          rw [hM] at HV
          go_wp2
          go_roundw
          case rel => exact ⟨k + 1, by go_num, by rw [HL.out]; omega, by rw [hM, HT.out k (by rw [HL.out]; exact hlt)]; exact congrArg (Value.int .u64) HV.out, rfl⟩
          case measure => simp [intOf]; omega
        · obtain rfl : k = l.length := by omega
          rw [hM, HE.out]
          go_wp2
          go_ret
          exact ⟨rfl, rfl⟩

theorem joinedB_at (J : Int) (j : Nat) (hJ : J = (j : Int)) (hj : j = 4 ∨ j = 8) (l : List UInt8) (v : Value) (w : World) (h : RowE B w v l) (hl : ∀ c ∈ nats l, c < 2 ^ j) (hn : (2 ^ j) ^ l.length ≤ 18446744073709551616) :
    Calls Tryz.prog 264 #[v, .int .i64 J] w fun e w' => e = .returned (.int .u64 (jn (2 ^ j) (nats l))) ∧ w = w' := by
  subst hJ
  exact joinedB_any j hj l v w h hl hn

end Go.Proofs.YtdpgcgaalamgkaaGreat
namespace Go.Proofs.YtdpgcgaalamgkaaGreat
open Go.RowKit
set_option linter.unusedVariables false

section
variable {α : Type} {enc : α → Value} {w w' : World} {v : Value} {L : List α}
theorem add_offA (g off n : Nat) : (⟨g, off, none⟩ : Addr).add n = ⟨g, off + n, none⟩ := by unfold Addr.add; split <;> simp_all
/-- A row in a block, as it lies: what a part of it is. -/
structure At (enc : α → Value) (w : World) (g off cap : Nat) (L : List α) : Prop where
  lt : g < w.heap.size
  le : L.length ≤ cap
  fit : cap ≤ maxLen
  cell : ∀ j (h : j < L.length), w.cell? ⟨g, off + j, none⟩ = some (enc L[j])
theorem At.row {g off cap : Nat} (h : At enc w g off cap L) : RowE enc w (.slice (some ⟨g, off, none⟩) L.length cap) L := .inr ⟨g, off, cap, rfl, h.lt, h.le, h.fit, h.cell⟩
theorem At.take {g off cap : Nat} (h : At enc w g off cap L) {n : Nat} (hn : n ≤ L.length) : RowE enc w (.slice (some ⟨g, off, none⟩) n cap) (L.take n) := by
  have hl : (L.take n).length = n := by rw [List.length_take]; omega
  refine .inr ⟨g, off, cap, by rw [hl], h.lt, by rw [hl]; have := h.le; omega, h.fit, fun j hj => ?_⟩
  rw [hl] at hj
  rw [h.cell j (by omega), List.getElem_take]
theorem At.drop {g off cap : Nat} (h : At enc w g off cap L) {n : Nat} (hn : n ≤ L.length) : RowE enc w (.slice (some ⟨g, off + n, none⟩) (L.length - n) (cap - n)) (L.drop n) := by
  have hl : (L.drop n).length = L.length - n := List.length_drop
  refine .inr ⟨g, off + n, cap - n, by rw [hl], h.lt, by rw [hl]; have := h.le; omega, by have := h.fit; omega, fun j hj => ?_⟩
  rw [hl] at hj
  rw [Nat.add_assoc, h.cell (n + j) (by omega), List.getElem_drop]
theorem RowE.at' (h : RowE enc w v L) (hL : L ≠ []) : ∃ g off cap, v = .slice (some ⟨g, off, none⟩) L.length cap ∧ At enc w g off cap L := by
  rcases h with ⟨rfl, rfl⟩ | ⟨g, off, cap, h1, h2, h3, h4, h5⟩
  · exact absurd rfl hL
  · exact ⟨g, off, cap, h1, h2, h3, h4, h5⟩
theorem At.next {g off cap : Nat} (h : At enc w g off cap L) (hb : Below w.heap.size w w') : At enc w' g off cap L :=
  ⟨Nat.lt_of_lt_of_le h.lt hb.size, h.le, h.fit, fun j hj => (hb.cell (p := ⟨g, off + j, none⟩) h.lt).trans (h.cell j hj)⟩
theorem At.drewN {g off cap : Nat} (h : At enc w g off cap L) (n : Nat) : At enc (w.drewN n) g off cap L := ⟨h.lt, h.le, h.fit, h.cell⟩
theorem At.heap {g off cap : Nat} (h : At enc w g off cap L) (e : w'.heap = w.heap) : At enc w' g off cap L :=
  ⟨by rw [e]; exact h.lt, h.le, h.fit, fun j hj => (World.cell?_of_block (w := w) (w' := w') (by rw [e])).trans (h.cell j hj)⟩
theorem At.alloc {g off cap : Nat} (h : At enc w g off cap L) (o : Obj) : At enc (w.alloc o) g off cap L := h.next ((Below.refl _ _).alloc (Nat.le_refl _) o)
theorem At.of_own {base : Nat} {t : TypeId} {g cap : Nat} (h : w.ownsRow base t 1 (.slice (some ⟨g, 0, none⟩) L.length cap) L.length (L.map enc)) : At enc w g 0 cap L := by
  rcases h.2 with ⟨h', _⟩ | ⟨g', cap', cur, h', hb, hg, hnc, hcm, _⟩
  · simp at h'
  · simp only [Value.slice.injEq, Option.some.injEq, Addr.mk.injEq, and_true, true_and] at h'
    obtain ⟨rfl, rfl⟩ := h'
    refine ⟨?_, hnc, hcm, fun j hj => ?_⟩
    · rcases Nat.lt_or_ge g w.heap.size with hlt | hge
      · exact hlt
      · rw [Array.getElem?_eq_none hge] at hg; cases hg
    · have := World.ownsRow.cells h (g := g) rfl j (enc L[j]) (by rw [List.getElem?_map, List.getElem?_eq_getElem hj]; rfl)
      rw [add_offA] at this
      exact this
theorem At.of_row {g cap : Nat} {l : List UInt8} (h : Row w g l) (h1 : l.length ≤ cap) (h2 : cap ≤ maxLen) : At B w g 0 cap l := ⟨h.lt, h1, h2, fun j hj => by rw [Nat.zero_add]; exact h.cell j hj⟩
end

/-! ### cut -/
theorem made_ownA {w1 : World} {base n : Nat} {tb : TypeId} {v : Value} (h : w1.ownsRow base tb 1 v n (madeCells (Value.int .u8 0).cells (n * 1)).toList) : w1.ownsRow base tb 1 v n ((List.replicate n (0 : UInt8)).map B) := by
  have e : (madeCells (Value.int .u8 0).cells (n * 1)).toList = (List.replicate n (0 : UInt8)).map B := by
    rw [Nat.mul_one, List.map_replicate]
    exact toList_madeCells_one _ _
  rw [← e]
  exact h
theorem shr8A (v m : Nat) : (v : Int) / 2 ^ (8 * m) % 256 = ((UInt8.ofNat (v / 256 ^ m)).toNat : Int) := by
  have e : (2 : Int) ^ (8 * m) = ((256 ^ m : Nat) : Int) := by
    rw [show (256 : Nat) = 2 ^ 8 by decide, ← Nat.pow_mul]
    exact (Int.natCast_pow 2 (8 * m)).symm
  rw [ofNat_val, Int.natCast_emod, Int.natCast_ediv, e]
  rfl
def AcRel (v n : Nat) (w : World) (i : Value) (wr : World) : Prop :=
  ∃ k : Nat, i = .int .i64 k ∧ k ≤ n ∧ wr.ownsRow w.heap.size 5 1 (.slice (some ⟨w.heap.size, 0, none⟩) n n) n ((front v n k).map B) ∧ Below w.heap.size w wr
set_option maxHeartbeats 1000000 in
theorem acut_any (v n : Nat) (w : World) (hv : v < 18446744073709551616) (hn : n ≤ 8) :
    Calls Tryz.prog 262 #[.int .u64 v, .int .i64 n] w fun e w' => e = .returned (.slice (some ⟨w.heap.size, 0, none⟩) n n) ∧ Own 5 w' w.heap.size (.slice (some ⟨w.heap.size, 0, none⟩) n n) (octs v n) ∧ Below w.heap.size w w' := by
  obtain ⟨i0, hi, hz0, hz1, hz2⟩ := info_parts bt.info
  obtain ⟨w1, hmk, hown, hg⟩ := run_make_full w w.heap.size 58 5 i0 (.int .u8 0) 1 bt.us hi hz0 hz1 .i64 .i64 n (by rw [hz2]; omega) (by unfold maxLen; omega) (Nat.le_refl _)
  have HB1 := Lib.hid ((Below.refl w.heap.size w).grown hg (Nat.le_refl _) (by simp))
  have HO1 := Lib.hid (made_ownA hown)
  rw [← front_zero v n] at HO1
  have HR0 : Hid (AcRel v n w (.int .i64 0) w1) := Lib.hid ⟨0, rfl, Nat.zero_le _, HO1.out, HB1.out⟩
  clear hi hz0 hz1 hz2 hown hg HO1
  go_enter Tryz.func262, Tryz.ntmps262
  go_wp2
  clear hmk
  go_loopw [11] (fun i wr => AcRel v n w i wr) (fun i _ => n - (intOf i).toNat)
  case atStart => exact HR0.out
  case round =>
    clear HR0
    obtain ⟨k, rfl, hk, hown, hb⟩ := hrel
    rcases Nat.lt_or_ge k n with hlt | hge
    · obtain ⟨u, hcell⟩ : ∃ u, wr.cell? ⟨w.heap.size, k, none⟩ = some u := by
        have hfl := front_length (v := v) hk
        exact ⟨B ((front v n k)[k]'(by omega)), by rw [World.ownsRow.cellAt hown k (by omega), List.getElem?_map, List.getElem?_eq_getElem (by omega)]; rfl⟩
      have hfr : wr.frozen? ⟨w.heap.size, k, none⟩ = false := World.ownsRow.frozenAt hown k
      obtain ⟨m, hm⟩ : ∃ m, n - 1 - k = m := ⟨_, rfl⟩
      have HM : Hid ((n : Int) - 1 - k = (m : Int)) := Lib.hid (by omega)
      have HV : Hid (Value.int .u8 ((v : Int) / 2 ^ (8 * m) % 256) = B (UInt8.ofNat (v / 256 ^ (n - 1 - k)))) := Lib.hid (by
        rw [hm, shr8A]
        rfl)
      have HF := Lib.hid (front_step (v := v) hlt)
      have HO := Lib.hid hown
      clear hown
      go_wp2
      go_roundw
      case rel =>
        have h1 := (World.ownsRow.stored HO.out k (B (UInt8.ofNat (v / 256 ^ (n - 1 - k))))).1
        rw [← List.map_set, HF.out] at h1
        exact ⟨k + 1, by go_num, by omega, by rw [HV.out]; exact h1, hb.setCell (by simp) _⟩
      case measure => simp [intOf]; omega
    · obtain rfl : k = n := by omega
      rw [front_end] at hown
      have HO := Lib.hid hown
      clear hown
      go_wp2
      go_ret
      exact ⟨rfl, own_of (octs_length _ _) HO.out, hb⟩
end Go.Proofs.YtdpgcgaalamgkaaGreat
namespace Go.Proofs.YtdpgcgaalamgkaaGreat
open Go.RowKit
set_option linter.unusedVariables false

theorem nats_length (l : List UInt8) : (nats l).length = l.length := by simp [nats]
theorem nats_take (l : List UInt8) (n : Nat) : (nats l).take n = nats (l.take n) := by simp [nats, List.map_take]
theorem nats_drop (l : List UInt8) (n : Nat) : (nats l).drop n = nats (l.drop n) := by simp [nats, List.map_drop]
theorem nats_lt (l : List UInt8) : ∀ c ∈ nats l, c < 2 ^ 8 := by
  intro c hc
  obtain ⟨b, _, rfl⟩ := List.mem_map.1 hc
  exact b.toNat_lt
theorem pow256 {n : Nat} (h : n ≤ 8) : (2 ^ 8) ^ n ≤ 18446744073709551616 := Nat.le_trans (Nat.pow_le_pow_right (by decide) h) (by decide)
theorem infoA : (Tryz.prog.info? 26).map (·.size) = some 3 := by kernel_rfl
/-- What a function hands back that holds its address in a block. -/
theorem ret_ad {fn : Func} {p : Tmp} (h : fn.results = #[.cell p 26]) (tmps : Array Value) (w : World) (g : Nat) (a : Ad) (hp : tmps.getD p undef = .pointer (some ⟨g, 0, none⟩))
    (hg : Lies w g 26 #[.bool a.1, .int .u64 (a.2.1 : Int), .int .u64 (a.2.2 : Int)]) : (results fn tmps).run Tryz.prog w = .ok (av a) w :=
  results_cell_row h tmps w g _ _ _ _ hp hg Tryz.underlying26 rfl infoA
theorem ret_ad2 {fn : Func} {p u : Tmp} (h : fn.results = #[.cell p 26, .tmp u]) (tmps : Array Value) (w : World) (g : Nat) (a : Ad) (hp : tmps.getD p undef = .pointer (some ⟨g, 0, none⟩))
    (hg : Lies w g 26 #[.bool a.1, .int .u64 (a.2.1 : Int), .int .u64 (a.2.2 : Int)]) : (results fn tmps).run Tryz.prog w = .ok (.tuple #[av a, tmps.getD u undef]) w := by
  rw [results_cell_tmp h, hp]
  simp only [asAddr, Sem.run_pure, Result.andThen_ok]
  rw [run_loadVar_row w g _ _ _ _ _ hg Tryz.underlying26 rfl infoA]
  rfl

theorem elder_any (l : List UInt8) (v : Value) (w : World) (h : RowE B w v l) (hl : l.length ≤ 8) :
    Calls Tryz.prog 251 #[v] w fun e w' => e = .returned (av (elderA (nats l))) ∧ Below w.heap.size w w' := by
  have HJ := Lib.hid (fun wx hx => joinedB_any 8 (.inr rfl) l v wx hx (nats_lt l) (pow256 hl))
  have HR := Lib.hid (fun o => h.next (w' := w.alloc o) ((Below.refl _ _).alloc (Nat.le_refl _) o))
  obtain ⟨A, cap, rfl, _⟩ := h.shape
  clear h
  go_enter Tryz.func251, Tryz.ntmps251
  go_wp2_with (go_at_call 264; refine (HJ.out _ (HR.out _)).mono ?_; rintro e w' ⟨rfl, rfl⟩)
  refine bodyPost_ret (ret_ad rfl _ _ w.heap.size (elderA (nats l)) rfl (Lies.new _ _ _)) rfl ?_
  exact ⟨rfl, (Below.refl _ _).alloc (Nat.le_refl _) _⟩

theorem size1 (w : World) (o : Obj) : (w.alloc o).heap.size = w.heap.size + 1 := by simp
/-- A block that bears an address. -/
def AdB (w : World) (g : Nat) (six : Bool) (hi lo : Int) : Prop := Lies w g 26 #[.bool six, .int .u64 hi, .int .u64 lo]
theorem AdB.facts {w : World} {g : Nat} {six : Bool} {hi lo : Int} (h : AdB w g six hi lo) : (w.cell? ⟨g, 0, none⟩ = some (.bool six) ∧ w.cell? ⟨g, 1, none⟩ = some (.int .u64 hi) ∧ w.cell? ⟨g, 2, none⟩ = some (.int .u64 lo)) ∧ w.frozen? ⟨g, 0, none⟩ = false ∧ w.frozen? ⟨g, 1, none⟩ = false ∧ w.frozen? ⟨g, 2, none⟩ = false :=
  ⟨⟨Lies.cell h 0, Lies.cell h 1, Lies.cell h 2⟩, Lies.free h 0, Lies.free h 1, Lies.free h 2⟩
theorem AdB.put {w : World} {g : Nat} {six : Bool} {hi lo : Int} (h : AdB w g six hi lo) (six' : Bool) (hi' lo' : Int) : AdB (((w.setCell ⟨g, 0, none⟩ (.bool six')).setCell ⟨g, 1, none⟩ (.int .u64 hi')).setCell ⟨g, 2, none⟩ (.int .u64 lo')) g six' hi' lo' := by
  have := ((Lies.set h 0 (.bool six')).set 1 (.int .u64 hi')).set 2 (.int .u64 lo')
  simpa [AdB] using this
theorem AdB.of {w w' : World} (o : Obj) (hb : Below ((w.alloc (.cells #[.bool false, .int .u64 0, .int .u64 0] 26)).alloc o).heap.size ((w.alloc (.cells #[.bool false, .int .u64 0, .int .u64 0] 26)).alloc o) w') : AdB w' w.heap.size false 0 0 := ((Lies.new w _ _).alloc _).next hb
theorem below_dN {n : Nat} {w w' : World} (h : Below n w w') (k : Nat) : Below n w (w'.drewN k) := ⟨h.os, h.tape, h.output, h.size, h.block⟩
theorem put3 {n g : Nat} {w w' : World} (h : Below n w w') (hg : n ≤ g) (x y z : Value) : Below n w (((w'.setCell ⟨g, 0, none⟩ x).setCell ⟨g, 1, none⟩ y).setCell ⟨g, 2, none⟩ z) := ((h.setCell (p := ⟨g, 0, none⟩) hg x).setCell (p := ⟨g, 1, none⟩) hg y).setCell (p := ⟨g, 2, none⟩) hg z
theorem aCheck_any (six : Bool) (hi lo : Nat) (w : World) (h1 : hi < 18446744073709551616) (h2 : lo < 18446744073709551616) :
    Calls Tryz.prog 214 #[.agg #[.bool six, .int .u64 (hi : Int), .int .u64 (lo : Int)]] w fun e w' => e = .returned (.int .i64 (chkA (six, hi, lo))) ∧ Below w.heap.size w w' := by
  have hc : chkA (six, hi, lo) = if six = false ∧ (hi ≠ 0 ∨ 4294967295 < lo) then 2 else 0 := rfl
  rw [hc]
  clear hc
  cases six
  · by_cases h3 : hi = 0
    · subst h3
      by_cases h4 : 4294967295 < lo
      · rw [if_pos ⟨rfl, .inr h4⟩]
        go_enter Tryz.func214, Tryz.ntmps214
        go_wp2
        go_ret
        exact ⟨rfl, (Below.refl _ _).alloc (Nat.le_refl _) _⟩
      · rw [if_neg (by simp; omega)]
        go_enter Tryz.func214, Tryz.ntmps214
        go_wp2
        go_ret
        exact ⟨rfl, (Below.refl _ _).alloc (Nat.le_refl _) _⟩
    · rw [if_pos ⟨rfl, .inl h3⟩]
      go_enter Tryz.func214, Tryz.ntmps214
      go_wp2
      go_ret
      exact ⟨rfl, (Below.refl _ _).alloc (Nat.le_refl _) _⟩
  · rw [if_neg (by simp)]
    go_enter Tryz.func214, Tryz.ntmps214
    go_wp2
    go_ret
    exact ⟨rfl, (Below.refl _ _).alloc (Nat.le_refl _) _⟩

end Go.Proofs.YtdpgcgaalamgkaaGreat
namespace Go.Proofs.YtdpgcgaalamgkaaGreat
open Go.RowKit
set_option linter.unusedVariables false

set_option maxHeartbeats 1000000 in
theorem newerB16_any (l : List UInt8) (v : Value) (w : World) (h : RowE B w v l) (hl : l.length = 16) :
    Calls Tryz.prog 252 #[v] w fun e w' => e = .returned (av (newerA 256 (nats l))) ∧ Below w.heap.size w w' := by
  obtain ⟨g, off, cap, rfl, hat⟩ := h.at' (fun e => by rw [e] at hl; cases hl)
  have HA := Lib.hid (fun (wx : World) (e : wx.heap = (w.alloc (.cells #[.bool false, .int .u64 0, .int .u64 0] 26)).heap) => (hat.alloc _).heap e)
  have H1 := Lib.hid (fun wx hx => joinedB_at 8 8 rfl (.inr rfl) (l.take 8) (.slice (some ⟨g, off, none⟩) (8 : Nat) cap) wx hx (nats_lt _) (pow256 (by rw [List.length_take, hl]; decide)))
  have H2 := Lib.hid (fun wx hx => joinedB_at 8 8 rfl (.inr rfl) (l.drop 8) (.slice (some ⟨g, off + 8, none⟩) (8 : Nat) (cap - 8)) wx hx (nats_lt _) (pow256 (by rw [List.length_drop, hl]; decide)))
  have HX1 := Lib.hid (fun (wx : World) (hx : At B wx g off cap l) => hx.take (n := 8) (by omega))
  have HX2 : Hid (∀ (wx : World) (hx : At B wx g off cap l), RowE B wx (.slice (some ⟨g, off + 8, none⟩) (8 : Nat) (cap - 8)) (l.drop 8)) := Lib.hid (fun (wx : World) (hx : At B wx g off cap l) => by
    have := hx.drop (n := 8) (by omega)
    rw [hl] at this
    exact this)
  have hcap : 16 ≤ cap := by have := hat.le; omega
  have hfit : cap ≤ 9223372036854775807 := by have := hat.fit; unfold maxLen at this; exact this
  have HE : Hid (newerA 256 (nats l) = (true, jn 256 (nats (l.take 8)), jn 256 (nats (l.drop 8)))) := Lib.hid (by
    unfold newerA
    rw [nats_length, hl, nats_take, nats_drop])
  rw [HE.out, hl]
  have hc1 : ((8 : Nat) : Int) ≤ (cap : Int) := by omega
  clear h hat hl
  go_enter Tryz.func252, Tryz.ntmps252
  go_wp2
  go_quiet (fail)
  go_wp2
  go_region_with (first | (go_at_call 264; (with_reducible refine (H1.out _ (HX1.out _ (HA.out _ ?_))).mono ?_); exact rfl; rintro e w' ⟨rfl, rfl⟩) | (go_at_call 264; (with_reducible refine (H2.out _ (HX2.out _ (HA.out _ ?_))).mono ?_); exact rfl; rintro e w' ⟨rfl, rfl⟩))
  all_goals
    try go_wp2
    refine bodyPost_ret (ret_ad rfl _ _ w.heap.size (true, jn 256 (nats (l.take 8)), jn 256 (nats (l.drop 8))) rfl (AdB.put (six := false) (hi := 0) (lo := 0) (Lies.drewN (Lies.new w _ _) _) _ _ _)) rfl ?_
    exact ⟨rfl, put3 (below_dN ((Below.refl _ _).alloc (Nat.le_refl _) _) _) (Nat.le_refl _) _ _ _⟩

end Go.Proofs.YtdpgcgaalamgkaaGreat
namespace Go.Proofs.YtdpgcgaalamgkaaGreat
open Go.RowKit
set_option linter.unusedVariables false

theorem row_bytes {w : World} {g g' n cap : Nat} {s : ByteArray} (hg : g = g') (h : Row w g (bs s)) (hn : s.size = n) (h1 : s.size ≤ cap) (h2 : cap ≤ maxLen) : Hid (RowE B w (.slice (some ⟨g', 0, none⟩) n cap) (bs s)) := by
  subst hg
  have := (At.of_row h (by rw [bs_length]; exact h1) h2).row
  rw [bs_length, hn] at this
  exact Lib.hid this
set_option maxHeartbeats 1000000 in
theorem Of_any (s : ByteArray) (w : World) (hs : s.size ≤ maxLen) :
    Calls Tryz.prog 219 #[.string s] w fun e w' => e = .returned (.tuple #[av (ofA (bs s)).1, .int .i64 (ofA (bs s)).2]) ∧ Below w.heap.size w w' := by
  obtain ⟨w0, hw0⟩ : ∃ w0, w0 = w.alloc (.cells #[.bool false, .int .u64 0, .int .u64 0] 26) := ⟨_, rfl⟩
  have HB0 : Hid (Below w.heap.size w w0 ∧ w0.heap.size = w.heap.size + 1) := Lib.hid (by rw [hw0]; exact ⟨(Below.refl _ _).alloc (Nat.le_refl _) _, size1 _ _⟩)
  have HL0 : Hid (AdB w0 w.heap.size false 0 0) := Lib.hid (by rw [hw0]; exact Lies.new _ _ _)
  have HM := Lib.hid hs
  by_cases h4 : s.size = 4
  · have e : ofA (bs s) = (elderA (nats (bs s)), 0) := if_pos (by rw [bs_length]; exact h4)
    rw [e]
    have HE := Lib.hid (fun v wx hx => elder_any (bs s) v wx hx (by rw [bs_length]; omega))
    simp only [av, elderA] at HE
    go_enter Tryz.func219, Tryz.ntmps219
    go_wp2_with (first | (refine wpList_bytes bt _ rfl _ rfl s rfl HM.out ?_; intro cap w1 hrow hb1 hsz1 hc1 hc2; have HX := row_bytes (size1 w _) hrow h4 hc1 hc2; have hlz := (Lies.new w 26 #[.bool false, .int .u64 0, .int .u64 0]).next hb1; have HL1 : Hid (AdB w1 w.heap.size false 0 0) := Lib.hid hlz; have HB1 := Lib.hid hb1; clear hrow hb1 hlz hsz1) | (go_at_call 251; refine (HE.out _ _ ?_).mono ?_; exact HX.out; rintro e w2 ⟨rfl, hb2⟩; have HL2 : Hid (AdB w2 w.heap.size false 0 0) := Lib.hid (Lies.next HL1.out hb2); obtain ⟨⟨hc0, hc1, hc2⟩, hf0, hf1, hf2⟩ := HL2.out.facts; have HB2 := Lib.hid hb2; clear hb2))
    refine bodyPost_ret (ret_ad2 rfl _ _ w.heap.size (elderA (nats (bs s))) rfl (AdB.put HL2.out _ _ _)) rfl ?_
    have hb := next ((Below.refl w.heap.size w).alloc (Nat.le_refl _) _) HB1.out
    exact ⟨rfl, put3 (next hb HB2.out) (Nat.le_refl _) _ _ _⟩
  · by_cases h16 : s.size = 16
    · have e : ofA (bs s) = (newerA 256 (nats (bs s)), 0) := by unfold ofA; rw [if_neg (by rw [bs_length]; exact h4), if_pos (by rw [bs_length]; exact h16)]
      rw [e]
      have HE := Lib.hid (fun v wx hx => newerB16_any (bs s) v wx hx (by rw [bs_length]; exact h16))
      simp only [av, newerA] at HE
      clear h4
      go_enter Tryz.func219, Tryz.ntmps219
      go_wp2_with (first | (refine wpList_bytes bt _ rfl _ rfl s rfl HM.out ?_; intro cap w1 hrow hb1 hsz1 hc1 hc2; have HX := row_bytes (size1 w _) hrow h16 hc1 hc2; have hlz := (Lies.new w 26 #[.bool false, .int .u64 0, .int .u64 0]).next hb1; have HL1 : Hid (AdB w1 w.heap.size false 0 0) := Lib.hid hlz; have HB1 := Lib.hid hb1; clear hrow hb1 hlz hsz1) | (go_at_call 252; refine (HE.out _ _ ?_).mono ?_; exact HX.out; rintro e w2 ⟨rfl, hb2⟩; have HL2 : Hid (AdB w2 w.heap.size false 0 0) := Lib.hid (Lies.next HL1.out hb2); obtain ⟨⟨hc0, hc1, hc2⟩, hf0, hf1, hf2⟩ := HL2.out.facts; have HB2 := Lib.hid hb2; clear hb2))
      refine bodyPost_ret (ret_ad2 rfl _ _ w.heap.size (newerA 256 (nats (bs s))) rfl (AdB.put HL2.out _ _ _)) rfl ?_
      have hb := next ((Below.refl w.heap.size w).alloc (Nat.le_refl _) _) HB1.out
      exact ⟨rfl, put3 (next hb HB2.out) (Nat.le_refl _) _ _ _⟩
    · have e : ofA (bs s) = (noA, 2) := by unfold ofA; rw [if_neg (by rw [bs_length]; exact h4), if_neg (by rw [bs_length]; exact h16)]
      rw [e]
      have hb4 : ((s.size : Int) == 4) = false := by simp; omega
      have hb16 : ((s.size : Int) == 16) = false := by simp; omega
      go_enter Tryz.func219, Tryz.ntmps219
      go_wp2
      refine bodyPost_ret (ret_ad2 rfl _ _ w.heap.size noA rfl (Lies.new _ _ _)) rfl ?_
      exact ⟨rfl, (Below.refl _ _).alloc (Nat.le_refl _) _⟩
end Go.Proofs.YtdpgcgaalamgkaaGreat
