/-
  Objects that a call makes and that its callees write: a block known whole; what stays, where one object is written; appends and copies of bytes. Conditions: those that each theorem names.
-/
import Derived.Test.YtabhapohkohbmaaBt
import Derived.Test.YtabhapohkohbmaaKitS
import Derived.Test.YtabhapohkohbmaaOcMath
import Derived.Deep.QuietTactic
import Derived.BigQuiet
import Derived.IntWalk
import Derived.Laws.CopyOwn
namespace Go.Proofs.Ytabhapohkohbmaa
open Go.RowKit
set_option linter.unusedVariables false

/-- Block g bears the cells cs, of type t; all may be written. -/
def Lies (w : World) (g : Nat) (t : TypeId) (cs : Array Value) : Prop := w.heap[g]? = some (.cells cs t (0, 0))
section
variable {w w' : World} {g base k : Nat} {t tb : TypeId} {cs : Array Value} {v : Value} {l : List UInt8}
theorem Lies.lt (h : Lies w g t cs) : g < w.heap.size := (Array.getElem?_eq_some_iff.1 h).1
theorem Lies.cell (h : Lies w g t cs) (j : Nat) : w.cell? ⟨g, j, none⟩ = cs[j]? := cell_of_row w g j cs t (0, 0) h
theorem Lies.free (h : Lies w g t cs) (j : Nat) : w.frozen? ⟨g, j, none⟩ = false := frozen_of_row w g j cs t h
theorem Lies.set (h : Lies w g t cs) (j : Nat) (u : Value) : Lies (w.setCell ⟨g, j, none⟩ u) g t (cs.setIfInBounds j u) := heap_setCell_same w g j cs t u h
theorem Lies.grown {row : Option Nat} (h : Lies w g t cs) (hg : w.grownBy w' row) (hne : some g ≠ row) : Lies w' g t cs := (hg.block g h.lt hne).trans h
theorem Lies.below (h : Lies w g t cs) (hb : Below k w w') (hk : g < k) : Lies w' g t cs := (hb.block g hk).trans h
theorem Lies.next (h : Lies w g t cs) (hb : Below w.heap.size w w') : Lies w' g t cs := h.below hb h.lt
theorem Lies.drew (h : Lies w g t cs) : Lies w.drew g t cs := h
theorem Lies.drewN (h : Lies w g t cs) (n : Nat) : Lies (w.drewN n) g t cs := h
theorem Lies.alloc (h : Lies w g t cs) (o : Obj) : Lies (w.alloc o) g t cs := (heap_alloc_old w o h.lt).trans h
theorem Lies.new (w : World) (t : TypeId) (cs : Array Value) : Lies (w.alloc (.cells cs t)) w.heap.size t cs := heap_alloc_new w _
theorem Lies.ne {t' : TypeId} {cs' : Array Value} {g' : Nat} (h : Lies w g t cs) (h' : Lies w g' t' cs') (ht : t ≠ t') : g ≠ g' := fun e => by
  subst e
  have e : some (Obj.cells cs t (0, 0)) = some (Obj.cells cs' t' (0, 0)) := h.symm.trans h'
  injection e with e
  injection e with _ e _
  exact ht e
theorem Own.ne_lies (h : Own tb w base v l) (hL : Lies w g t cs) (ht : t ≠ tb) : some g ≠ v.ownBlock := by
  intro e
  rcases h.2 with ⟨rfl, _⟩ | ⟨g', cap, cur, rfl, _, hh, _⟩
  · simp [Value.ownBlock] at e
  · have : g = g' := by simpa [Value.ownBlock] using e
    subst this
    exact Lies.ne hL hh ht rfl
theorem Own.grown {row : Option Nat} (h : Own tb w base v l) (hg : w.grownBy w' row) (hne : v.ownBlock = none ∨ v.ownBlock ≠ row) : Own tb w' base v l := World.ownsRow.kept h hg hne
theorem Own.base_le {base' : Nat} (h : Own tb w base v l) (hb : base' ≤ base) : Own tb w base' v l :=
  ⟨h.1, h.2.imp id fun ⟨g, cap, cur, h1, h2, h3⟩ => ⟨g, cap, cur, h1, Nat.le_trans hb h2, h3⟩⟩

/-- The block of the row that lies in the first cell of block g. -/
def rowOf (w : World) (g : Nat) : Option Nat := (w.cell? ⟨g, 0, none⟩).bind Value.ownBlock
theorem rowOf_cell {u : Value} (h : w.cell? ⟨g, 0, none⟩ = some u) : rowOf w g = u.ownBlock := by
  unfold rowOf
  rw [h]
  rfl
theorem rowOf_lies {u : Value} (h : Lies w g t cs) (h0 : cs[0]? = some u) : rowOf w g = u.ownBlock := rowOf_cell ((h.cell 0).trans h0)
theorem rowOf_same (h : w'.heap[g]? = w.heap[g]?) : rowOf w' g = rowOf w g := by
  unfold rowOf
  rw [World.cell?_of_block (w := w) (w' := w') (a := ⟨g, 0, none⟩) h]
theorem rowOf_set (w : World) (g : Nat) {j : Nat} (hj : j ≠ 0) (u : Value) : rowOf (w.setCell ⟨g, j, none⟩ u) g = rowOf w g := by
  unfold rowOf
  rw [World.cell?_setCell_other w ⟨g, j, none⟩ ⟨g, 0, none⟩ u (fun e => hj (congrArg Addr.off e))]

/-- w' is w, but for block g and the row of bytes that lies in its first cell: those may have been written, the row may be a new one. -/
structure Kp (base g : Nat) (w w' : World) : Prop where
  below : Below base w w'
  rest : ∀ k, k < w.heap.size → k ≠ g → some k ≠ rowOf w g → w'.heap[k]? = w.heap[k]?
  row : rowOf w' g = rowOf w g ∨ ∀ k, rowOf w' g = some k → w.heap.size ≤ k
theorem Kp.refl (base g : Nat) (w : World) : Kp base g w w := ⟨Below.refl _ _, fun _ _ _ _ => rfl, .inl rfl⟩
theorem Kp.trans {w'' : World} (h : Kp base g w w') (k : Kp base g w' w'') : Kp base g w w'' := by
  refine ⟨h.below.trans k.below, fun i hi hg hr => ?_, ?_⟩
  · refine (k.rest i (Nat.lt_of_lt_of_le hi h.below.size) hg ?_).trans (h.rest i hi hg hr)
    rcases h.row with e | e
    · rw [e]; exact hr
    · intro e2
      have := e i e2.symm
      omega
  · rcases k.row with e | e
    · rw [e]; exact h.row
    · exact .inr fun i hi => Nat.le_trans h.below.size (e i hi)
theorem Kp.of_grown (hg : w.grownBy w' (some g)) (hbase : base ≤ g) (hb : base ≤ w.heap.size) (hr : rowOf w' g = rowOf w g) : Kp base g w w' :=
  ⟨(Below.refl base w).grown hg hb fun k hk => by injection hk with hk; omega, fun k hk hne _ => hg.block k hk (fun e => hne (by injection e)), .inl hr⟩
theorem Kp.of_below (hg : Below w.heap.size w w') (hb : base ≤ w.heap.size) (hlt : g < w.heap.size) : Kp base g w w' :=
  ⟨hg.mono hb, fun k hk _ _ => hg.block k hk, .inl (rowOf_same (hg.block g hlt))⟩
/-- The row is written in its place. -/
theorem Kp.of_row {u : Value} (hL : Lies w g t cs) (h0 : cs[0]? = some u) (hown : Own tb w base u l) (ht : t ≠ tb) (hg : w.grownBy w' u.ownBlock) (hb : base ≤ w.heap.size) : Kp base g w w' :=
  ⟨below_grown hg hown (Nat.le_refl _) hb, fun k hk _ hr => hg.block k hk (by rw [← rowOf_lies hL h0]; exact hr), .inl (by rw [rowOf_lies (hL.grown hg (hown.ne_lies hL ht)) h0, rowOf_lies hL h0])⟩
/-- The row is made longer, and stored into the first cell. -/
theorem Kp.of_put {u u' : Value} (hL : Lies w g t cs) (h0 : cs[0]? = some u) (hown : Own tb w base u l) (ht : t ≠ tb) (hg : w.grownBy w' u.ownBlock) (hb : base ≤ w.heap.size) (hbg : base ≤ g) (hob : u'.ownBlock = u.ownBlock ∨ u'.ownBlock = some w.heap.size) :
    Kp base g w (w'.setCell ⟨g, 0, none⟩ u') := by
  have hL' := hL.grown hg (hown.ne_lies hL ht)
  have hc : 0 < cs.size := (Array.getElem?_eq_some_iff.1 h0).1
  have hr : rowOf (w'.setCell ⟨g, 0, none⟩ u') g = u'.ownBlock := rowOf_lies (hL'.set 0 u') (by simp [hc])
  refine ⟨(below_grown hg hown (Nat.le_refl _) hb).setCell hbg _, fun k hk hne hkr => ?_, ?_⟩
  · rw [heap_setCell_other w' ⟨g, 0, none⟩ k u' hne]
    exact hg.block k hk (by rw [← rowOf_lies hL h0]; exact hkr)
  · rw [hr, rowOf_lies hL h0]
    rcases hob with e | e
    · exact .inl e
    · refine .inr fun k hk => ?_
      rw [e] at hk
      injection hk with hk
      omega
theorem Kp.from_drewN {n : Nat} (h : Kp base g (w.drewN n) w') : Kp base g w w' :=
  ⟨⟨h.below.os, h.below.tape, h.below.output, h.below.size, h.below.block⟩, h.rest, h.row⟩
theorem Kp.to_drewN (h : Kp base g w w') (n : Nat) : Kp base g w (w'.drewN n) :=
  ⟨⟨h.below.os, h.below.tape, h.below.output, h.below.size, h.below.block⟩, h.rest, h.row⟩
theorem grown_set {base : Nat} (w : World) (g j : Nat) (u : Value) : w.grownBy (w.setCell ⟨g, j, none⟩ u) (some g) :=
  ⟨rfl, rfl, rfl, by simp [World.setCell], fun k _ hk => heap_setCell_other w ⟨g, j, none⟩ k u (fun e => hk (by simp [e]))⟩
theorem grown_drewN (w : World) (n : Nat) (row : Option Nat) : w.grownBy (w.drewN n) row := ⟨rfl, rfl, rfl, Nat.le_refl _, fun _ _ _ => rfl⟩
theorem grown_next {w'' : World} {row : Option Nat} (h : w.grownBy w' row) (k : w'.grownBy w'' row) : w.grownBy w'' row := grown_trans h k (.inl rfl)
end

section
variable {P : Program} {tb ts tt : TypeId}
theorem own_of {w : World} {base n : Nat} {tb : TypeId} {v : Value} {l : List UInt8} (hl : l.length = n) (h : w.ownsRow base tb 1 v n (l.map B)) : Own tb w base v l := by subst hl; exact h
theorem own_to {w : World} {base n : Nat} {tb : TypeId} {v : Value} {l : List UInt8} (hl : l.length = n) (h : Own tb w base v l) : w.ownsRow base tb 1 v n (l.map B) := by subst hl; exact h
theorem run_append_where (T : BT P tb ts tt) (w : World) (ty : TypeId) (base : Nat) (v : Value) (l : List UInt8) (hown : Own tb w base v l) (s : ByteArray) (hlen : l.length + s.size ≤ 70368744177664) :
    ∀ v' w', (Builtin.append_ #[ts, tt] ty #[v, .string s]).run P w = .ok v' w' → (v' = .slice none 0 0 ↔ v = .slice none 0 0 ∧ s.size = 0) → v'.ownBlock = v.ownBlock ∨ v'.ownBlock = some w.heap.size := by
  intro v' w' hr hiff
  obtain ⟨i, hi, hz, hsz, hby⟩ := info_parts T.info
  rcases hown.2 with ⟨rfl, hn⟩ | ⟨g, cap, cur, rfl, hbg, hg, hnc, hcm, hcs, htake⟩
  · by_cases h0 : s.size = 0
    · rw [hiff.2 ⟨rfl, h0⟩]; exact .inl rfl
    · have h2 := run_append_nil_string (P := P) w ts tt ty tb i (.int .u8 0) T.us T.ut hi hz s (by omega) (by omega) (by rw [hby]; omega)
      rw [h2] at hr
      injection hr with hr
      rw [← hr]
      exact .inr rfl
  · by_cases hroom : l.length + s.size ≤ cap
    · have h2 := Lib.run_append_room_string (P := P) w ts tt ty tb i T.us T.ut hi hsz g l.length cap cur hg s hroom (by omega)
      rw [h2] at hr
      injection hr with hr
      rw [← hr]
      exact .inl rfl
    · have h2 := Lib.run_append_grow_string (P := P) w ts tt ty tb i (.int .u8 0) T.us T.ut hi hz ⟨g, 0, none⟩ l.length cap (l.map B) (by rw [hsz, List.length_map, Nat.mul_one]) (World.ownsRow.cells hown (g := g) rfl) s (by omega) (by omega) (by rw [hby]; exact growslice_fits (by omega) (by omega))
      rw [h2] at hr
      injection hr with hr
      rw [← hr]
      exact .inr rfl

/-- append of a string onto bytes that the call owns: the new slice written out; its octets under a name of the prover's; where it lies. -/
theorem wpList_appendL (T : BT P tb ts tt) (w : World) {ops : Array Oper} {rest : List Oper} {o : Oper} {a : Act} {Q : Exit → Act → World → Prop} (hgd : o.guard = none) (s x : Operand)
    (ho : o.op = .call { callee := .builtin .append, args := #[s, x], argTypes := #[ts, tt] })
    (base : Nat) (v : Value) (l : List UInt8) (hs : a.eval s = v) (hown : Own tb w base v l)
    (t : ByteArray) (hx : a.eval x = .string t) (hlen : l.length + t.size ≤ 70368744177664) (hbase : base ≤ w.heap.size) (L : List UInt8) (hL : l ++ bs t = L)
    (h : ∀ A' cap' w', Own tb w' base (.slice A' L.length cap') L → w.grownBy w' v.ownBlock → ((Value.slice A' L.length cap').ownBlock = v.ownBlock ∨ (Value.slice A' L.length cap').ownBlock = some w.heap.size) → wpList P ops Q rest (a.put o.dst (.slice A' L.length cap')) w') :
    wpList P ops Q (o :: rest) a w := by
  subst hL
  refine wpList_plain hgd fun K hK => ?_
  obtain ⟨i, hi, hz, hsz, hby⟩ := info_parts T.info
  obtain ⟨v', w', hr, h2, h3, h4⟩ := Lib.run_append_own_string (P := P) w base ts tt o.type tb i T.us T.ut hi hz hsz hby v l.length (l.map B) hown t (by unfold maxLen; omega) (by omega) hbase
  have h5 := run_append_where T w o.type base v l hown t hlen v' w' hr h4
  have h6 : Own tb w' base v' (l ++ bs t) := own_of (by rw [List.length_append, bs_length]) (by rw [List.map_append]; exact h2)
  obtain ⟨A', cap', rfl⟩ := h6.shape
  unfold Oper.wp execOp
  simp only [ho, resolve, invoke, builtin, Sem.run_bind, Sem.run_pure, Result.andThen_ok, List.map_toArray, List.map_cons, List.map_nil, hs, hx, hr]
  exact hK _ _ (h A' cap' w' h6 h3 h5)

theorem take_splice {α : Type} (L : List α) (n k : Nat) (x : List α) (h : k + x.length ≤ n) (hn : n ≤ L.length) : (L.take k ++ x ++ L.drop (k + x.length)).take n = (L.take n).take k ++ (x ++ (L.take n).drop (k + x.length)) := by
  apply List.ext_getElem?
  intro j
  have hk : (L.take k).length = k := by rw [List.length_take]; omega
  have hk' : ((L.take n).take k).length = k := by rw [List.length_take, List.length_take]; omega
  by_cases h1 : j < k
  · rw [List.getElem?_take, if_pos (by omega), List.append_assoc, List.getElem?_append_left (by omega), List.getElem?_append_left (by omega), List.getElem?_take, if_pos h1, List.getElem?_take, if_pos h1, List.getElem?_take, if_pos (by omega)]
  · by_cases h2 : j < k + x.length
    · rw [List.getElem?_take, if_pos (by omega), List.append_assoc, List.getElem?_append_right (by omega), List.getElem?_append_left (by omega), List.getElem?_append_right (by omega), List.getElem?_append_left (by omega), hk, hk']
    · rw [List.append_assoc, List.getElem?_take, List.getElem?_append_right (by omega : ((L.take n).take k).length ≤ j), List.getElem?_append_right (by omega : x.length ≤ j - ((L.take n).take k).length), List.getElem?_drop, List.getElem?_take, hk']
      by_cases h3 : j < n
      · rw [if_pos h3, if_pos (by omega), List.getElem?_append_right (by omega), List.getElem?_append_right (by omega), List.getElem?_drop, hk]
      · rw [if_neg h3, if_neg (by omega)]

/-- copy of bytes into the midst of bytes that the call owns, as one step of a region that draws. -/
theorem step_copyB (T : BT P tb ts tt) {ops : Array Oper} {o : Oper} {a : Act} {w : World} {K : Act → World → Prop} {Q : Exit → Act → World → Prop} {E : Prop} (hgd : o.guard = none) (d s : Operand)
    (ho : o.op = .call { callee := .builtin .copy, args := #[d, s], argTypes := #[ts, ts] })
    (base g0 cap k : Nat) (l x : List UInt8) (hown : Own tb w base (.slice (some ⟨g0, 0, none⟩) l.length cap) l) (dLen dCap : Nat) (hd : a.eval d = .slice (some ⟨g0, k, none⟩) dLen dCap)
    (ad : Addr) (m c : Nat) (hs : a.eval s = .slice (some ad) m c) (hm : m = x.length) (hx : ∀ j u, (x.map B)[j]? = some u → w.cell? (ad.add j) = some u) (hfit : k + x.length ≤ l.length) (hdl : x.length ≤ dLen)
    (h : ∀ w', Own tb w' base (.slice (some ⟨g0, 0, none⟩) l.length cap) (over l k x) → w.grownBy w' (some g0) → K (a.put o.dst (goInt x.length)) w') :
    if Region.wanted o (yielded ops a.tmps) = true then Oper.wp P o a w K Q else E := by
  subst hm
  have hw : Region.wanted o (yielded ops a.tmps) = true := by simp [Region.wanted, hgd]
  rw [if_pos hw]
  obtain ⟨i, hi, hz, hsz, hby⟩ := info_parts T.info
  rcases hown.2 with ⟨h', _⟩ | ⟨g', cap', cur, h', hb, hg, hnc, hcm, hcs, htake⟩
  · simp at h'
  · simp only [Value.slice.injEq, Option.some.injEq, Addr.mk.injEq, and_true, true_and] at h'
    obtain ⟨rfl, rfl⟩ := h'
    have hlen : (x.map B).length = Nat.min x.length dLen := by rw [List.length_map]; exact (Nat.min_eq_left hdl).symm
    have hrun := run_copy_row (P := P) w ts ts o.type tb g0 k dLen dCap ad x.length c cur tb (x.map B) T.us (by rw [hi]; simp [hsz]) hg hlen hx (by rw [List.length_map, hcs]; omega) (fun v hv => by obtain ⟨b, _, rfl⟩ := List.mem_map.1 hv; rfl)
    rw [List.length_map] at hrun
    unfold Oper.wp
    simp [execOp, ho, resolve, invoke, builtin, hd, hs, hrun, Result.andThen]
    refine h _ (own_of (over_length l k x hfit) ⟨?_, .inr ⟨g0, cap, _, rfl, hb, setRow_heap w g0 _ _ tb _ hg, hnc, hcm, ?_, ?_⟩⟩) ⟨rfl, rfl, rfl, by simp [World.setRow], fun j _ hj => setRow_other w g0 j _ (fun e => hj (by rw [e]))⟩
    · rw [List.length_map, over_length l k x hfit, Nat.mul_one]
    · simp [hcs]; omega
    · have h2 := take_splice cur.toList (l.length * 1) k (x.map B) (by rw [List.length_map]; omega) (by show l.length * 1 ≤ cur.size; omega)
      rw [htake, List.length_map] at h2
      refine (congrArg (List.take (l.length * 1)) (show _ = cur.toList.take k ++ x.map B ++ cur.toList.drop (k + x.length) by simp)).trans (h2.trans ?_)
      simp [over, List.map_take, List.map_drop]
end

/-- A call that only reads: it hands back v. -/
def Quiet (w : World) (v : Value) (e : Ending) (w' : World) : Prop := e = .returned v ∧ ∃ m, w' = w.drewN m
theorem Quiet.now (w : World) (v : Value) : Quiet w v (.returned v) w := ⟨rfl, 0, rfl⟩

end Go.Proofs.Ytabhapohkohbmaa
