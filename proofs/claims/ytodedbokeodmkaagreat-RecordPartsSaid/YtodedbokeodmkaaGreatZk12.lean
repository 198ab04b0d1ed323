/-
  A packer in memory: its object, its writer, its map, its row of begun places; what a call of it may turn. Conditions: as each theorem names them.
-/
import Derived.Test.YtodedbokeodmkaaGreatZk4
import Derived.Test.YtodedbokeodmkaaGreatZk11
import Derived.Maps.OwnSet
import Derived.Maps.Own
namespace Go.Proofs.YtodedbokeodmkaaGreat
open Go.RowKit Go.Maps
set_option linter.unusedVariables false
set_option maxRecDepth 100000

/-! ### The map of rests -/
theorem mkey : Keyed Tryz.prog 22 := string_keyed Tryz.underlying22
/-- Block b is a map of at most n entries, that has what m tells. -/
def MapIs (w : World) (b n : Nat) (m : List UInt8 → Option Nat) : Prop :=
  ∃ D : DataW Unit, w.ownsMap Tryz.prog 22 (plainElem (H := Unit) Tryz.prog 3) b n D ∧ ∀ k, Maps.has D (.string k) = (m k).isSome ∧ ∀ a, m k = some a → D.atKey (.string k) (.lit (.int .i64 0)) = .lit (.int .i64 a)
theorem MapIs.lt {w : World} {b n : Nat} {m : List UInt8 → Option Nat} (h : MapIs w b n m) : b < w.heap.size := let ⟨_, h, _⟩ := h; h.lt
theorem MapIs.not_cells {w : World} {b n : Nat} {m : List UInt8 → Option Nat} (h : MapIs w b n m) {cs : Array Value} {t : TypeId} {mk : Nat × Nat} : w.heap[b]? ≠ some (.cells cs t mk) := by
  obtain ⟨_, ⟨es, clock, hb, _⟩, _⟩ := h
  rw [hb]
  intro e
  cases e
theorem MapIs.same {w w' : World} {b n : Nat} {m : List UInt8 → Option Nat} (h : MapIs w b n m) (hs : w'.heap[b]? = w.heap[b]?) : MapIs w' b n m := by
  obtain ⟨D, ⟨es, clock, hb, F, hn, hD⟩, h2⟩ := h
  exact ⟨D, ⟨es, clock, hs.trans hb, F, hn, hD⟩, h2⟩
theorem MapIs.mono {w : World} {b n n' : Nat} {m : List UInt8 → Option Nat} (h : MapIs w b n m) (hn : n ≤ n') : MapIs w b n' m := by
  obtain ⟨D, h1, h2⟩ := h
  exact ⟨D, h1.mono hn, h2⟩
theorem MapIs.new (w : World) : MapIs (w.alloc (.map #[] 0)) w.heap.size 0 (fun _ => none) :=
  ⟨.map [], World.ownsMap_made w _ _ _, fun k => ⟨rfl, fun a h => by cases h⟩⟩

theorem keyN {s : ByteArray} (hs : s.size ≤ maxLen) : keyOf Tryz.prog 22 (.string s) = some (.string (bs s)) := WideMaps.keyOf_string_mk Tryz.underlying22 hs
section
variable {ops : Array Oper} {rest : List Oper} {o : Oper} {a : Act} {Q : Exit → Act → World → Prop}
/-- 'v, ok := m[k]'. -/
theorem wpList_look (w : World) (hg : o.guard = none) (mm x : Operand) (hop : o.op = Op.lookup 70 mm x true) (b n : Nat) (m : List UInt8 → Option Nat) (hm : a.eval mm = .map (some b)) (h : MapIs w b n m)
    (s : ByteArray) (hx : a.eval x = .string s) (hs : s.size ≤ maxLen) (r : Option Nat) (hr : m (bs s) = r)
    (hK : wpList Tryz.prog ops Q rest (a.put o.dst (.tuple #[.int .i64 ((r.getD 0 : Nat) : Int), .bool r.isSome])) w) : wpList Tryz.prog ops Q (o :: rest) a w := by
  obtain ⟨D, hown, hD⟩ := h
  refine wpList_lookup_own_ok_int w hg mm x _ hop _ 3 .i64 mkey Tryz.underlying70 Tryz.underlying3 (Tryz.zeroValue3 w) b n D hm hown _ _ hx (keyN hs) fun c hc hw => ?_
  obtain ⟨h1, h2⟩ := hD (bs s)
  rw [h1, hr]
  rw [hr] at h1 h2
  have e : c = ((r.getD 0 : Nat) : Int) := by
    rcases r with _ | v
    · rw [Maps.atKey_of_not_has h1] at hc
      simpa using hc.symm
    · rw [h2 v rfl] at hc
      simpa using hc.symm
  rw [e] at *
  exact hK
/-- 'm[k] = v'. -/
theorem wpList_keep (w : World) (hg : o.guard = none) (mm x v : Operand) (hop : o.op = Op.mapUpdate 70 mm x v) (b n : Nat) (m : List UInt8 → Option Nat) (hm : a.eval mm = .map (some b)) (h : MapIs w b n m) (hn : n < maxLen)
    (s : ByteArray) (hx : a.eval x = .string s) (hs : s.size ≤ maxLen) (c : Nat) (hv : a.eval v = .int .i64 c) (hc : c < 16384)
    (hK : ∀ w', MapIs w' b (n + 1) (upd m (bs s) c) → w.grownBy w' (some b) → wpList Tryz.prog ops Q rest (a.put o.dst undef) w') : wpList Tryz.prog ops Q (o :: rest) a w := by
  obtain ⟨D, hown, hD⟩ := h
  have hI := hown.isMap
  refine wpList_mapUpdate_own w hg mm x v _ hop _ 3 mkey Tryz.underlying70 (plainElem (H := Unit) Tryz.prog 3) b n D hm hown hn _ _ _ hx hv (keyN hs) (.lit (.int .i64 c)) [] (plainElem_int Tryz.underlying3 (WalkArith.wf_i64 (by omega))) fun w' h1 h2 => hK w' ⟨_, h1, fun k => ?_⟩ h2
  unfold upd
  by_cases hk : k = bs s
  · subst hk
    rw [if_pos rfl]
    refine ⟨Maps.has_put_same hI (k := .string (bs s)) (by trivial) _, fun a ha => ?_⟩
    cases ha
    exact Maps.atKey_put_same hI (k := .string (bs s)) (by trivial) _ _
  · rw [if_neg hk]
    have hne : (Lit.string k) ≠ Lit.string (bs s) := fun e => hk (by injection e)
    rw [Maps.has_put_other hne]
    refine ⟨(hD k).1, fun a ha => ?_⟩
    rw [Maps.atKey_put_other hne]
    exact (hD k).2 a ha
end

/-! ### The row of begun places -/
def I64 (a : Nat) : Value := .int .i64 (a : Int)
def OwnI (w : World) (base : Nat) (v : Value) (l : List Nat) : Prop := w.ownsRow base 3 1 v l.length (l.map I64)
theorem OwnI.nil (w : World) (base : Nat) : OwnI w base (.slice none 0 0) [] := World.ownsRow_nil w base _ 1
theorem OwnI.same {w w' : World} {base : Nat} {v : Value} {l : List Nat} (h : OwnI w base v l) (hs : ∀ k, v.ownBlock = some k → w'.heap[k]? = w.heap[k]?) : OwnI w' base v l := by
  refine ⟨h.1, h.2.imp id fun ⟨g, cap, cur, h1, h2, h3, h4⟩ => ⟨g, cap, cur, h1, h2, ?_, h4⟩⟩
  rw [hs g (by rw [h1]; rfl)]
  exact h3
theorem OwnI.block {w : World} {base : Nat} {v : Value} {l : List Nat} (h : OwnI w base v l) {k : Nat} (hk : v.ownBlock = some k) : base ≤ k ∧ k < w.heap.size ∧ ∃ cur, w.heap[k]? = some (.cells cur 3 (0, 0)) := by
  rcases h.2 with ⟨rfl, _⟩ | ⟨g, cap, cur, rfl, hb, hg, _⟩
  · cases hk
  · obtain rfl : g = k := by simpa [Value.ownBlock] using hk
    refine ⟨hb, ?_, cur, hg⟩
    rcases Nat.lt_or_ge g w.heap.size with hlt | hge
    · exact hlt
    · rw [Array.getElem?_eq_none hge] at hg; cases hg
theorem OwnI.shape {w : World} {base : Nat} {v : Value} {l : List Nat} (h : OwnI w base v l) : ∃ A cap, v = .slice A l.length cap ∧ l.length ≤ cap ∧ cap ≤ maxLen ∧ (l ≠ [] → ∃ g, A = some ⟨g, 0, none⟩) := by
  rcases h.2 with ⟨rfl, hn⟩ | ⟨g, cap, cur, rfl, hb, hg, hnc, hcm, _⟩
  · obtain rfl := List.eq_nil_of_length_eq_zero hn
    exact ⟨none, 0, rfl, Nat.le_refl _, Nat.zero_le _, fun h => absurd rfl h⟩
  · exact ⟨_, cap, rfl, hnc, hcm, fun _ => ⟨g, rfl⟩⟩
/-- The row, but for its last places. -/
theorem OwnI.prev {w : World} {base : Nat} {A : Option Addr} {n cap : Nat} {l : List Nat} (h : OwnI w base (.slice A n cap) l) (k : Nat) (hk : k ≤ l.length) (hA : A ≠ none) : OwnI w base (.slice A k cap) (l.take k) := by
  have hl : (l.take k).length = k := by rw [List.length_take]; omega
  rcases h.2 with ⟨h1, _⟩ | ⟨g, cap', cur, h1, hb, hg, hnc, hcm, hcs, ht⟩
  · injection h1 with h1
    exact absurd h1 hA
  · injection h1 with h1 h2 h3
    subst h1; subst h3
    refine ⟨by simp, .inr ⟨g, cap, cur, by rw [hl], hb, hg, by rw [hl]; omega, hcm, hcs, ?_⟩⟩
    have := congrArg (List.take (k * 1)) ht
    rw [List.take_take] at this
    rw [hl, List.map_take]
    simpa [Nat.min_eq_left hk] using this

/-! ### A packer -/
structure PKx (w : World) (base : Nat) (F : Nat → Prop) (g gw gm n : Nat) (sv : Value) (M : Nat) (s : PS) : Prop where
  lies : Lies w g 75 #[sv, .pointer (some ⟨gw, 0, none⟩), .map (some gm), .pointer (some ⟨g, 0, none⟩)]
  wr : WR w base gw M s.l s.f
  op : OwnI w base sv s.o
  mp : MapIs w gm n s.m
  hn : n ≤ s.l.length
  inv : Inv M s
  bg : base ≤ g
  bw : base ≤ gw
  bm : base ≤ gm
  Fg : F g
  Fw : F gw
  Fm : F gm
  Fo : ∀ k, sv.ownBlock = some k → F k
  Fr : ∀ k, rowOf w gw = some k → F k
  Fl : ∀ k, F k → base ≤ k ∧ k < w.heap.size
/-- A packer at block g, of at most M octets, that has s; all its blocks are among F. -/
def PK (w : World) (base : Nat) (F : Nat → Prop) (g M : Nat) (s : PS) : Prop := ∃ gw gm n sv, PKx w base F g gw gm n sv M s
/-- w' is w, but for blocks among F; what is among F' was among F, or is new. -/
structure Kf (base : Nat) (F F' : Nat → Prop) (w w' : World) : Prop where
  below : Below base w w'
  rest : ∀ k, k < w.heap.size → ¬ F k → w'.heap[k]? = w.heap[k]?
  sub : ∀ k, F' k → F k ∨ w.heap.size ≤ k
theorem Kf.refl (base : Nat) (F : Nat → Prop) (w : World) : Kf base F F w w := ⟨Below.refl _ _, fun _ _ _ => rfl, fun _ h => .inl h⟩
theorem Kf.trans {base : Nat} {F F' F'' : Nat → Prop} {w w' w'' : World} (h : Kf base F F' w w') (k : Kf base F' F'' w' w'') : Kf base F F'' w w'' :=
  ⟨h.below.trans k.below, fun i hi hF => (k.rest i (Nat.lt_of_lt_of_le hi h.below.size) (fun h' => (h.sub i h').elim hF (fun h' => by omega))).trans (h.rest i hi hF), fun i hi => (k.sub i hi).elim (h.sub i) (fun h' => .inr (Nat.le_trans h.below.size h'))⟩
theorem Kf.of_below {base : Nat} {F : Nat → Prop} {w w' : World} (hb : Below w.heap.size w w') (h : base ≤ w.heap.size) : Kf base F F w w' := ⟨hb.mono h, fun k hk _ => hb.block k hk, fun _ h => .inl h⟩
/-- A packer's call: it hands back v; the packer has s' then. -/
def Pkr (w : World) (base : Nat) (F : Nat → Prop) (g M : Nat) (s' : PS) (v : Value) (e : Ending) (w' : World) : Prop := e = .returned v ∧ ∃ F', PK w' base F' g M s' ∧ Kf base F F' w w'
theorem Pkr.keep {w : World} {base : Nat} {F : Nat → Prop} {g M : Nat} {s : PS} (h : PK w base F g M s) (v : Value) : Pkr w base F g M s v (.returned v) w := ⟨rfl, F, h, Kf.refl _ _ _⟩
/-- The old blocks, and the new ones. -/
def Gw (F : Nat → Prop) (w w' : World) (k : Nat) : Prop := F k ∨ (w.heap.size ≤ k ∧ k < w'.heap.size)

section
variable {w w' : World} {base g gw gm n M : Nat} {F : Nat → Prop} {sv : Value} {s : PS}
theorem PKx.base_le (h : PKx w base F g gw gm n sv M s) : base ≤ w.heap.size := Nat.le_trans h.bg (Nat.le_of_lt h.lies.lt)
theorem PKx.gw_ne (h : PKx w base F g gw gm n sv M s) : g ≠ gw := by
  obtain ⟨v, hL, _⟩ := h.wr
  exact h.lies.ne hL (by decide)
theorem PKx.row_ne (h : PKx w base F g gw gm n sv M s) : some g ≠ rowOf w gw := h.wr.row_ne h.lies (by decide)
theorem lies_same {g : Nat} {t : TypeId} {cs : Array Value} (h : Lies w g t cs) (hs : w'.heap[g]? = w.heap[g]?) : Lies w' g t cs := hs.trans h
theorem row_block {base g M : Nat} {l : List UInt8} {f : Nat} (h : WR w base g M l f) {k : Nat} (hk : rowOf w g = some k) : base ≤ k ∧ k < w.heap.size ∧ ∃ cur, w.heap[k]? = some (.cells cur 5 (0, 0)) := by
  obtain ⟨v, hL, hown⟩ := h
  rw [rowOf_lies hL rfl] at hk
  rcases hown.2 with ⟨rfl, _⟩ | ⟨g', cap, cur, rfl, hb, hg, _⟩
  · cases hk
  · obtain rfl : g' = k := by simpa [Value.ownBlock] using hk
    refine ⟨hb, ?_, cur, hg⟩
    rcases Nat.lt_or_ge g' w.heap.size with hlt | hge
    · exact hlt
    · rw [Array.getElem?_eq_none hge] at hg; cases hg
theorem writer_lies {base g M : Nat} {l : List UInt8} {f : Nat} (h : WR w base g M l f) : ∃ cur, w.heap[g]? = some (.cells cur 130 (0, 0)) := by
  obtain ⟨v, hL, _⟩ := h
  exact ⟨_, hL⟩
/-- Memory grows, nothing that lay is turned. -/
theorem PKx.next (h : PKx w base F g gw gm n sv M s) (hb : Below w.heap.size w w') : PKx w' base F g gw gm n sv M s := by
  have hlt := h.wr.lt
  refine ⟨h.lies.next hb, h.wr.next hb, h.op.same fun k hk => hb.block k (h.op.block hk).2.1, h.mp.same (hb.block _ h.mp.lt), h.hn, h.inv, h.bg, h.bw, h.bm, h.Fg, h.Fw, h.Fm, h.Fo, fun k hk => h.Fr k ?_, fun k hk => ⟨(h.Fl k hk).1, Nat.lt_of_lt_of_le (h.Fl k hk).2 hb.size⟩⟩
  rwa [rowOf_same (hb.block gw hlt)] at hk
/-- The writer has been written. -/
theorem PKx.writer (h : PKx w base F g gw gm n sv M s) {l' : List UInt8} {f' : Nat} (hw : WR w' base gw M l' f') (hk : Kp base gw w w') (hl : s.l.length ≤ l'.length) (hi : Inv M { s with l := l', f := f' }) :
    PKx w' base (Gw F w w') g gw gm n sv M { s with l := l', f := f' } ∧ Kf base F (Gw F w w') w w' := by
  have hsz := hk.below.size
  have hlt := h.wr.lt
  obtain ⟨cw, hcw⟩ := writer_lies h.wr
  have e1 : w'.heap[g]? = w.heap[g]? := hk.rest g h.lies.lt h.gw_ne h.row_ne
  have e2 : w'.heap[gm]? = w.heap[gm]? := by
    refine hk.rest gm h.mp.lt (fun e => ?_) (fun e => ?_)
    · subst e; exact h.mp.not_cells hcw
    · obtain ⟨_, _, cur, hc⟩ := row_block h.wr e.symm
      exact h.mp.not_cells hc
  have e3 : ∀ k, sv.ownBlock = some k → w'.heap[k]? = w.heap[k]? := fun k hko => by
    obtain ⟨_, h2, cur, hc⟩ := h.op.block hko
    refine hk.rest k h2 (fun e => ?_) (fun e => ?_)
    · subst e
      rw [hc] at hcw
      injection hcw with e
      injection e with _ e _
      exact absurd e (by decide)
    · obtain ⟨_, _, cur', hc'⟩ := row_block h.wr e.symm
      rw [hc] at hc'
      injection hc' with e
      injection e with _ e _
      exact absurd e (by decide)
  refine ⟨⟨lies_same h.lies e1, hw, h.op.same e3, h.mp.same e2, Nat.le_trans h.hn hl, hi, h.bg, h.bw, h.bm, .inl h.Fg, .inl h.Fw, .inl h.Fm, fun k hko => .inl (h.Fo k hko), fun k hkr => ?_, fun k hkF => ?_⟩, hk.below, fun k hkl hkF => ?_, fun k hkF => ?_⟩
  · have hkl := (row_block hw hkr).2.1
    rcases hk.row with e | e
    · exact .inl (h.Fr k (e ▸ hkr))
    · exact .inr ⟨e k hkr, hkl⟩
  · rcases hkF with h' | h'
    · exact ⟨(h.Fl k h').1, Nat.lt_of_lt_of_le (h.Fl k h').2 hsz⟩
    · exact ⟨Nat.le_trans h.base_le h'.1, h'.2⟩
  · refine hk.rest k hkl (fun e => hkF (e ▸ h.Fw)) (fun e => hkF (h.Fr k e.symm))
  · exact hkF.imp id (·.1)
/-- The map has been written. -/
theorem PKx.map (h : PKx w base F g gw gm n sv M s) {m' : List UInt8 → Option Nat} {n' : Nat} (hm : MapIs w' gm n' m') (hg : w.grownBy w' (some gm)) (hn : n' ≤ s.l.length) (hi : Inv M { s with m := m' }) :
    PKx w' base F g gw gm n' sv M { s with m := m' } ∧ Kf base F F w w' := by
  have hsz := hg.size
  have hlt := h.wr.lt
  obtain ⟨cw, hcw⟩ := writer_lies h.wr
  have e1 : w'.heap[g]? = w.heap[g]? := hg.block g h.lies.lt fun e => by
    injection e with e
    exact h.mp.not_cells (e ▸ h.lies)
  have e2 : w'.heap[gw]? = w.heap[gw]? := hg.block gw hlt fun e => by
    injection e with e
    exact h.mp.not_cells (e ▸ hcw)
  have e3 : ∀ k, sv.ownBlock = some k → w'.heap[k]? = w.heap[k]? := fun k hko => by
    obtain ⟨_, h2, cur, hc⟩ := h.op.block hko
    refine hg.block k h2 fun e => ?_
    injection e with e
    exact h.mp.not_cells (e ▸ hc)
  have hw' : WR w' base gw M s.l s.f := by
    have hr : ∀ k, rowOf w gw = some k → w'.heap[k]? = w.heap[k]? := fun k hk => by
      obtain ⟨_, h2, cur, hc⟩ := row_block h.wr hk
      refine hg.block k h2 fun e => ?_
      injection e with e
      exact h.mp.not_cells (e ▸ hc)
    obtain ⟨v, hL, hown⟩ := h.wr
    refine ⟨v, lies_same hL e2, hown.1, hown.2.imp id fun ⟨g', cap, cur, h1, h2, h3, h4⟩ => ⟨g', cap, cur, h1, h2, ?_, h4⟩⟩
    rw [hr g' (by rw [rowOf_lies hL rfl, h1]; rfl)]
    exact h3
  refine ⟨⟨lies_same h.lies e1, hw', h.op.same e3, hm, hn, hi, h.bg, h.bw, h.bm, h.Fg, h.Fw, h.Fm, h.Fo, fun k hkr => h.Fr k ?_, fun k hkF => ⟨(h.Fl k hkF).1, Nat.lt_of_lt_of_le (h.Fl k hkF).2 hsz⟩⟩, (Below.refl base w).grown hg h.base_le (fun k hk => by injection hk with hk; exact hk ▸ h.bm), fun k hkl hkF => hg.block k hkl (fun e => by injection e with e; exact hkF (e ▸ h.Fm)), fun _ hk => .inl hk⟩
  rwa [rowOf_same e2] at hkr
/-- The row of begun places has been turned, and stored into the packer. -/
theorem PKx.opened (h : PKx w base F g gw gm n sv M s) {w1 : World} {v' : Value} {o' : List Nat} (ho : OwnI w1 base v' o') (hg : w.grownBy w1 sv.ownBlock) (hv : v'.ownBlock = sv.ownBlock ∨ ∀ k, v'.ownBlock = some k → w.heap.size ≤ k) (hi : Inv M { s with o := o' }) :
    PKx (w1.setCell ⟨g, 0, none⟩ v') base (Gw F w (w1.setCell ⟨g, 0, none⟩ v')) g gw gm n v' M { s with o := o' } ∧ Kf base F (Gw F w (w1.setCell ⟨g, 0, none⟩ v')) w (w1.setCell ⟨g, 0, none⟩ v') := by
  have hsz := hg.size
  have hsz' : (w1.setCell ⟨g, 0, none⟩ v').heap.size = w1.heap.size := by simp [World.setCell]
  have hlt := h.wr.lt
  obtain ⟨cw, hcw⟩ := writer_lies h.wr
  have hne : ∀ k cur t, w.heap[k]? = some (.cells cur t (0, 0)) → t ≠ 3 → some k ≠ sv.ownBlock := fun k cur t hc ht e => by
    obtain ⟨_, _, cur', hc'⟩ := h.op.block e.symm
    rw [hc] at hc'
    injection hc' with e
    injection e with _ e _
    exact ht e
  have e1 : w1.heap[g]? = w.heap[g]? := hg.block g h.lies.lt (hne g _ _ h.lies (by decide))
  have hL1 : Lies w1 g 75 _ := lies_same h.lies e1
  have o1 : ∀ k, k ≠ g → (w1.setCell ⟨g, 0, none⟩ v').heap[k]? = w1.heap[k]? := fun k hk => heap_setCell_other w1 ⟨g, 0, none⟩ k v' hk
  have e2 : (w1.setCell ⟨g, 0, none⟩ v').heap[gw]? = w.heap[gw]? := (o1 gw (Ne.symm h.gw_ne)).trans (hg.block gw hlt (hne gw _ _ hcw (by decide)))
  have hgm : gm ≠ g := fun e => h.mp.not_cells (cs := #[sv, .pointer (some ⟨gw, 0, none⟩), .map (some gm), .pointer (some ⟨g, 0, none⟩)]) (t := 75) (mk := (0, 0)) (by rw [e]; exact e ▸ h.lies)
  have e3 : (w1.setCell ⟨g, 0, none⟩ v').heap[gm]? = w.heap[gm]? := (o1 gm hgm).trans (hg.block gm h.mp.lt fun e => by
    obtain ⟨_, _, cur, hc⟩ := h.op.block e.symm
    exact h.mp.not_cells hc)
  have hw' : WR (w1.setCell ⟨g, 0, none⟩ v') base gw M s.l s.f := by
    have hr : ∀ k, rowOf w gw = some k → (w1.setCell ⟨g, 0, none⟩ v').heap[k]? = w.heap[k]? := fun k hk => by
      obtain ⟨_, h2, cur, hc⟩ := row_block h.wr hk
      exact (o1 k (fun e => h.row_ne (by rw [hk, e]))).trans (hg.block k h2 (hne k _ _ hc (by decide)))
    obtain ⟨v, hL, hown⟩ := h.wr
    refine ⟨v, lies_same hL e2, hown.1, hown.2.imp id fun ⟨g', cap, cur, h1, h2, h3, h4⟩ => ⟨g', cap, cur, h1, h2, ?_, h4⟩⟩
    rw [hr g' (by rw [rowOf_lies hL rfl, h1]; rfl)]
    exact h3
  have ho' : OwnI (w1.setCell ⟨g, 0, none⟩ v') base v' o' := ho.same fun k hk => o1 k fun e => by
    obtain ⟨_, _, cur, hc⟩ := ho.block hk
    subst e
    rw [hL1] at hc
    injection hc with e
    injection e with _ e _
    exact absurd e (by decide)
  refine ⟨⟨hL1.set 0 v', hw', ho', h.mp.same e3, h.hn, hi, h.bg, h.bw, h.bm, .inl h.Fg, .inl h.Fw, .inl h.Fm, fun k hk => ?_, fun k hkr => .inl (h.Fr k ?_), fun k hkF => ?_⟩, ?_, fun k hkl hkF => ?_, fun k hkF => hkF.imp id (·.1)⟩
  · rcases hv with e | e
    · exact .inl (h.Fo k (e ▸ hk))
    · exact .inr ⟨e k hk, (ho'.block hk).2.1⟩
  · rwa [rowOf_same e2] at hkr
  · rcases hkF with h' | h'
    · exact ⟨(h.Fl k h').1, by rw [hsz']; exact Nat.lt_of_lt_of_le (h.Fl k h').2 hsz⟩
    · exact ⟨Nat.le_trans h.base_le h'.1, h'.2⟩
  · exact ((Below.refl base w).grown hg h.base_le (fun k hk => (h.op.block hk).1)).setCell h.bg _
  · exact (o1 k (fun e => hkF (e ▸ h.Fg))).trans (hg.block k hkl (fun e => hkF (h.Fo k e.symm)))
theorem PK.next (h : PK w base F g M s) (hb : Below w.heap.size w w') : PK w' base F g M s := by
  obtain ⟨gw, gm, n, sv, h⟩ := h
  exact ⟨gw, gm, n, sv, h.next hb⟩
theorem PK.base_le (h : PK w base F g M s) : base ≤ w.heap.size := by
  obtain ⟨gw, gm, n, sv, h⟩ := h
  exact h.base_le
theorem PK.inv (h : PK w base F g M s) : Inv M s := by
  obtain ⟨gw, gm, n, sv, h⟩ := h
  exact h.inv
theorem PK.lt (h : PK w base F g M s) {k : Nat} (hk : F k) : base ≤ k ∧ k < w.heap.size := by
  obtain ⟨gw, gm, n, sv, h⟩ := h
  exact h.Fl k hk
theorem PK.lower (h : PK w base F g M s) {b : Nat} (hb : b ≤ base) : PK w b F g M s := by
  obtain ⟨gw, gm, n, sv, h⟩ := h
  obtain ⟨v, hL, hown⟩ := h.wr
  exact ⟨gw, gm, n, sv, h.lies, ⟨v, hL, hown.base_le hb⟩, ⟨h.op.1, h.op.2.imp id fun ⟨g, cap, cur, h1, h2, h3⟩ => ⟨g, cap, cur, h1, Nat.le_trans hb h2, h3⟩⟩, h.mp, h.hn, h.inv, Nat.le_trans hb h.bg, Nat.le_trans hb h.bw, Nat.le_trans hb h.bm, h.Fg, h.Fw, h.Fm, h.Fo, h.Fr, fun k hk => ⟨Nat.le_trans hb (h.Fl k hk).1, (h.Fl k hk).2⟩⟩
end
end Go.Proofs.YtodedbokeodmkaaGreat
