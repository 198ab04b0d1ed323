/-
  One operation of a region at a time: calls, loads, what is built, boxed, written into a map; what stands of what was done ahead. Conditions: as each theorem names them. The map of kinds is made: whatever the order, it tells of each type what it has. No condition. The map of kinds: kinds() makes it; a type is asked for in it. No condition.
-/
import Derived.Test.YtodedbokeodmkaaGreatZk39
import Derived.Test.YtodedbokeodmkaaGreatZk34
import Derived.Maps.OwnSet
namespace Go.Proofs.YtodedbokeodmkaaGreat
open Go.RowKit Go.Maps
set_option linter.unusedVariables false
set_option maxRecDepth 100000

section
variable {ops : Array Oper} {o : Oper} {i : Nat} {a : Act} {w : World} {Q : Exit → Act → World → Prop} {K : Act → World → Prop}
theorem wpOp_of (hi : ops[i]? = some o) (hg : o.guard = none) (h : Oper.wp Tryz.prog o a w K Q) : wpOp Tryz.prog ops Q i K a w := by
  unfold wpOp
  have hw : Region.wanted o (yielded ops a.tmps) = true := by simp [Region.wanted, hg]
  simp only [hi, hw, if_true]
  exact .inl h
theorem op_call {fid : FuncId} {xs : Array Operand} {ats : Array TypeId} {args : Array Value} (hop : o.op = .call { callee := .value (.func fid), args := xs, argTypes := ats }) (hgo : Goes fid) (ha : xs.map a.eval = args)
    (h : Calls Tryz.prog fid args w fun e w' => ∃ v, e = .returned v ∧ K (a.put o.dst v) w') : Oper.wp Tryz.prog o a w K Q := by
  have e : execOp a.eval o = callFunc fid (#[] ++ xs.map a.eval ++ #[]) := by
    obtain ⟨d, op, ty, pos, af, gd⟩ := o
    simp only at hop
    subst hop
    rfl
  unfold Oper.wp
  rw [e, hgo, ha]
  refine Calls.mono (by simpa using h) ?_
  rintro e w' ⟨v, rfl, hv⟩
  exact hv
theorem op_value {v : Value} {w' : World} (h : (execOp a.eval o).run Tryz.prog w = .ok (.value v) w') (hK : K (a.put o.dst v) w') : Oper.wp Tryz.prog o a w K Q := by
  unfold Oper.wp
  rw [h]
  exact hK
theorem op_skip {w' : World} (h : (execOp a.eval o).run Tryz.prog w = .ok .skip w') (hK : K (a.put o.dst undef) w') : Oper.wp Tryz.prog o a w K Q := by
  unfold Oper.wp
  rw [h]
  exact hK
end
section
variable {ρ : Operand → Value} {o : Oper} {w : World}
theorem ex_load {b : Nat} {x : Operand} {v0 v1 v2 v3 v4 : Value} (hop : o.op = .load 139 x) (hx : ρ x = .pointer (some ⟨b, 0, none⟩)) (hl : Lies w b 139 #[v0, v1, v2, v3, v4]) : (execOp ρ o).run Tryz.prog w = .ok (.value (.agg #[v0, v1, v2, v3, v4])) w := by
  have c0 := hl.cell 0
  have c1 := hl.cell 1
  have c2 := hl.cell 2
  have c3 := hl.cell 3
  have c4 := hl.cell 4
  simp [execOp, hop, hx, go_sem, c0, c1, c2, c3, c4, Tryz.isAgg139, Tryz.sizeOf139]
theorem ex_map (hop : o.op = .makeMap 171 none) : (execOp ρ o).run Tryz.prog w = .ok (.value (.map (some w.heap.size))) (w.alloc (.map #[] 0)) := by
  simp [execOp, hop, go_sem, run_makeMap]
theorem ex_move {x : Operand} {v : Value} (hop : o.op = .move x) (hx : ρ x = v) : (execOp ρ o).run Tryz.prog w = .ok (.value v) w := by
  simp [execOp, hop, go_sem, hx]
theorem ex_assign {x : Operand} {v : Value} (hop : o.op = .assign x) (hx : ρ x = v) : (execOp ρ o).run Tryz.prog w = .ok (.value v) w := by
  simp [execOp, hop, go_sem, hx]
theorem ex_slice2 {x y : Operand} {p q : K5} (hop : o.op = .buildSlice 233 2 #[(0, x), (1, y)]) (hx : ρ x = kv p) (hy : ρ y = kv q) : (execOp ρ o).run Tryz.prog w = .ok (.value (.slice (some ⟨w.heap.size, 0, none⟩) 2 2)) (w.alloc (.cells (flatK [p, q]) 139)) := by
  simp [execOp, hop, hx, hy, go_sem, flatK, flatL]
theorem ex_slice3 {x y z : Operand} {p q r : K5} (hop : o.op = .buildSlice 233 3 #[(0, x), (1, y), (2, z)]) (hx : ρ x = kv p) (hy : ρ y = kv q) (hz : ρ z = kv r) : (execOp ρ o).run Tryz.prog w = .ok (.value (.slice (some ⟨w.heap.size, 0, none⟩) 3 3)) (w.alloc (.cells (flatK [p, q, r]) 139)) := by
  simp [execOp, hop, hx, hy, hz, go_sem, flatK, flatL]
theorem ex_ws1 (hc : ∀ v, ρ (.const v) = v) {n0 : Int} (hop : o.op = .build 212 #[(0, .const (.int .i64 n0))]) : (execOp ρ o).run Tryz.prog w = .ok (.value (wsV n0 0 0 0 0)) w := by
  simp [execOp, hop, go_sem, hc]
theorem ex_ws3 (hc : ∀ v, ρ (.const v) = v) {n0 n1 n2 : Int} (hop : o.op = .build 212 #[(0, .const (.int .i64 n0)), (1, .const (.int .i64 n1)), (2, .const (.int .i64 n2))]) : (execOp ρ o).run Tryz.prog w = .ok (.value (wsV n0 n1 n2 0 0)) w := by
  simp [execOp, hop, go_sem, hc]
theorem ex_ws5 (hc : ∀ v, ρ (.const v) = v) {n0 n1 n2 n3 n4 : Int} (hop : o.op = .build 212 #[(0, .const (.int .i64 n0)), (1, .const (.int .i64 n1)), (2, .const (.int .i64 n2)), (3, .const (.int .i64 n3)), (4, .const (.int .i64 n4))]) : (execOp ρ o).run Tryz.prog w = .ok (.value (wsV n0 n1 n2 n3 n4)) w := by
  simp [execOp, hop, go_sem, hc]

/-! ### The map of kinds -/
abbrev RK : Value → Option (DataW Value × List MemPlace) := fun v => some (.held v, [])
abbrev MapOf (w : World) (b n : Nat) (D : DataW Value) : Prop := w.ownsMap Tryz.prog 3 RK b n D
abbrev ki (k : Int) : Lit := .int .i64 k
theorem ikey : Keyed Tryz.prog 3 := int_keyed Tryz.underlying3
theorem keyI {k : Int} (h : -9223372036854775808 ≤ k ∧ k ≤ 9223372036854775807) : keyOf Tryz.prog 3 (.int .i64 k) = some (ki k) := by
  exact Maps.keyOf_int_mk Tryz.underlying3 (WalkArith.wf_i64 h)
theorem ex_insert {m x : Operand} {k : Int} {v : Value} {b n : Nat} {D : DataW Value} (hc : ∀ v, ρ (.const v) = v) (hop : o.op = .insert 171 m (.const (.int .i64 k)) x) (hm : ρ m = .map (some b)) (hx : ρ x = v) (hD : MapOf w b n D) (hn : n < maxLen) (hk : -9223372036854775808 ≤ k ∧ k ≤ 9223372036854775807) :
    ∃ w', (execOp ρ o).run Tryz.prog w = .ok .skip w' ∧ MapOf w' b (n + 1) (D.put (ki k) (.held v)) ∧ w.grownBy w' (some b) := by
  obtain ⟨w', hrun, h1, h2⟩ := World.ownsMap.update hD ikey Tryz.underlying171 hn (keyI hk) (val := v) rfl
  refine ⟨w', ?_, h1, h2⟩
  simp [execOp, hop, hm, hx, hc, hrun, Result.andThen]
end
end Go.Proofs.YtodedbokeodmkaaGreat
namespace Go.Proofs.YtodedbokeodmkaaGreat
open Go.RowKit Go.Maps
set_option linter.unusedVariables false
set_option maxRecDepth 100000

/-- What stands behind an operation. -/
inductive Sd where
  | kind (j : Nat) (K : List Pt)
  | lit (j : Nat) (v : Value)
  | kinds (j : Nat) (ps : List Pt)
  | map
  | ins (k : Int)
  | mv (j : Nat)
  | no
def Sd.slots : Sd → List Nat
  | .kind j _ => [j]
  | .lit j _ => [j]
  | .kinds j _ => [j]
  | .map => [4]
  | .ins _ => [4]
  | .mv j => [j, 4]
  | .no => []
def Sd.holds (lo : Nat) (a : Act) (w : World) : Sd → Prop
  | .kind j K => IK lo w (a.eval (.tmp j)) K
  | .lit j v => a.eval (.tmp j) = v
  | .kinds j ps => ∃ L gp, a.eval (.tmp j) = .slice (some ⟨gp, 0, none⟩) L.length L.length ∧ KB w gp L ∧ lo ≤ gp ∧ Parts lo w L ps
  | .map => ∃ b, a.eval (.tmp 4) = .map (some b)
  | .ins k => ∃ b n D, a.eval (.tmp 4) = .map (some b) ∧ MapOf w b n D ∧ Maps.has D (ki k) = true
  | .mv j => ∃ b, a.eval (.tmp j) = .map (some b) ∧ a.eval (.tmp 4) = .map (some b)
  | .no => True
/-- What the map tells is right. -/
def MGood (lo : Nat) (w : World) (D : DataW Value) : Prop := ∀ k : Int, Maps.has D (ki k) = true → ∃ v K, table k = some K ∧ (∀ z, D.atKey (ki k) z = .held v) ∧ IK lo w v K
structure BI (lo : Nat) (W0 : World) (f : Nat) (a : Act) (w : World) : Prop where
  df : a.defers = []
  sz : a.tmps.size = 30
  below : Below lo W0 w
  tgt : ∃ bt x, a.eval (.tmp 1) = .pointer (some ⟨bt, 0, none⟩) ∧ Lies w bt 139 #[fv (K5.a0 x), fv x.a1, fv x.a2, fv x.a3, fv x.a4] ∧ IK lo w (kv x) [.nam false true]
  mp : ∀ b, a.eval (.tmp 4) = .map (some b) → lo ≤ b ∧ ∃ n D, MapOf w b n D ∧ n + f ≤ 40 ∧ MGood lo w D
theorem Parts.next {lo : Nat} {w w' : World} {L : List K5} {ps : List Pt} (h : Parts lo w L ps) (hg : CG w w') : Parts lo w' L ps := { h with ik := fun i hi hp => (h.ik i hi hp).next hg }
theorem MGood.next {lo : Nat} {w w' : World} {D : DataW Value} (h : MGood lo w D) (hg : CG w w') : MGood lo w' D := fun k hk => let ⟨v, K, h1, h2, h3⟩ := h k hk; ⟨v, K, h1, h2, h3.next hg⟩
theorem MapOf.next {w w' : World} {b n : Nat} {D : DataW Value} (h : MapOf w b n D) (hb : Below w.heap.size w w') : MapOf w' b n D := by
  have hlt := World.ownsMap.lt h
  obtain ⟨es, clock, h1, F, h2, h3⟩ := h
  exact ⟨es, clock, (hb.block b hlt).trans h1, F, h2, h3⟩
theorem MapOf.eq {w : World} {b n n' : Nat} {D D' : DataW Value} (h : MapOf w b n D) (h' : MapOf w b n' D') : D = D' := by
  obtain ⟨es, clock, h1, F, h2, h3⟩ := h
  obtain ⟨es', clock', h1', F', h2', h3'⟩ := h'
  rw [h1] at h1'
  injection h1' with e
  injection e with e1 e2
  subst e1
  rw [h3, h3']
theorem MapOf.not_cells {w : World} {b n : Nat} {D : DataW Value} (h : MapOf w b n D) {cs : Array Value} {t : TypeId} {m : Nat × Nat} : w.heap[b]? ≠ some (.cells cs t m) := by
  obtain ⟨es, clock, h1, _⟩ := h
  rw [h1]
  intro e
  cases e
theorem CG.map {w w' : World} {b n : Nat} {D : DataW Value} (h : MapOf w b n D) (hg : w.grownBy w' (some b)) : CG w w' :=
  ⟨hg.size, fun j cs t m hj => hg.block j (Array.getElem?_eq_some_iff.1 hj).1 fun e => by injection e with e; exact h.not_cells (e ▸ hj)⟩
theorem eval_same {a : Act} {d : Nat} (h : d < a.tmps.size) (v : Value) : (a.put (some d) v).eval (.tmp d) = v := by
  simp [Act.put, Act.eval, h]
theorem eval_ne {a : Act} {dst : Option Nat} {j : Nat} (h : dst ≠ some j) (v : Value) : (a.put dst v).eval (.tmp j) = a.eval (.tmp j) := Act.eval_put fun d hd e => h (by injection e with e; rw [hd, e])
/-- What stood stands on, where blocks of cells stay, and the map, too. -/
theorem Sd.next {lo : Nat} {a a' : Act} {w w' : World} {d : Sd} (h : d.holds lo a w) (hg : CG w w') (hm : ∀ b n D, MapOf w b n D → MapOf w' b n D) (he : ∀ j ∈ d.slots, a'.eval (.tmp j) = a.eval (.tmp j)) : d.holds lo a' w' := by
  cases d with
  | kind j K =>
    show IK lo w' (a'.eval (.tmp j)) K
    rw [he j (by simp [Sd.slots])]
    exact IK.next h hg
  | lit j v => exact (he j (by simp [Sd.slots])).trans h
  | kinds j ps =>
    obtain ⟨L, gp, h1, h2, h3, h4⟩ := h
    exact ⟨L, gp, (he j (by simp [Sd.slots])).trans h1, (hg.cells _ _ _ _ h2).trans h2, h3, h4.next hg⟩
  | map =>
    obtain ⟨b, h1⟩ := h
    exact ⟨b, (he 4 (by simp [Sd.slots])).trans h1⟩
  | ins k =>
    obtain ⟨b, n, D, h1, h2, h3⟩ := h
    exact ⟨b, n, D, (he 4 (by simp [Sd.slots])).trans h1, hm _ _ _ h2, h3⟩
  | mv j =>
    obtain ⟨b, h1, h2⟩ := h
    exact ⟨b, (he j (by simp [Sd.slots])).trans h1, (he 4 (by simp [Sd.slots])).trans h2⟩
  | no => trivial
/-- .. where an entry is written. -/
theorem Sd.put {lo : Nat} {a : Act} {w w' : World} {d : Sd} {b n : Nat} {D : DataW Value} {k : Int} {v : Value} (h : d.holds lo a w) (h4 : a.eval (.tmp 4) = .map (some b)) (hD : MapOf w b n D) (hg : w.grownBy w' (some b)) (hD' : MapOf w' b (n + 1) (D.put (ki k) (.held v))) (u : Value) : d.holds lo (a.put none u) w' := by
  have hcg := CG.map hD hg
  cases d with
  | kind j K => exact IK.next h hcg
  | lit j v => exact h
  | kinds j ps =>
    obtain ⟨L, gp, h1, h2, h3, h4⟩ := h
    exact ⟨L, gp, h1, (hcg.cells _ _ _ _ h2).trans h2, h3, h4.next hcg⟩
  | map => exact h
  | ins k' =>
    obtain ⟨b', n', D', h1, h2, h3⟩ := h
    have e1 : a.eval (.tmp 4) = .map (some b') := h1
    rw [h4] at e1
    injection e1 with e1
    injection e1 with e1
    subst e1
    have e2 := hD.eq h2
    subst e2
    refine ⟨b, _, _, h4, hD', ?_⟩
    by_cases hk : k' = k
    · subst hk
      exact Maps.has_put_same hD.isMap (k := ki k') (by trivial) _
    · rw [Maps.has_put_other (fun e => hk (by injection e))]
      exact h3
  | mv j => exact h
  | no => trivial
theorem MGood.put {lo : Nat} {w w' : World} {b n : Nat} {D : DataW Value} {k : Int} {v : Value} {K : List Pt} (h : MGood lo w D) (hD : MapOf w b n D) (hg : w.grownBy w' (some b)) (ht : table k = some K) (hv : IK lo w v K) : MGood lo w' (D.put (ki k) (.held v)) := by
  have hcg := CG.map hD hg
  intro k' hk'
  by_cases he : k' = k
  · subst he
    exact ⟨v, K, ht, fun z => Maps.atKey_put_same hD.isMap (k := ki k') (by trivial) _ _, hv.next hcg⟩
  · have hne : ki k' ≠ ki k := fun e => he (by injection e)
    rw [Maps.has_put_other hne] at hk'
    obtain ⟨v', K', h1, h2, h3⟩ := h k' hk'
    exact ⟨v', K', h1, fun z => by rw [Maps.atKey_put_other hne]; exact h2 z, h3.next hcg⟩
def dsc : Nat → Sd := fun j => ([.map, .kind 5 [.adr false], .ins 1, .kind 6 [.nam false true], .ins 2, .kind 7 [.nam false true], .ins 5, .kind 8 [.nam false true], .lit 9 (.agg #[.func (.func 71) #[] #[], .func (.func 154) #[] #[]]), .kind 10 [.nam true true], .lit 11 (wsV 4 4 4 4 4), .kind 12 [.num 4 4 4 4 4], .kinds 13 [.nam false true, .nam true true, .num 4 4 4 4 4], .kind 14 [.nam false true, .nam true true, .num 4 4 4 4 4], .ins 6, .kind 15 [.nam false true], .ins 12, .lit 16 (wsV 2 0 0 0 0), .kind 17 [.num 2 0 0 0 0], .kind 18 [.nam false true], .kinds 19 [.num 2 0 0 0 0, .nam false true], .kind 20 [.num 2 0 0 0 0, .nam false true], .ins 15, .kind 21 [.txt], .ins 16, .kind 22 [.adr true], .ins 28, .lit 23 (wsV 2 2 2 0 0), .kind 24 [.num 2 2 2 0 0], .lit 25 (.agg #[.func (.func 200) #[] #[], .func (.func 201) #[] #[]]), .kind 26 [.nam false false], .kinds 27 [.num 2 2 2 0 0, .nam false false], .kind 28 [.num 2 2 2 0 0, .nam false false], .ins 33, .mv 29, .mv 0] : List Sd).getD j .no
/-- No other operation's place is written. -/
def okS (i : Nat) (d : Option Nat) : Bool := (List.range 36).all fun j => j == i || (dsc j).slots.all fun s => d != some s
theorem okS_spec {i : Nat} {d : Option Nat} (h : okS i d = true) {j : Nat} (hj : j ≠ i) : ∀ s ∈ (dsc j).slots, d ≠ some s := by
  intro s hs
  by_cases h36 : j < 36
  · have := List.all_eq_true.1 h j (List.mem_range.2 h36)
    rw [Bool.or_eq_true] at this
    rcases this with h1 | h1
    · exact absurd (by simpa using h1) hj
    · have := List.all_eq_true.1 h1 s hs
      simpa using this
  · have e : dsc j = .no := by
      unfold dsc
      rw [List.getD_eq_getElem?_getD, List.getElem?_eq_none (by simp; omega)]
      rfl
    rw [e] at hs
    simp [Sd.slots] at hs
def depB (o : Oper) (j : Nat) : Bool := o.after.any fun e => e.on == j && Region.binds .any e
theorem depB_spec {o : Oper} {j : Nat} {D : Nat → Prop} (h : depB o j = true) (hd : ∀ e ∈ o.after, Region.binds .any e = true → D e.on) : D j := by
  unfold depB at h
  rw [Array.any_eq_true] at h
  obtain ⟨i, hi, h⟩ := h
  rw [Bool.and_eq_true] at h
  have := hd _ (Array.getElem_mem hi) h.2
  rwa [show (o.after[i]).on = j from by simpa using h.1] at this
/-- An operation, as it is known: what it does, where its value goes, what it waits for. -/
structure Op1 (l : List Oper) (i : Nat) (op : Op) (dst : Option Nat) (deps : List Nat) : Prop where
  ex : ∃ o, l[i]? = some o ∧ o.op = op ∧ o.guard = none ∧ o.dst = dst ∧ (deps.all fun j => depB o j) = true
section
variable {lo : Nat} {W0 w w' : World} {f : Nat} {a : Act} {D : Nat → Prop} {dst : Option Nat}
theorem BI.adv (hB : BI lo W0 (f + 1) a w) (hl : lo ≤ w.heap.size) (hb : Below w.heap.size w w') (h1 : dst ≠ some 1) (h4 : dst ≠ some 4) (v : Value) : BI lo W0 f (a.put dst v) w' := by
  have hcg := CG.of_below hb
  refine ⟨?_, ?_, hB.below.trans (hb.mono hl), ?_, ?_⟩
  · cases dst <;> exact hB.df
  · have := hB.sz
    cases dst
    · exact this
    · simpa [Act.put] using this
  · obtain ⟨bt, x, e1, e2, e3⟩ := hB.tgt
    exact ⟨bt, x, (eval_ne h1 v).trans e1, (hcg.cells _ _ _ _ e2).trans e2, e3.next hcg⟩
  · intro b hb'
    rw [eval_ne h4] at hb'
    obtain ⟨h1, n, D', h2, h3, h4⟩ := hB.mp b hb'
    exact ⟨h1, n, D', MapOf.next h2 hb, by omega, h4.next hcg⟩
theorem T_adv (hT : ∀ j, D j → (dsc j).holds lo a w) (hb : Below w.heap.size w w') (hd : ∀ j, D j → ∀ s ∈ (dsc j).slots, dst ≠ some s) (v : Value) : ∀ j, D j → (dsc j).holds lo (a.put dst v) w' := fun j hj =>
  Sd.next (d := dsc j) (hT j hj) (CG.of_below hb) (fun b n D' h => MapOf.next h hb) fun s hs => eval_ne (hd j hj s hs) v
/-- What an operation that writes no map owes. -/
theorem out_of {i : Nat} (hB : BI lo W0 (f + 1) a w) (hT : ∀ j, D j → (dsc j).holds lo a w) (hn : ¬ D i) (hl : lo ≤ w.heap.size) (hb : Below w.heap.size w w') (h1 : dst ≠ some 1) (h4 : dst ≠ some 4) (hok : okS i dst = true) (v : Value) (hi : (dsc i).holds lo (a.put dst v) w') :
    BI lo W0 f (a.put dst v) w' ∧ (dsc i).holds lo (a.put dst v) w' ∧ ∀ j, D j → (dsc j).holds lo (a.put dst v) w' :=
  ⟨hB.adv hl hb h1 h4 v, hi, T_adv hT hb (fun j hj => okS_spec hok fun e => hn (e ▸ hj)) v⟩
theorem BI.lo_le (hB : BI lo W0 f a w) (hW : lo ≤ W0.heap.size) : lo ≤ w.heap.size := Nat.le_trans hW hB.below.size
theorem BI.putM (hB : BI lo W0 (f + 1) a w) {b n k : Nat} {Dm : DataW Value} {v : Value} {K : List Pt} (hs : a.eval (.tmp 4) = .map (some b)) (hD : MapOf w b n Dm) (hn : n + (f + 1) ≤ 40) (hG : MGood lo w Dm) (hg : w.grownBy w' (some b)) (hD' : MapOf w' b (n + 1) (Dm.put (ki k) (.held v))) (hlb : lo ≤ b) (hl : lo ≤ w.heap.size) (ht : table (k : Int) = some K) (hv : IK lo w v K) (u : Value) : BI lo W0 f (a.put none u) w' := by
  have hcg := CG.map hD hg
  refine ⟨hB.df, hB.sz, hB.below.grown hg hl (fun j hj => by injection hj with hj; exact hj ▸ hlb), ?_, ?_⟩
  · obtain ⟨bt, x, e1, e2, e3⟩ := hB.tgt
    exact ⟨bt, x, e1, (hcg.cells _ _ _ _ e2).trans e2, e3.next hcg⟩
  · intro b' hb'
    have e : a.eval (.tmp 4) = .map (some b') := hb'
    rw [hs] at e
    injection e with e
    injection e with e
    subst e
    exact ⟨hlb, n + 1, _, hD', by omega, hG.put hD hg ht hv⟩
end
theorem goes_address : Goes 132 := fun _ _ => by kernel_rfl
theorem goes_names : Goes 129 := fun _ _ => by kernel_rfl
theorem goes_numbers : Goes 135 := fun _ _ => by kernel_rfl
theorem goes_texts : Goes 136 := fun _ _ => by kernel_rfl
theorem goes_pointed : Goes 131 := fun _ _ => by kernel_rfl
theorem goes_plain : Goes 137 := fun _ _ => by kernel_rfl
theorem goesRow : Goes 133 := fun _ _ => by kernel_rfl
section
variable {lo : Nat} {W0 w : World} {f : Nat} {a : Act} {D : Nat → Prop} {l : List Oper} {Q : Exit → Act → World → Prop}
theorem map0 {α β : Type} (f : α → β) : (#[] : Array α).map f = #[] := by simp
theorem map1 {α β : Type} (f : α → β) (x : α) : #[x].map f = #[f x] := by simp
theorem map2 {α β : Type} (f : α → β) (x y : α) : #[x, y].map f = #[f x, f y] := by simp
/-- What is to be shown of each operation. -/
abbrev Step1 (lo : Nat) (W0 : World) (f : Nat) (D : Nat → Prop) (l : List Oper) (Q : Exit → Act → World → Prop) (i : Nat) (a : Act) (w : World) : Prop :=
  wpOp Tryz.prog l.toArray Q i (fun a' w' => BI lo W0 f a' w' ∧ (dsc i).holds lo a' w' ∧ ∀ j, D j → (dsc j).holds lo a' w') a w
theorem partsOf {lo : Nat} {w : World} {L : List K5} {ps : List Pt} (hlen : L.length = ps.length) (hfew : L.length ≤ 1000) (hik : ∀ i (hi : i < L.length) (hp : i < ps.length), IK lo w (kv L[i]) [ps[i]]) (ht : ∀ p ∈ ps, p ≠ .txt) (hs : ∀ p ∈ ps, ∀ d, sizeP p d ≤ 4503599627370496) : Parts lo w L ps :=
  ⟨hlen, hfew, hik, fun p hp T R d k => rdP_texts p (ht p hp) T R d k, hs⟩
theorem small_nam (m p : Bool) (d : MD) : sizeP (.nam m p) d ≤ 4503599627370496 := Nat.le_trans (sizeN_le _) (by decide)
set_option maxHeartbeats 1000000 in
theorem st0 (hW : lo ≤ W0.heap.size) (h : Op1 l 0 (.makeMap 171 none) (some 4) []) (hn : ¬ D 0) (hB : BI lo W0 (f + 1) a w) (hT : ∀ j, D j → (dsc j).holds lo a w) (hdep : ∀ o, l[0]? = some o → ∀ e ∈ o.after, Region.binds .any e = true → D e.on) (h04 : ∀ j, D j → ∀ s ∈ (dsc j).slots, s ≠ 4) (hf : f < 36) : Step1 lo W0 f D l Q 0 a w := by
  obtain ⟨o, ho, hop, hg, hdst, hdd⟩ := h.ex
  have hdx := hdep o ho
  have hl := hB.lo_le hW
  have hd0 : ∀ j, j ∈ ([] : List Nat) → D j := fun j hj => depB_spec (List.all_eq_true.1 hdd j hj) hdx
  refine wpOp_of (by rw [List.getElem?_toArray]; exact ho) hg ?_
  have hb : Below w.heap.size w (w.alloc (.map #[] 0)) := (Below.refl _ _).alloc (Nat.le_refl _) _
  refine op_value (ex_map hop) ?_
  rw [hdst]
  refine ⟨⟨hB.df, by simpa [Act.put] using hB.sz, hB.below.trans (hb.mono hl), ?_, fun b hb' => ?_⟩, ⟨w.heap.size, eval_same (by rw [hB.sz]; decide) _⟩, T_adv hT hb (fun j hj s hs e => h04 j hj s hs (by injection e with e; exact e.symm)) _⟩
  · obtain ⟨bt, x, e1, e2, e3⟩ := hB.tgt
    exact ⟨bt, x, (eval_ne (by decide) _).trans e1, ((CG.of_below hb).cells _ _ _ _ e2).trans e2, e3.next (CG.of_below hb)⟩
  · rw [eval_same (by rw [hB.sz]; decide)] at hb'
    injection hb' with e
    injection e with e
    subst e
    exact ⟨hl, 0, .map [], World.ownsMap_made w _ _ _, by omega, fun k hk => by simp [Maps.has] at hk⟩
set_option maxHeartbeats 1000000 in
theorem st1 {ats : Array TypeId} (hW : lo ≤ W0.heap.size) (h : Op1 l 1 (.call { callee := .value (.func 132), args := #[.const (.bool false), .const (.int .i64 4)], argTypes := ats }) (some 5) []) (hn : ¬ D 1) (hB : BI lo W0 (f + 1) a w) (hT : ∀ j, D j → (dsc j).holds lo a w) (hdep : ∀ o, l[1]? = some o → ∀ e ∈ o.after, Region.binds .any e = true → D e.on) : Step1 lo W0 f D l Q 1 a w := by
  obtain ⟨o, ho, hop, hg, hdst, hdd⟩ := h.ex
  have hdx := hdep o ho
  have hl := hB.lo_le hW
  have hd0 : ∀ j, j ∈ ([] : List Nat) → D j := fun j hj => depB_spec (List.all_eq_true.1 hdd j hj) hdx
  refine wpOp_of (by rw [List.getElem?_toArray]; exact ho) hg ?_
  refine op_call hop goes_address (args := #[.bool false, .int .i64 4]) (map2 _ _ _) ((address_any false 4 rfl w).mono ?_)
  rintro e w' ⟨v, rfl, hik, hb⟩
  rw [hdst]
  refine ⟨v, rfl, out_of hB hT hn hl hb (by decide) (by decide) (by kernel_rfl) v ?_⟩
  show IK lo w' ((a.put (some 5) v).eval (.tmp 5)) _
  rw [eval_same (by rw [hB.sz]; decide)]
  exact hik.lower hl
set_option maxHeartbeats 1000000 in
theorem st2 (hW : lo ≤ W0.heap.size) (h : Op1 l 2 (.insert 171 (.tmp 4) (.const (.int .i64 1)) (.tmp 5)) (none) [0, 1]) (hn : ¬ D 2) (hB : BI lo W0 (f + 1) a w) (hT : ∀ j, D j → (dsc j).holds lo a w) (hdep : ∀ o, l[2]? = some o → ∀ e ∈ o.after, Region.binds .any e = true → D e.on) (hf : f < 36) : Step1 lo W0 f D l Q 2 a w := by
  obtain ⟨o, ho, hop, hg, hdst, hdd⟩ := h.ex
  have hdx := hdep o ho
  have hl := hB.lo_le hW
  have hd0 : ∀ j, j ∈ ([0, 1] : List Nat) → D j := fun j hj => depB_spec (List.all_eq_true.1 hdd j hj) hdx
  have h0 := hT 0 (hd0 0 (by decide))
  have h1 := hT 1 (hd0 1 (by decide))
  refine wpOp_of (by rw [List.getElem?_toArray]; exact ho) hg ?_
  obtain ⟨b, hs⟩ := (h0 : Sd.holds lo a w .map)
  obtain ⟨hlb, n, Dm, hD, hnf, hG⟩ := hB.mp b hs
  have hv : IK lo w (a.eval (.tmp 5)) _ := h1
  obtain ⟨w', hrun, hD', hgr⟩ := ex_insert (ρ := a.eval) (k := 1) (fun _ => rfl) hop hs rfl hD (by unfold maxLen; omega) (by decide)
  refine op_skip hrun ?_
  rw [hdst]
  exact ⟨hB.putM (k := 1) hs hD hnf hG hgr hD' hlb hl rfl hv undef, ⟨b, _, _, hs, hD', Maps.has_put_same hD.isMap (k := ki 1) (by trivial) _⟩, fun j hj => Sd.put (d := dsc j) (hT j hj) hs hD hgr hD' undef⟩
set_option maxHeartbeats 1000000 in
theorem st3 (hW : lo ≤ W0.heap.size) (h : Op1 l 3 (.load 139 (.tmp 1)) (some 6) []) (hn : ¬ D 3) (hB : BI lo W0 (f + 1) a w) (hT : ∀ j, D j → (dsc j).holds lo a w) (hdep : ∀ o, l[3]? = some o → ∀ e ∈ o.after, Region.binds .any e = true → D e.on) : Step1 lo W0 f D l Q 3 a w := by
  obtain ⟨o, ho, hop, hg, hdst, hdd⟩ := h.ex
  have hdx := hdep o ho
  have hl := hB.lo_le hW
  have hd0 : ∀ j, j ∈ ([] : List Nat) → D j := fun j hj => depB_spec (List.all_eq_true.1 hdd j hj) hdx
  refine wpOp_of (by rw [List.getElem?_toArray]; exact ho) hg ?_
  obtain ⟨bt, x, e1, e2, e3⟩ := hB.tgt
  refine op_value (ex_load hop e1 e2) ?_
  rw [hdst]
  refine out_of hB hT hn hl (Below.refl _ _) (by decide) (by decide) (by kernel_rfl) _ ?_
  show IK lo w ((a.put (some 6) _).eval (.tmp 6)) _
  rw [eval_same (by rw [hB.sz]; decide)]
  exact e3
set_option maxHeartbeats 1000000 in
theorem st4 (hW : lo ≤ W0.heap.size) (h : Op1 l 4 (.insert 171 (.tmp 4) (.const (.int .i64 2)) (.tmp 6)) (none) [0, 3]) (hn : ¬ D 4) (hB : BI lo W0 (f + 1) a w) (hT : ∀ j, D j → (dsc j).holds lo a w) (hdep : ∀ o, l[4]? = some o → ∀ e ∈ o.after, Region.binds .any e = true → D e.on) (hf : f < 36) : Step1 lo W0 f D l Q 4 a w := by
  obtain ⟨o, ho, hop, hg, hdst, hdd⟩ := h.ex
  have hdx := hdep o ho
  have hl := hB.lo_le hW
  have hd0 : ∀ j, j ∈ ([0, 3] : List Nat) → D j := fun j hj => depB_spec (List.all_eq_true.1 hdd j hj) hdx
  have h0 := hT 0 (hd0 0 (by decide))
  have h3 := hT 3 (hd0 3 (by decide))
  refine wpOp_of (by rw [List.getElem?_toArray]; exact ho) hg ?_
  obtain ⟨b, hs⟩ := (h0 : Sd.holds lo a w .map)
  obtain ⟨hlb, n, Dm, hD, hnf, hG⟩ := hB.mp b hs
  have hv : IK lo w (a.eval (.tmp 6)) _ := h3
  obtain ⟨w', hrun, hD', hgr⟩ := ex_insert (ρ := a.eval) (k := 2) (fun _ => rfl) hop hs rfl hD (by unfold maxLen; omega) (by decide)
  refine op_skip hrun ?_
  rw [hdst]
  exact ⟨hB.putM (k := 2) hs hD hnf hG hgr hD' hlb hl rfl hv undef, ⟨b, _, _, hs, hD', Maps.has_put_same hD.isMap (k := ki 2) (by trivial) _⟩, fun j hj => Sd.put (d := dsc j) (hT j hj) hs hD hgr hD' undef⟩
set_option maxHeartbeats 1000000 in
theorem st5 (hW : lo ≤ W0.heap.size) (h : Op1 l 5 (.load 139 (.tmp 1)) (some 7) []) (hn : ¬ D 5) (hB : BI lo W0 (f + 1) a w) (hT : ∀ j, D j → (dsc j).holds lo a w) (hdep : ∀ o, l[5]? = some o → ∀ e ∈ o.after, Region.binds .any e = true → D e.on) : Step1 lo W0 f D l Q 5 a w := by
  obtain ⟨o, ho, hop, hg, hdst, hdd⟩ := h.ex
  have hdx := hdep o ho
  have hl := hB.lo_le hW
  have hd0 : ∀ j, j ∈ ([] : List Nat) → D j := fun j hj => depB_spec (List.all_eq_true.1 hdd j hj) hdx
  refine wpOp_of (by rw [List.getElem?_toArray]; exact ho) hg ?_
  obtain ⟨bt, x, e1, e2, e3⟩ := hB.tgt
  refine op_value (ex_load hop e1 e2) ?_
  rw [hdst]
  refine out_of hB hT hn hl (Below.refl _ _) (by decide) (by decide) (by kernel_rfl) _ ?_
  show IK lo w ((a.put (some 7) _).eval (.tmp 7)) _
  rw [eval_same (by rw [hB.sz]; decide)]
  exact e3
set_option maxHeartbeats 1000000 in
theorem st6 (hW : lo ≤ W0.heap.size) (h : Op1 l 6 (.insert 171 (.tmp 4) (.const (.int .i64 5)) (.tmp 7)) (none) [0, 5]) (hn : ¬ D 6) (hB : BI lo W0 (f + 1) a w) (hT : ∀ j, D j → (dsc j).holds lo a w) (hdep : ∀ o, l[6]? = some o → ∀ e ∈ o.after, Region.binds .any e = true → D e.on) (hf : f < 36) : Step1 lo W0 f D l Q 6 a w := by
  obtain ⟨o, ho, hop, hg, hdst, hdd⟩ := h.ex
  have hdx := hdep o ho
  have hl := hB.lo_le hW
  have hd0 : ∀ j, j ∈ ([0, 5] : List Nat) → D j := fun j hj => depB_spec (List.all_eq_true.1 hdd j hj) hdx
  have h0 := hT 0 (hd0 0 (by decide))
  have h5 := hT 5 (hd0 5 (by decide))
  refine wpOp_of (by rw [List.getElem?_toArray]; exact ho) hg ?_
  obtain ⟨b, hs⟩ := (h0 : Sd.holds lo a w .map)
  obtain ⟨hlb, n, Dm, hD, hnf, hG⟩ := hB.mp b hs
  have hv : IK lo w (a.eval (.tmp 7)) _ := h5
  obtain ⟨w', hrun, hD', hgr⟩ := ex_insert (ρ := a.eval) (k := 5) (fun _ => rfl) hop hs rfl hD (by unfold maxLen; omega) (by decide)
  refine op_skip hrun ?_
  rw [hdst]
  exact ⟨hB.putM (k := 5) hs hD hnf hG hgr hD' hlb hl rfl hv undef, ⟨b, _, _, hs, hD', Maps.has_put_same hD.isMap (k := ki 5) (by trivial) _⟩, fun j hj => Sd.put (d := dsc j) (hT j hj) hs hD hgr hD' undef⟩
set_option maxHeartbeats 1000000 in
theorem st7 (hW : lo ≤ W0.heap.size) (h : Op1 l 7 (.load 139 (.tmp 1)) (some 8) []) (hn : ¬ D 7) (hB : BI lo W0 (f + 1) a w) (hT : ∀ j, D j → (dsc j).holds lo a w) (hdep : ∀ o, l[7]? = some o → ∀ e ∈ o.after, Region.binds .any e = true → D e.on) : Step1 lo W0 f D l Q 7 a w := by
  obtain ⟨o, ho, hop, hg, hdst, hdd⟩ := h.ex
  have hdx := hdep o ho
  have hl := hB.lo_le hW
  have hd0 : ∀ j, j ∈ ([] : List Nat) → D j := fun j hj => depB_spec (List.all_eq_true.1 hdd j hj) hdx
  refine wpOp_of (by rw [List.getElem?_toArray]; exact ho) hg ?_
  obtain ⟨bt, x, e1, e2, e3⟩ := hB.tgt
  refine op_value (ex_load hop e1 e2) ?_
  rw [hdst]
  refine out_of hB hT hn hl (Below.refl _ _) (by decide) (by decide) (by kernel_rfl) _ ?_
  show IK lo w ((a.put (some 8) _).eval (.tmp 8)) _
  rw [eval_same (by rw [hB.sz]; decide)]
  exact e3
set_option maxHeartbeats 1000000 in
theorem st8 {ats : Array TypeId} (hW : lo ≤ W0.heap.size) (h : Op1 l 8 (.call { callee := .value (.func 131), args := #[], argTypes := ats }) (some 9) []) (hn : ¬ D 8) (hB : BI lo W0 (f + 1) a w) (hT : ∀ j, D j → (dsc j).holds lo a w) (hdep : ∀ o, l[8]? = some o → ∀ e ∈ o.after, Region.binds .any e = true → D e.on) : Step1 lo W0 f D l Q 8 a w := by
  obtain ⟨o, ho, hop, hg, hdst, hdd⟩ := h.ex
  have hdx := hdep o ho
  have hl := hB.lo_le hW
  have hd0 : ∀ j, j ∈ ([] : List Nat) → D j := fun j hj => depB_spec (List.all_eq_true.1 hdd j hj) hdx
  refine wpOp_of (by rw [List.getElem?_toArray]; exact ho) hg ?_
  refine op_call hop goes_pointed (args := #[]) (map0 _) ((pointed_any w).mono ?_)
  rintro e w' ⟨rfl, hb⟩
  rw [hdst]
  refine ⟨_, rfl, out_of hB hT hn hl hb (by decide) (by decide) (by kernel_rfl) _ ?_⟩
  exact eval_same (by rw [hB.sz]; decide) _
set_option maxHeartbeats 1000000 in
theorem st9 {ats : Array TypeId} (hW : lo ≤ W0.heap.size) (h : Op1 l 9 (.call { callee := .value (.func 129), args := #[.func 134, .tmp 9], argTypes := ats }) (some 10) [8]) (hn : ¬ D 9) (hB : BI lo W0 (f + 1) a w) (hT : ∀ j, D j → (dsc j).holds lo a w) (hdep : ∀ o, l[9]? = some o → ∀ e ∈ o.after, Region.binds .any e = true → D e.on) : Step1 lo W0 f D l Q 9 a w := by
  obtain ⟨o, ho, hop, hg, hdst, hdd⟩ := h.ex
  have hdx := hdep o ho
  have hl := hB.lo_le hW
  have hd0 : ∀ j, j ∈ ([8] : List Nat) → D j := fun j hj => depB_spec (List.all_eq_true.1 hdd j hj) hdx
  have h8 := hT 8 (hd0 8 (by decide))
  refine wpOp_of (by rw [List.getElem?_toArray]; exact ho) hg ?_
  refine op_call hop goes_names (args := #[.func (.func 134) #[] #[], .agg #[.func (.func 71) #[] #[], .func (.func 154) #[] #[]]]) (by rw [map2]; show #[Act.eval a (.func 134), a.eval (.tmp 9)] = _; rw [show a.eval (.tmp 9) = _ from h8]; rfl) ((names_mn w).mono ?_)
  rintro e w' ⟨v, rfl, hik, hb⟩
  rw [hdst]
  refine ⟨v, rfl, out_of hB hT hn hl hb (by decide) (by decide) (by kernel_rfl) v ?_⟩
  show IK lo w' ((a.put (some 10) v).eval (.tmp 10)) _
  rw [eval_same (by rw [hB.sz]; decide)]
  exact hik.lower hl
set_option maxHeartbeats 1000000 in
theorem st10 (hW : lo ≤ W0.heap.size) (h : Op1 l 10 (.build 212 #[(0, .const (.int .i64 4)), (1, .const (.int .i64 4)), (2, .const (.int .i64 4)), (3, .const (.int .i64 4)), (4, .const (.int .i64 4))]) (some 11) []) (hn : ¬ D 10) (hB : BI lo W0 (f + 1) a w) (hT : ∀ j, D j → (dsc j).holds lo a w) (hdep : ∀ o, l[10]? = some o → ∀ e ∈ o.after, Region.binds .any e = true → D e.on) : Step1 lo W0 f D l Q 10 a w := by
  obtain ⟨o, ho, hop, hg, hdst, hdd⟩ := h.ex
  have hdx := hdep o ho
  have hl := hB.lo_le hW
  have hd0 : ∀ j, j ∈ ([] : List Nat) → D j := fun j hj => depB_spec (List.all_eq_true.1 hdd j hj) hdx
  refine wpOp_of (by rw [List.getElem?_toArray]; exact ho) hg ?_
  refine op_value (ex_ws5 (fun _ => rfl) hop) ?_
  rw [hdst]
  refine out_of hB hT hn hl (Below.refl _ _) (by decide) (by decide) (by kernel_rfl) _ ?_
  exact eval_same (by rw [hB.sz]; decide) _
set_option maxHeartbeats 1000000 in
theorem st11 {ats : Array TypeId} (hW : lo ≤ W0.heap.size) (h : Op1 l 11 (.call { callee := .value (.func 135), args := #[.tmp 11], argTypes := ats }) (some 12) [10]) (hn : ¬ D 11) (hB : BI lo W0 (f + 1) a w) (hT : ∀ j, D j → (dsc j).holds lo a w) (hdep : ∀ o, l[11]? = some o → ∀ e ∈ o.after, Region.binds .any e = true → D e.on) : Step1 lo W0 f D l Q 11 a w := by
  obtain ⟨o, ho, hop, hg, hdst, hdd⟩ := h.ex
  have hdx := hdep o ho
  have hl := hB.lo_le hW
  have hd0 : ∀ j, j ∈ ([10] : List Nat) → D j := fun j hj => depB_spec (List.all_eq_true.1 hdd j hj) hdx
  have h10 := hT 10 (hd0 10 (by decide))
  refine wpOp_of (by rw [List.getElem?_toArray]; exact ho) hg ?_
  refine op_call hop goes_numbers (args := #[wsV 4 4 4 4 4]) (by rw [map1]; show #[a.eval (.tmp 11)] = _; rw [show a.eval (.tmp 11) = _ from h10]) ((numbers_any 4 4 4 4 4 ⟨.inr (.inr rfl), .inr (.inr rfl), .inr (.inr rfl), .inr (.inr rfl), .inr (.inr rfl)⟩ w).mono ?_)
  rintro e w' ⟨v, rfl, hik, hb⟩
  rw [hdst]
  refine ⟨v, rfl, out_of hB hT hn hl hb (by decide) (by decide) (by kernel_rfl) v ?_⟩
  show IK lo w' ((a.put (some 12) v).eval (.tmp 12)) _
  rw [eval_same (by rw [hB.sz]; decide)]
  exact hik.lower hl
set_option maxHeartbeats 1000000 in
theorem st12 (hW : lo ≤ W0.heap.size) (h : Op1 l 12 (.buildSlice 233 3 #[(0, .tmp 8), (1, .tmp 10), (2, .tmp 12)]) (some 13) [7, 9, 11]) (hn : ¬ D 12) (hB : BI lo W0 (f + 1) a w) (hT : ∀ j, D j → (dsc j).holds lo a w) (hdep : ∀ o, l[12]? = some o → ∀ e ∈ o.after, Region.binds .any e = true → D e.on) : Step1 lo W0 f D l Q 12 a w := by
  obtain ⟨o, ho, hop, hg, hdst, hdd⟩ := h.ex
  have hdx := hdep o ho
  have hl := hB.lo_le hW
  have hd0 : ∀ j, j ∈ ([7, 9, 11] : List Nat) → D j := fun j hj => depB_spec (List.all_eq_true.1 hdd j hj) hdx
  have h7 := hT 7 (hd0 7 (by decide))
  have h9 := hT 9 (hd0 9 (by decide))
  have h11 := hT 11 (hd0 11 (by decide))
  refine wpOp_of (by rw [List.getElem?_toArray]; exact ho) hg ?_
  have ip : IK lo w (a.eval (.tmp 8)) _ := h7
  obtain ⟨p, ep⟩ := ip.k5
  rw [ep] at ip
  have iq : IK lo w (a.eval (.tmp 10)) _ := h9
  obtain ⟨q, eq⟩ := iq.k5
  rw [eq] at iq
  have ir : IK lo w (a.eval (.tmp 12)) _ := h11
  obtain ⟨r, er⟩ := ir.k5
  rw [er] at ir
  have hb : Below w.heap.size w (w.alloc (.cells (flatK [p, q, r]) 139)) := (Below.refl _ _).alloc (Nat.le_refl _) _
  have hcg := CG.of_below hb
  refine op_value (ex_slice3 hop ep eq er) ?_
  rw [hdst]
  refine out_of hB hT hn hl hb (by decide) (by decide) (by kernel_rfl) _ ?_
  refine ⟨[p, q, r], w.heap.size, eval_same (by rw [hB.sz]; decide) _, Lies.new w _ _, hl, partsOf rfl (by simp) (fun i hi hp => ?_) (fun p hp => ?_) (fun p hp d => ?_)⟩
  · match i, hi with
    | 0, _ => exact ip.next hcg
    | 1, _ => exact iq.next hcg
    | 2, _ => exact ir.next hcg
    | n + 3, hi => exact absurd hi (by simp)
  · simp only [List.mem_cons, List.mem_nil_iff, or_false] at hp
    rcases hp with rfl | rfl | rfl
    all_goals (intro e; cases e)
  · simp only [List.mem_cons, List.mem_nil_iff, or_false] at hp
    rcases hp with rfl | rfl | rfl
    all_goals first | exact small_nam _ _ d | exact (by simp [sizeP])
set_option maxHeartbeats 1000000 in
theorem st13 {ats : Array TypeId} (hW : lo ≤ W0.heap.size) (h : Op1 l 13 (.call { callee := .value (.func 133), args := #[.tmp 13], argTypes := ats }) (some 14) [12]) (hn : ¬ D 13) (hB : BI lo W0 (f + 1) a w) (hT : ∀ j, D j → (dsc j).holds lo a w) (hdep : ∀ o, l[13]? = some o → ∀ e ∈ o.after, Region.binds .any e = true → D e.on) : Step1 lo W0 f D l Q 13 a w := by
  obtain ⟨o, ho, hop, hg, hdst, hdd⟩ := h.ex
  have hdx := hdep o ho
  have hl := hB.lo_le hW
  have hd0 : ∀ j, j ∈ ([12] : List Nat) → D j := fun j hj => depB_spec (List.all_eq_true.1 hdd j hj) hdx
  have h12 := hT 12 (hd0 12 (by decide))
  refine wpOp_of (by rw [List.getElem?_toArray]; exact ho) hg ?_
  obtain ⟨L, gp, hs, hkb, hgp, hP⟩ := (h12 : Sd.holds lo a w (.kinds 13 [.nam false true, .nam true true, .num 4 4 4 4 4]))
  refine op_call hop goesRow (args := #[.slice (some ⟨gp, 0, none⟩) L.length L.length]) (by rw [map1]; show #[a.eval (.tmp 13)] = _; rw [hs]) ((row_any lo L _ gp w hP hkb hgp hl).mono ?_)
  rintro e w' ⟨v, rfl, hik, hb⟩
  rw [hdst]
  refine ⟨v, rfl, out_of hB hT hn hl hb (by decide) (by decide) (by kernel_rfl) v ?_⟩
  show IK lo w' ((a.put (some 14) v).eval (.tmp 14)) _
  rw [eval_same (by rw [hB.sz]; decide)]
  exact hik
set_option maxHeartbeats 1000000 in
theorem st14 (hW : lo ≤ W0.heap.size) (h : Op1 l 14 (.insert 171 (.tmp 4) (.const (.int .i64 6)) (.tmp 14)) (none) [0, 13]) (hn : ¬ D 14) (hB : BI lo W0 (f + 1) a w) (hT : ∀ j, D j → (dsc j).holds lo a w) (hdep : ∀ o, l[14]? = some o → ∀ e ∈ o.after, Region.binds .any e = true → D e.on) (hf : f < 36) : Step1 lo W0 f D l Q 14 a w := by
  obtain ⟨o, ho, hop, hg, hdst, hdd⟩ := h.ex
  have hdx := hdep o ho
  have hl := hB.lo_le hW
  have hd0 : ∀ j, j ∈ ([0, 13] : List Nat) → D j := fun j hj => depB_spec (List.all_eq_true.1 hdd j hj) hdx
  have h0 := hT 0 (hd0 0 (by decide))
  have h13 := hT 13 (hd0 13 (by decide))
  refine wpOp_of (by rw [List.getElem?_toArray]; exact ho) hg ?_
  obtain ⟨b, hs⟩ := (h0 : Sd.holds lo a w .map)
  obtain ⟨hlb, n, Dm, hD, hnf, hG⟩ := hB.mp b hs
  have hv : IK lo w (a.eval (.tmp 14)) _ := h13
  obtain ⟨w', hrun, hD', hgr⟩ := ex_insert (ρ := a.eval) (k := 6) (fun _ => rfl) hop hs rfl hD (by unfold maxLen; omega) (by decide)
  refine op_skip hrun ?_
  rw [hdst]
  exact ⟨hB.putM (k := 6) hs hD hnf hG hgr hD' hlb hl rfl hv undef, ⟨b, _, _, hs, hD', Maps.has_put_same hD.isMap (k := ki 6) (by trivial) _⟩, fun j hj => Sd.put (d := dsc j) (hT j hj) hs hD hgr hD' undef⟩
set_option maxHeartbeats 1000000 in
theorem st15 (hW : lo ≤ W0.heap.size) (h : Op1 l 15 (.load 139 (.tmp 1)) (some 15) []) (hn : ¬ D 15) (hB : BI lo W0 (f + 1) a w) (hT : ∀ j, D j → (dsc j).holds lo a w) (hdep : ∀ o, l[15]? = some o → ∀ e ∈ o.after, Region.binds .any e = true → D e.on) : Step1 lo W0 f D l Q 15 a w := by
  obtain ⟨o, ho, hop, hg, hdst, hdd⟩ := h.ex
  have hdx := hdep o ho
  have hl := hB.lo_le hW
  have hd0 : ∀ j, j ∈ ([] : List Nat) → D j := fun j hj => depB_spec (List.all_eq_true.1 hdd j hj) hdx
  refine wpOp_of (by rw [List.getElem?_toArray]; exact ho) hg ?_
  obtain ⟨bt, x, e1, e2, e3⟩ := hB.tgt
  refine op_value (ex_load hop e1 e2) ?_
  rw [hdst]
  refine out_of hB hT hn hl (Below.refl _ _) (by decide) (by decide) (by kernel_rfl) _ ?_
  show IK lo w ((a.put (some 15) _).eval (.tmp 15)) _
  rw [eval_same (by rw [hB.sz]; decide)]
  exact e3
set_option maxHeartbeats 1000000 in
theorem st16 (hW : lo ≤ W0.heap.size) (h : Op1 l 16 (.insert 171 (.tmp 4) (.const (.int .i64 12)) (.tmp 15)) (none) [0, 15]) (hn : ¬ D 16) (hB : BI lo W0 (f + 1) a w) (hT : ∀ j, D j → (dsc j).holds lo a w) (hdep : ∀ o, l[16]? = some o → ∀ e ∈ o.after, Region.binds .any e = true → D e.on) (hf : f < 36) : Step1 lo W0 f D l Q 16 a w := by
  obtain ⟨o, ho, hop, hg, hdst, hdd⟩ := h.ex
  have hdx := hdep o ho
  have hl := hB.lo_le hW
  have hd0 : ∀ j, j ∈ ([0, 15] : List Nat) → D j := fun j hj => depB_spec (List.all_eq_true.1 hdd j hj) hdx
  have h0 := hT 0 (hd0 0 (by decide))
  have h15 := hT 15 (hd0 15 (by decide))
  refine wpOp_of (by rw [List.getElem?_toArray]; exact ho) hg ?_
  obtain ⟨b, hs⟩ := (h0 : Sd.holds lo a w .map)
  obtain ⟨hlb, n, Dm, hD, hnf, hG⟩ := hB.mp b hs
  have hv : IK lo w (a.eval (.tmp 15)) _ := h15
  obtain ⟨w', hrun, hD', hgr⟩ := ex_insert (ρ := a.eval) (k := 12) (fun _ => rfl) hop hs rfl hD (by unfold maxLen; omega) (by decide)
  refine op_skip hrun ?_
  rw [hdst]
  exact ⟨hB.putM (k := 12) hs hD hnf hG hgr hD' hlb hl rfl hv undef, ⟨b, _, _, hs, hD', Maps.has_put_same hD.isMap (k := ki 12) (by trivial) _⟩, fun j hj => Sd.put (d := dsc j) (hT j hj) hs hD hgr hD' undef⟩
set_option maxHeartbeats 1000000 in
theorem st17 (hW : lo ≤ W0.heap.size) (h : Op1 l 17 (.build 212 #[(0, .const (.int .i64 2))]) (some 16) []) (hn : ¬ D 17) (hB : BI lo W0 (f + 1) a w) (hT : ∀ j, D j → (dsc j).holds lo a w) (hdep : ∀ o, l[17]? = some o → ∀ e ∈ o.after, Region.binds .any e = true → D e.on) : Step1 lo W0 f D l Q 17 a w := by
  obtain ⟨o, ho, hop, hg, hdst, hdd⟩ := h.ex
  have hdx := hdep o ho
  have hl := hB.lo_le hW
  have hd0 : ∀ j, j ∈ ([] : List Nat) → D j := fun j hj => depB_spec (List.all_eq_true.1 hdd j hj) hdx
  refine wpOp_of (by rw [List.getElem?_toArray]; exact ho) hg ?_
  refine op_value (ex_ws1 (fun _ => rfl) hop) ?_
  rw [hdst]
  refine out_of hB hT hn hl (Below.refl _ _) (by decide) (by decide) (by kernel_rfl) _ ?_
  exact eval_same (by rw [hB.sz]; decide) _
set_option maxHeartbeats 1000000 in
theorem st18 {ats : Array TypeId} (hW : lo ≤ W0.heap.size) (h : Op1 l 18 (.call { callee := .value (.func 135), args := #[.tmp 16], argTypes := ats }) (some 17) [17]) (hn : ¬ D 18) (hB : BI lo W0 (f + 1) a w) (hT : ∀ j, D j → (dsc j).holds lo a w) (hdep : ∀ o, l[18]? = some o → ∀ e ∈ o.after, Region.binds .any e = true → D e.on) : Step1 lo W0 f D l Q 18 a w := by
  obtain ⟨o, ho, hop, hg, hdst, hdd⟩ := h.ex
  have hdx := hdep o ho
  have hl := hB.lo_le hW
  have hd0 : ∀ j, j ∈ ([17] : List Nat) → D j := fun j hj => depB_spec (List.all_eq_true.1 hdd j hj) hdx
  have h17 := hT 17 (hd0 17 (by decide))
  refine wpOp_of (by rw [List.getElem?_toArray]; exact ho) hg ?_
  refine op_call hop goes_numbers (args := #[wsV 2 0 0 0 0]) (by rw [map1]; show #[a.eval (.tmp 16)] = _; rw [show a.eval (.tmp 16) = _ from h17]) ((numbers_any 2 0 0 0 0 ⟨.inr (.inl rfl), .inl rfl, .inl rfl, .inl rfl, .inl rfl⟩ w).mono ?_)
  rintro e w' ⟨v, rfl, hik, hb⟩
  rw [hdst]
  refine ⟨v, rfl, out_of hB hT hn hl hb (by decide) (by decide) (by kernel_rfl) v ?_⟩
  show IK lo w' ((a.put (some 17) v).eval (.tmp 17)) _
  rw [eval_same (by rw [hB.sz]; decide)]
  exact hik.lower hl
set_option maxHeartbeats 1000000 in
theorem st19 (hW : lo ≤ W0.heap.size) (h : Op1 l 19 (.load 139 (.tmp 1)) (some 18) []) (hn : ¬ D 19) (hB : BI lo W0 (f + 1) a w) (hT : ∀ j, D j → (dsc j).holds lo a w) (hdep : ∀ o, l[19]? = some o → ∀ e ∈ o.after, Region.binds .any e = true → D e.on) : Step1 lo W0 f D l Q 19 a w := by
  obtain ⟨o, ho, hop, hg, hdst, hdd⟩ := h.ex
  have hdx := hdep o ho
  have hl := hB.lo_le hW
  have hd0 : ∀ j, j ∈ ([] : List Nat) → D j := fun j hj => depB_spec (List.all_eq_true.1 hdd j hj) hdx
  refine wpOp_of (by rw [List.getElem?_toArray]; exact ho) hg ?_
  obtain ⟨bt, x, e1, e2, e3⟩ := hB.tgt
  refine op_value (ex_load hop e1 e2) ?_
  rw [hdst]
  refine out_of hB hT hn hl (Below.refl _ _) (by decide) (by decide) (by kernel_rfl) _ ?_
  show IK lo w ((a.put (some 18) _).eval (.tmp 18)) _
  rw [eval_same (by rw [hB.sz]; decide)]
  exact e3
set_option maxHeartbeats 1000000 in
theorem st20 (hW : lo ≤ W0.heap.size) (h : Op1 l 20 (.buildSlice 233 2 #[(0, .tmp 17), (1, .tmp 18)]) (some 19) [18, 19]) (hn : ¬ D 20) (hB : BI lo W0 (f + 1) a w) (hT : ∀ j, D j → (dsc j).holds lo a w) (hdep : ∀ o, l[20]? = some o → ∀ e ∈ o.after, Region.binds .any e = true → D e.on) : Step1 lo W0 f D l Q 20 a w := by
  obtain ⟨o, ho, hop, hg, hdst, hdd⟩ := h.ex
  have hdx := hdep o ho
  have hl := hB.lo_le hW
  have hd0 : ∀ j, j ∈ ([18, 19] : List Nat) → D j := fun j hj => depB_spec (List.all_eq_true.1 hdd j hj) hdx
  have h18 := hT 18 (hd0 18 (by decide))
  have h19 := hT 19 (hd0 19 (by decide))
  refine wpOp_of (by rw [List.getElem?_toArray]; exact ho) hg ?_
  have ip : IK lo w (a.eval (.tmp 17)) _ := h18
  obtain ⟨p, ep⟩ := ip.k5
  rw [ep] at ip
  have iq : IK lo w (a.eval (.tmp 18)) _ := h19
  obtain ⟨q, eq⟩ := iq.k5
  rw [eq] at iq
  have hb : Below w.heap.size w (w.alloc (.cells (flatK [p, q]) 139)) := (Below.refl _ _).alloc (Nat.le_refl _) _
  have hcg := CG.of_below hb
  refine op_value (ex_slice2 hop ep eq) ?_
  rw [hdst]
  refine out_of hB hT hn hl hb (by decide) (by decide) (by kernel_rfl) _ ?_
  refine ⟨[p, q], w.heap.size, eval_same (by rw [hB.sz]; decide) _, Lies.new w _ _, hl, partsOf rfl (by simp) (fun i hi hp => ?_) (fun p hp => ?_) (fun p hp d => ?_)⟩
  · match i, hi with
    | 0, _ => exact ip.next hcg
    | 1, _ => exact iq.next hcg
    | n + 2, hi => exact absurd hi (by simp)
  · simp only [List.mem_cons, List.mem_nil_iff, or_false] at hp
    rcases hp with rfl | rfl
    all_goals (intro e; cases e)
  · simp only [List.mem_cons, List.mem_nil_iff, or_false] at hp
    rcases hp with rfl | rfl
    all_goals first | exact small_nam _ _ d | exact (by simp [sizeP])
set_option maxHeartbeats 1000000 in
theorem st21 {ats : Array TypeId} (hW : lo ≤ W0.heap.size) (h : Op1 l 21 (.call { callee := .value (.func 133), args := #[.tmp 19], argTypes := ats }) (some 20) [20]) (hn : ¬ D 21) (hB : BI lo W0 (f + 1) a w) (hT : ∀ j, D j → (dsc j).holds lo a w) (hdep : ∀ o, l[21]? = some o → ∀ e ∈ o.after, Region.binds .any e = true → D e.on) : Step1 lo W0 f D l Q 21 a w := by
  obtain ⟨o, ho, hop, hg, hdst, hdd⟩ := h.ex
  have hdx := hdep o ho
  have hl := hB.lo_le hW
  have hd0 : ∀ j, j ∈ ([20] : List Nat) → D j := fun j hj => depB_spec (List.all_eq_true.1 hdd j hj) hdx
  have h20 := hT 20 (hd0 20 (by decide))
  refine wpOp_of (by rw [List.getElem?_toArray]; exact ho) hg ?_
  obtain ⟨L, gp, hs, hkb, hgp, hP⟩ := (h20 : Sd.holds lo a w (.kinds 19 [.num 2 0 0 0 0, .nam false true]))
  refine op_call hop goesRow (args := #[.slice (some ⟨gp, 0, none⟩) L.length L.length]) (by rw [map1]; show #[a.eval (.tmp 19)] = _; rw [hs]) ((row_any lo L _ gp w hP hkb hgp hl).mono ?_)
  rintro e w' ⟨v, rfl, hik, hb⟩
  rw [hdst]
  refine ⟨v, rfl, out_of hB hT hn hl hb (by decide) (by decide) (by kernel_rfl) v ?_⟩
  show IK lo w' ((a.put (some 20) v).eval (.tmp 20)) _
  rw [eval_same (by rw [hB.sz]; decide)]
  exact hik
set_option maxHeartbeats 1000000 in
theorem st22 (hW : lo ≤ W0.heap.size) (h : Op1 l 22 (.insert 171 (.tmp 4) (.const (.int .i64 15)) (.tmp 20)) (none) [0, 21]) (hn : ¬ D 22) (hB : BI lo W0 (f + 1) a w) (hT : ∀ j, D j → (dsc j).holds lo a w) (hdep : ∀ o, l[22]? = some o → ∀ e ∈ o.after, Region.binds .any e = true → D e.on) (hf : f < 36) : Step1 lo W0 f D l Q 22 a w := by
  obtain ⟨o, ho, hop, hg, hdst, hdd⟩ := h.ex
  have hdx := hdep o ho
  have hl := hB.lo_le hW
  have hd0 : ∀ j, j ∈ ([0, 21] : List Nat) → D j := fun j hj => depB_spec (List.all_eq_true.1 hdd j hj) hdx
  have h0 := hT 0 (hd0 0 (by decide))
  have h21 := hT 21 (hd0 21 (by decide))
  refine wpOp_of (by rw [List.getElem?_toArray]; exact ho) hg ?_
  obtain ⟨b, hs⟩ := (h0 : Sd.holds lo a w .map)
  obtain ⟨hlb, n, Dm, hD, hnf, hG⟩ := hB.mp b hs
  have hv : IK lo w (a.eval (.tmp 20)) _ := h21
  obtain ⟨w', hrun, hD', hgr⟩ := ex_insert (ρ := a.eval) (k := 15) (fun _ => rfl) hop hs rfl hD (by unfold maxLen; omega) (by decide)
  refine op_skip hrun ?_
  rw [hdst]
  exact ⟨hB.putM (k := 15) hs hD hnf hG hgr hD' hlb hl rfl hv undef, ⟨b, _, _, hs, hD', Maps.has_put_same hD.isMap (k := ki 15) (by trivial) _⟩, fun j hj => Sd.put (d := dsc j) (hT j hj) hs hD hgr hD' undef⟩
set_option maxHeartbeats 1000000 in
theorem st23 {ats : Array TypeId} (hW : lo ≤ W0.heap.size) (h : Op1 l 23 (.call { callee := .value (.func 136), args := #[], argTypes := ats }) (some 21) []) (hn : ¬ D 23) (hB : BI lo W0 (f + 1) a w) (hT : ∀ j, D j → (dsc j).holds lo a w) (hdep : ∀ o, l[23]? = some o → ∀ e ∈ o.after, Region.binds .any e = true → D e.on) : Step1 lo W0 f D l Q 23 a w := by
  obtain ⟨o, ho, hop, hg, hdst, hdd⟩ := h.ex
  have hdx := hdep o ho
  have hl := hB.lo_le hW
  have hd0 : ∀ j, j ∈ ([] : List Nat) → D j := fun j hj => depB_spec (List.all_eq_true.1 hdd j hj) hdx
  refine wpOp_of (by rw [List.getElem?_toArray]; exact ho) hg ?_
  refine op_call hop goes_texts (args := #[]) (map0 _) ((texts_any w).mono ?_)
  rintro e w' ⟨v, rfl, hik, hb⟩
  rw [hdst]
  refine ⟨v, rfl, out_of hB hT hn hl hb (by decide) (by decide) (by kernel_rfl) v ?_⟩
  show IK lo w' ((a.put (some 21) v).eval (.tmp 21)) _
  rw [eval_same (by rw [hB.sz]; decide)]
  exact hik.lower hl
set_option maxHeartbeats 1000000 in
theorem st24 (hW : lo ≤ W0.heap.size) (h : Op1 l 24 (.insert 171 (.tmp 4) (.const (.int .i64 16)) (.tmp 21)) (none) [0, 23]) (hn : ¬ D 24) (hB : BI lo W0 (f + 1) a w) (hT : ∀ j, D j → (dsc j).holds lo a w) (hdep : ∀ o, l[24]? = some o → ∀ e ∈ o.after, Region.binds .any e = true → D e.on) (hf : f < 36) : Step1 lo W0 f D l Q 24 a w := by
  obtain ⟨o, ho, hop, hg, hdst, hdd⟩ := h.ex
  have hdx := hdep o ho
  have hl := hB.lo_le hW
  have hd0 : ∀ j, j ∈ ([0, 23] : List Nat) → D j := fun j hj => depB_spec (List.all_eq_true.1 hdd j hj) hdx
  have h0 := hT 0 (hd0 0 (by decide))
  have h23 := hT 23 (hd0 23 (by decide))
  refine wpOp_of (by rw [List.getElem?_toArray]; exact ho) hg ?_
  obtain ⟨b, hs⟩ := (h0 : Sd.holds lo a w .map)
  obtain ⟨hlb, n, Dm, hD, hnf, hG⟩ := hB.mp b hs
  have hv : IK lo w (a.eval (.tmp 21)) _ := h23
  obtain ⟨w', hrun, hD', hgr⟩ := ex_insert (ρ := a.eval) (k := 16) (fun _ => rfl) hop hs rfl hD (by unfold maxLen; omega) (by decide)
  refine op_skip hrun ?_
  rw [hdst]
  exact ⟨hB.putM (k := 16) hs hD hnf hG hgr hD' hlb hl rfl hv undef, ⟨b, _, _, hs, hD', Maps.has_put_same hD.isMap (k := ki 16) (by trivial) _⟩, fun j hj => Sd.put (d := dsc j) (hT j hj) hs hD hgr hD' undef⟩
set_option maxHeartbeats 1000000 in
theorem st25 {ats : Array TypeId} (hW : lo ≤ W0.heap.size) (h : Op1 l 25 (.call { callee := .value (.func 132), args := #[.const (.bool true), .const (.int .i64 16)], argTypes := ats }) (some 22) []) (hn : ¬ D 25) (hB : BI lo W0 (f + 1) a w) (hT : ∀ j, D j → (dsc j).holds lo a w) (hdep : ∀ o, l[25]? = some o → ∀ e ∈ o.after, Region.binds .any e = true → D e.on) : Step1 lo W0 f D l Q 25 a w := by
  obtain ⟨o, ho, hop, hg, hdst, hdd⟩ := h.ex
  have hdx := hdep o ho
  have hl := hB.lo_le hW
  have hd0 : ∀ j, j ∈ ([] : List Nat) → D j := fun j hj => depB_spec (List.all_eq_true.1 hdd j hj) hdx
  refine wpOp_of (by rw [List.getElem?_toArray]; exact ho) hg ?_
  refine op_call hop goes_address (args := #[.bool true, .int .i64 16]) (map2 _ _ _) ((address_any true 16 rfl w).mono ?_)
  rintro e w' ⟨v, rfl, hik, hb⟩
  rw [hdst]
  refine ⟨v, rfl, out_of hB hT hn hl hb (by decide) (by decide) (by kernel_rfl) v ?_⟩
  show IK lo w' ((a.put (some 22) v).eval (.tmp 22)) _
  rw [eval_same (by rw [hB.sz]; decide)]
  exact hik.lower hl
set_option maxHeartbeats 1000000 in
theorem st26 (hW : lo ≤ W0.heap.size) (h : Op1 l 26 (.insert 171 (.tmp 4) (.const (.int .i64 28)) (.tmp 22)) (none) [0, 25]) (hn : ¬ D 26) (hB : BI lo W0 (f + 1) a w) (hT : ∀ j, D j → (dsc j).holds lo a w) (hdep : ∀ o, l[26]? = some o → ∀ e ∈ o.after, Region.binds .any e = true → D e.on) (hf : f < 36) : Step1 lo W0 f D l Q 26 a w := by
  obtain ⟨o, ho, hop, hg, hdst, hdd⟩ := h.ex
  have hdx := hdep o ho
  have hl := hB.lo_le hW
  have hd0 : ∀ j, j ∈ ([0, 25] : List Nat) → D j := fun j hj => depB_spec (List.all_eq_true.1 hdd j hj) hdx
  have h0 := hT 0 (hd0 0 (by decide))
  have h25 := hT 25 (hd0 25 (by decide))
  refine wpOp_of (by rw [List.getElem?_toArray]; exact ho) hg ?_
  obtain ⟨b, hs⟩ := (h0 : Sd.holds lo a w .map)
  obtain ⟨hlb, n, Dm, hD, hnf, hG⟩ := hB.mp b hs
  have hv : IK lo w (a.eval (.tmp 22)) _ := h25
  obtain ⟨w', hrun, hD', hgr⟩ := ex_insert (ρ := a.eval) (k := 28) (fun _ => rfl) hop hs rfl hD (by unfold maxLen; omega) (by decide)
  refine op_skip hrun ?_
  rw [hdst]
  exact ⟨hB.putM (k := 28) hs hD hnf hG hgr hD' hlb hl rfl hv undef, ⟨b, _, _, hs, hD', Maps.has_put_same hD.isMap (k := ki 28) (by trivial) _⟩, fun j hj => Sd.put (d := dsc j) (hT j hj) hs hD hgr hD' undef⟩
set_option maxHeartbeats 1000000 in
theorem st27 (hW : lo ≤ W0.heap.size) (h : Op1 l 27 (.build 212 #[(0, .const (.int .i64 2)), (1, .const (.int .i64 2)), (2, .const (.int .i64 2))]) (some 23) []) (hn : ¬ D 27) (hB : BI lo W0 (f + 1) a w) (hT : ∀ j, D j → (dsc j).holds lo a w) (hdep : ∀ o, l[27]? = some o → ∀ e ∈ o.after, Region.binds .any e = true → D e.on) : Step1 lo W0 f D l Q 27 a w := by
  obtain ⟨o, ho, hop, hg, hdst, hdd⟩ := h.ex
  have hdx := hdep o ho
  have hl := hB.lo_le hW
  have hd0 : ∀ j, j ∈ ([] : List Nat) → D j := fun j hj => depB_spec (List.all_eq_true.1 hdd j hj) hdx
  refine wpOp_of (by rw [List.getElem?_toArray]; exact ho) hg ?_
  refine op_value (ex_ws3 (fun _ => rfl) hop) ?_
  rw [hdst]
  refine out_of hB hT hn hl (Below.refl _ _) (by decide) (by decide) (by kernel_rfl) _ ?_
  exact eval_same (by rw [hB.sz]; decide) _
set_option maxHeartbeats 1000000 in
theorem st28 {ats : Array TypeId} (hW : lo ≤ W0.heap.size) (h : Op1 l 28 (.call { callee := .value (.func 135), args := #[.tmp 23], argTypes := ats }) (some 24) [27]) (hn : ¬ D 28) (hB : BI lo W0 (f + 1) a w) (hT : ∀ j, D j → (dsc j).holds lo a w) (hdep : ∀ o, l[28]? = some o → ∀ e ∈ o.after, Region.binds .any e = true → D e.on) : Step1 lo W0 f D l Q 28 a w := by
  obtain ⟨o, ho, hop, hg, hdst, hdd⟩ := h.ex
  have hdx := hdep o ho
  have hl := hB.lo_le hW
  have hd0 : ∀ j, j ∈ ([27] : List Nat) → D j := fun j hj => depB_spec (List.all_eq_true.1 hdd j hj) hdx
  have h27 := hT 27 (hd0 27 (by decide))
  refine wpOp_of (by rw [List.getElem?_toArray]; exact ho) hg ?_
  refine op_call hop goes_numbers (args := #[wsV 2 2 2 0 0]) (by rw [map1]; show #[a.eval (.tmp 23)] = _; rw [show a.eval (.tmp 23) = _ from h27]) ((numbers_any 2 2 2 0 0 ⟨.inr (.inl rfl), .inr (.inl rfl), .inr (.inl rfl), .inl rfl, .inl rfl⟩ w).mono ?_)
  rintro e w' ⟨v, rfl, hik, hb⟩
  rw [hdst]
  refine ⟨v, rfl, out_of hB hT hn hl hb (by decide) (by decide) (by kernel_rfl) v ?_⟩
  show IK lo w' ((a.put (some 24) v).eval (.tmp 24)) _
  rw [eval_same (by rw [hB.sz]; decide)]
  exact hik.lower hl
set_option maxHeartbeats 1000000 in
theorem st29 {ats : Array TypeId} (hW : lo ≤ W0.heap.size) (h : Op1 l 29 (.call { callee := .value (.func 137), args := #[], argTypes := ats }) (some 25) []) (hn : ¬ D 29) (hB : BI lo W0 (f + 1) a w) (hT : ∀ j, D j → (dsc j).holds lo a w) (hdep : ∀ o, l[29]? = some o → ∀ e ∈ o.after, Region.binds .any e = true → D e.on) : Step1 lo W0 f D l Q 29 a w := by
  obtain ⟨o, ho, hop, hg, hdst, hdd⟩ := h.ex
  have hdx := hdep o ho
  have hl := hB.lo_le hW
  have hd0 : ∀ j, j ∈ ([] : List Nat) → D j := fun j hj => depB_spec (List.all_eq_true.1 hdd j hj) hdx
  refine wpOp_of (by rw [List.getElem?_toArray]; exact ho) hg ?_
  refine op_call hop goes_plain (args := #[]) (map0 _) ((plain_any w).mono ?_)
  rintro e w' ⟨rfl, hb⟩
  rw [hdst]
  refine ⟨_, rfl, out_of hB hT hn hl hb (by decide) (by decide) (by kernel_rfl) _ ?_⟩
  exact eval_same (by rw [hB.sz]; decide) _
set_option maxHeartbeats 1000000 in
theorem st30 {ats : Array TypeId} (hW : lo ≤ W0.heap.size) (h : Op1 l 30 (.call { callee := .value (.func 129), args := #[.func 130, .tmp 25], argTypes := ats }) (some 26) [29]) (hn : ¬ D 30) (hB : BI lo W0 (f + 1) a w) (hT : ∀ j, D j → (dsc j).holds lo a w) (hdep : ∀ o, l[30]? = some o → ∀ e ∈ o.after, Region.binds .any e = true → D e.on) : Step1 lo W0 f D l Q 30 a w := by
  obtain ⟨o, ho, hop, hg, hdst, hdd⟩ := h.ex
  have hdx := hdep o ho
  have hl := hB.lo_le hW
  have hd0 : ∀ j, j ∈ ([29] : List Nat) → D j := fun j hj => depB_spec (List.all_eq_true.1 hdd j hj) hdx
  have h29 := hT 29 (hd0 29 (by decide))
  refine wpOp_of (by rw [List.getElem?_toArray]; exact ho) hg ?_
  refine op_call hop goes_names (args := #[.func (.func 130) #[] #[], .agg #[.func (.func 200) #[] #[], .func (.func 201) #[] #[]]]) (by rw [map2]; show #[Act.eval a (.func 130), a.eval (.tmp 25)] = _; rw [show a.eval (.tmp 25) = _ from h29]; rfl) ((names_tp w).mono ?_)
  rintro e w' ⟨v, rfl, hik, hb⟩
  rw [hdst]
  refine ⟨v, rfl, out_of hB hT hn hl hb (by decide) (by decide) (by kernel_rfl) v ?_⟩
  show IK lo w' ((a.put (some 26) v).eval (.tmp 26)) _
  rw [eval_same (by rw [hB.sz]; decide)]
  exact hik.lower hl
set_option maxHeartbeats 1000000 in
theorem st31 (hW : lo ≤ W0.heap.size) (h : Op1 l 31 (.buildSlice 233 2 #[(0, .tmp 24), (1, .tmp 26)]) (some 27) [28, 30]) (hn : ¬ D 31) (hB : BI lo W0 (f + 1) a w) (hT : ∀ j, D j → (dsc j).holds lo a w) (hdep : ∀ o, l[31]? = some o → ∀ e ∈ o.after, Region.binds .any e = true → D e.on) : Step1 lo W0 f D l Q 31 a w := by
  obtain ⟨o, ho, hop, hg, hdst, hdd⟩ := h.ex
  have hdx := hdep o ho
  have hl := hB.lo_le hW
  have hd0 : ∀ j, j ∈ ([28, 30] : List Nat) → D j := fun j hj => depB_spec (List.all_eq_true.1 hdd j hj) hdx
  have h28 := hT 28 (hd0 28 (by decide))
  have h30 := hT 30 (hd0 30 (by decide))
  refine wpOp_of (by rw [List.getElem?_toArray]; exact ho) hg ?_
  have ip : IK lo w (a.eval (.tmp 24)) _ := h28
  obtain ⟨p, ep⟩ := ip.k5
  rw [ep] at ip
  have iq : IK lo w (a.eval (.tmp 26)) _ := h30
  obtain ⟨q, eq⟩ := iq.k5
  rw [eq] at iq
  have hb : Below w.heap.size w (w.alloc (.cells (flatK [p, q]) 139)) := (Below.refl _ _).alloc (Nat.le_refl _) _
  have hcg := CG.of_below hb
  refine op_value (ex_slice2 hop ep eq) ?_
  rw [hdst]
  refine out_of hB hT hn hl hb (by decide) (by decide) (by kernel_rfl) _ ?_
  refine ⟨[p, q], w.heap.size, eval_same (by rw [hB.sz]; decide) _, Lies.new w _ _, hl, partsOf rfl (by simp) (fun i hi hp => ?_) (fun p hp => ?_) (fun p hp d => ?_)⟩
  · match i, hi with
    | 0, _ => exact ip.next hcg
    | 1, _ => exact iq.next hcg
    | n + 2, hi => exact absurd hi (by simp)
  · simp only [List.mem_cons, List.mem_nil_iff, or_false] at hp
    rcases hp with rfl | rfl
    all_goals (intro e; cases e)
  · simp only [List.mem_cons, List.mem_nil_iff, or_false] at hp
    rcases hp with rfl | rfl
    all_goals first | exact small_nam _ _ d | exact (by simp [sizeP])
set_option maxHeartbeats 1000000 in
theorem st32 {ats : Array TypeId} (hW : lo ≤ W0.heap.size) (h : Op1 l 32 (.call { callee := .value (.func 133), args := #[.tmp 27], argTypes := ats }) (some 28) [31]) (hn : ¬ D 32) (hB : BI lo W0 (f + 1) a w) (hT : ∀ j, D j → (dsc j).holds lo a w) (hdep : ∀ o, l[32]? = some o → ∀ e ∈ o.after, Region.binds .any e = true → D e.on) : Step1 lo W0 f D l Q 32 a w := by
  obtain ⟨o, ho, hop, hg, hdst, hdd⟩ := h.ex
  have hdx := hdep o ho
  have hl := hB.lo_le hW
  have hd0 : ∀ j, j ∈ ([31] : List Nat) → D j := fun j hj => depB_spec (List.all_eq_true.1 hdd j hj) hdx
  have h31 := hT 31 (hd0 31 (by decide))
  refine wpOp_of (by rw [List.getElem?_toArray]; exact ho) hg ?_
  obtain ⟨L, gp, hs, hkb, hgp, hP⟩ := (h31 : Sd.holds lo a w (.kinds 27 [.num 2 2 2 0 0, .nam false false]))
  refine op_call hop goesRow (args := #[.slice (some ⟨gp, 0, none⟩) L.length L.length]) (by rw [map1]; show #[a.eval (.tmp 27)] = _; rw [hs]) ((row_any lo L _ gp w hP hkb hgp hl).mono ?_)
  rintro e w' ⟨v, rfl, hik, hb⟩
  rw [hdst]
  refine ⟨v, rfl, out_of hB hT hn hl hb (by decide) (by decide) (by kernel_rfl) v ?_⟩
  show IK lo w' ((a.put (some 28) v).eval (.tmp 28)) _
  rw [eval_same (by rw [hB.sz]; decide)]
  exact hik
set_option maxHeartbeats 1000000 in
theorem st33 (hW : lo ≤ W0.heap.size) (h : Op1 l 33 (.insert 171 (.tmp 4) (.const (.int .i64 33)) (.tmp 28)) (none) [0, 32]) (hn : ¬ D 33) (hB : BI lo W0 (f + 1) a w) (hT : ∀ j, D j → (dsc j).holds lo a w) (hdep : ∀ o, l[33]? = some o → ∀ e ∈ o.after, Region.binds .any e = true → D e.on) (hf : f < 36) : Step1 lo W0 f D l Q 33 a w := by
  obtain ⟨o, ho, hop, hg, hdst, hdd⟩ := h.ex
  have hdx := hdep o ho
  have hl := hB.lo_le hW
  have hd0 : ∀ j, j ∈ ([0, 32] : List Nat) → D j := fun j hj => depB_spec (List.all_eq_true.1 hdd j hj) hdx
  have h0 := hT 0 (hd0 0 (by decide))
  have h32 := hT 32 (hd0 32 (by decide))
  refine wpOp_of (by rw [List.getElem?_toArray]; exact ho) hg ?_
  obtain ⟨b, hs⟩ := (h0 : Sd.holds lo a w .map)
  obtain ⟨hlb, n, Dm, hD, hnf, hG⟩ := hB.mp b hs
  have hv : IK lo w (a.eval (.tmp 28)) _ := h32
  obtain ⟨w', hrun, hD', hgr⟩ := ex_insert (ρ := a.eval) (k := 33) (fun _ => rfl) hop hs rfl hD (by unfold maxLen; omega) (by decide)
  refine op_skip hrun ?_
  rw [hdst]
  exact ⟨hB.putM (k := 33) hs hD hnf hG hgr hD' hlb hl rfl hv undef, ⟨b, _, _, hs, hD', Maps.has_put_same hD.isMap (k := ki 33) (by trivial) _⟩, fun j hj => Sd.put (d := dsc j) (hT j hj) hs hD hgr hD' undef⟩
set_option maxHeartbeats 1000000 in
theorem st34 (hW : lo ≤ W0.heap.size) (h : Op1 l 34 (.move (.tmp 4)) (some 29) [0]) (hn : ¬ D 34) (hB : BI lo W0 (f + 1) a w) (hT : ∀ j, D j → (dsc j).holds lo a w) (hdep : ∀ o, l[34]? = some o → ∀ e ∈ o.after, Region.binds .any e = true → D e.on) : Step1 lo W0 f D l Q 34 a w := by
  obtain ⟨o, ho, hop, hg, hdst, hdd⟩ := h.ex
  have hdx := hdep o ho
  have hl := hB.lo_le hW
  have hd0 : ∀ j, j ∈ ([0] : List Nat) → D j := fun j hj => depB_spec (List.all_eq_true.1 hdd j hj) hdx
  have h0 := hT 0 (hd0 0 (by decide))
  refine wpOp_of (by rw [List.getElem?_toArray]; exact ho) hg ?_
  obtain ⟨b, hb⟩ := (h0 : Sd.holds lo a w .map)
  refine op_value (ex_move hop hb) ?_
  rw [hdst]
  refine out_of hB hT hn hl (Below.refl _ _) (by decide) (by decide) (by kernel_rfl) _ ?_
  exact ⟨b, eval_same (by rw [hB.sz]; decide) _, (eval_ne (by decide) _).trans hb⟩
set_option maxHeartbeats 1000000 in
theorem st35 (hW : lo ≤ W0.heap.size) (h : Op1 l 35 (.assign (.tmp 29)) (some 0) [34]) (hn : ¬ D 35) (hB : BI lo W0 (f + 1) a w) (hT : ∀ j, D j → (dsc j).holds lo a w) (hdep : ∀ o, l[35]? = some o → ∀ e ∈ o.after, Region.binds .any e = true → D e.on) : Step1 lo W0 f D l Q 35 a w := by
  obtain ⟨o, ho, hop, hg, hdst, hdd⟩ := h.ex
  have hdx := hdep o ho
  have hl := hB.lo_le hW
  have hd0 : ∀ j, j ∈ ([34] : List Nat) → D j := fun j hj => depB_spec (List.all_eq_true.1 hdd j hj) hdx
  have h34 := hT 34 (hd0 34 (by decide))
  refine wpOp_of (by rw [List.getElem?_toArray]; exact ho) hg ?_
  obtain ⟨b, hb, hb4⟩ := (h34 : Sd.holds lo a w (.mv 29))
  refine op_value (ex_assign hop hb) ?_
  rw [hdst]
  refine out_of hB hT hn hl (Below.refl _ _) (by decide) (by decide) (by kernel_rfl) _ ?_
  exact ⟨b, eval_same (by rw [hB.sz]; decide) _, (eval_ne (by decide) _).trans hb4⟩
end
end Go.Proofs.YtodedbokeodmkaaGreat
namespace Go.Proofs.YtodedbokeodmkaaGreat
open Go.RowKit Go.Maps
set_option linter.unusedVariables false
set_option maxRecDepth 100000

theorem cases36 {m : Nat → Prop} (h0 : m 0) (h1 : m 1) (h2 : m 2) (h3 : m 3) (h4 : m 4) (h5 : m 5) (h6 : m 6) (h7 : m 7) (h8 : m 8) (h9 : m 9) (h10 : m 10) (h11 : m 11) (h12 : m 12) (h13 : m 13) (h14 : m 14) (h15 : m 15) (h16 : m 16) (h17 : m 17) (h18 : m 18) (h19 : m 19) (h20 : m 20) (h21 : m 21) (h22 : m 22) (h23 : m 23) (h24 : m 24) (h25 : m 25) (h26 : m 26) (h27 : m 27) (h28 : m 28) (h29 : m 29) (h30 : m 30) (h31 : m 31) (h32 : m 32) (h33 : m 33) (h34 : m 34) (h35 : m 35) : ∀ i, i < 36 → m i
  | 0, _ => h0
  | 1, _ => h1
  | 2, _ => h2
  | 3, _ => h3
  | 4, _ => h4
  | 5, _ => h5
  | 6, _ => h6
  | 7, _ => h7
  | 8, _ => h8
  | 9, _ => h9
  | 10, _ => h10
  | 11, _ => h11
  | 12, _ => h12
  | 13, _ => h13
  | 14, _ => h14
  | 15, _ => h15
  | 16, _ => h16
  | 17, _ => h17
  | 18, _ => h18
  | 19, _ => h19
  | 20, _ => h20
  | 21, _ => h21
  | 22, _ => h22
  | 23, _ => h23
  | 24, _ => h24
  | 25, _ => h25
  | 26, _ => h26
  | 27, _ => h27
  | 28, _ => h28
  | 29, _ => h29
  | 30, _ => h30
  | 31, _ => h31
  | 32, _ => h32
  | 33, _ => h33
  | 34, _ => h34
  | 35, _ => h35
  | n + 36, h => absurd h (by omega)
theorem Op1.zero {l : List Oper} {j : Nat} {op : Op} {dst : Option Nat} {deps : List Nat} {D : Nat → Prop} (h : Op1 l j op dst deps) {x : Nat} (hx : x ∈ deps) (hj : D j) (hcl : ∀ j o', l[j]? = some o' → D j → ∀ e ∈ o'.after, Region.binds .any e = true → D e.on) : D x := by
  obtain ⟨o, ho, _, _, _, hd⟩ := h.ex
  exact depB_spec (List.all_eq_true.1 hd x hx) (hcl j o ho hj)
set_option maxHeartbeats 1000000 in
theorem kinds_region {lo : Nat} {W0 w : World} {a : Act} {l : List Oper} {Q : Exit → Act → World → Prop} {id : Nat} {at1 : Array TypeId} {at8 : Array TypeId} {at9 : Array TypeId} {at11 : Array TypeId} {at13 : Array TypeId} {at18 : Array TypeId} {at21 : Array TypeId} {at23 : Array TypeId} {at25 : Array TypeId} {at28 : Array TypeId} {at29 : Array TypeId} {at30 : Array TypeId} {at32 : Array TypeId} (hW : lo ≤ W0.heap.size) (hlen : l.length = 36) (hb : backB 0 l = true)
    (h0 : Op1 l 0 (.makeMap 171 none) (some 4) [])
    (h1 : Op1 l 1 (.call { callee := .value (.func 132), args := #[.const (.bool false), .const (.int .i64 4)], argTypes := at1 }) (some 5) [])
    (h2 : Op1 l 2 (.insert 171 (.tmp 4) (.const (.int .i64 1)) (.tmp 5)) (none) [0, 1])
    (h3 : Op1 l 3 (.load 139 (.tmp 1)) (some 6) [])
    (h4 : Op1 l 4 (.insert 171 (.tmp 4) (.const (.int .i64 2)) (.tmp 6)) (none) [0, 3])
    (h5 : Op1 l 5 (.load 139 (.tmp 1)) (some 7) [])
    (h6 : Op1 l 6 (.insert 171 (.tmp 4) (.const (.int .i64 5)) (.tmp 7)) (none) [0, 5])
    (h7 : Op1 l 7 (.load 139 (.tmp 1)) (some 8) [])
    (h8 : Op1 l 8 (.call { callee := .value (.func 131), args := #[], argTypes := at8 }) (some 9) [])
    (h9 : Op1 l 9 (.call { callee := .value (.func 129), args := #[.func 134, .tmp 9], argTypes := at9 }) (some 10) [8])
    (h10 : Op1 l 10 (.build 212 #[(0, .const (.int .i64 4)), (1, .const (.int .i64 4)), (2, .const (.int .i64 4)), (3, .const (.int .i64 4)), (4, .const (.int .i64 4))]) (some 11) [])
    (h11 : Op1 l 11 (.call { callee := .value (.func 135), args := #[.tmp 11], argTypes := at11 }) (some 12) [10])
    (h12 : Op1 l 12 (.buildSlice 233 3 #[(0, .tmp 8), (1, .tmp 10), (2, .tmp 12)]) (some 13) [7, 9, 11])
    (h13 : Op1 l 13 (.call { callee := .value (.func 133), args := #[.tmp 13], argTypes := at13 }) (some 14) [12])
    (h14 : Op1 l 14 (.insert 171 (.tmp 4) (.const (.int .i64 6)) (.tmp 14)) (none) [0, 13])
    (h15 : Op1 l 15 (.load 139 (.tmp 1)) (some 15) [])
    (h16 : Op1 l 16 (.insert 171 (.tmp 4) (.const (.int .i64 12)) (.tmp 15)) (none) [0, 15])
    (h17 : Op1 l 17 (.build 212 #[(0, .const (.int .i64 2))]) (some 16) [])
    (h18 : Op1 l 18 (.call { callee := .value (.func 135), args := #[.tmp 16], argTypes := at18 }) (some 17) [17])
    (h19 : Op1 l 19 (.load 139 (.tmp 1)) (some 18) [])
    (h20 : Op1 l 20 (.buildSlice 233 2 #[(0, .tmp 17), (1, .tmp 18)]) (some 19) [18, 19])
    (h21 : Op1 l 21 (.call { callee := .value (.func 133), args := #[.tmp 19], argTypes := at21 }) (some 20) [20])
    (h22 : Op1 l 22 (.insert 171 (.tmp 4) (.const (.int .i64 15)) (.tmp 20)) (none) [0, 21])
    (h23 : Op1 l 23 (.call { callee := .value (.func 136), args := #[], argTypes := at23 }) (some 21) [])
    (h24 : Op1 l 24 (.insert 171 (.tmp 4) (.const (.int .i64 16)) (.tmp 21)) (none) [0, 23])
    (h25 : Op1 l 25 (.call { callee := .value (.func 132), args := #[.const (.bool true), .const (.int .i64 16)], argTypes := at25 }) (some 22) [])
    (h26 : Op1 l 26 (.insert 171 (.tmp 4) (.const (.int .i64 28)) (.tmp 22)) (none) [0, 25])
    (h27 : Op1 l 27 (.build 212 #[(0, .const (.int .i64 2)), (1, .const (.int .i64 2)), (2, .const (.int .i64 2))]) (some 23) [])
    (h28 : Op1 l 28 (.call { callee := .value (.func 135), args := #[.tmp 23], argTypes := at28 }) (some 24) [27])
    (h29 : Op1 l 29 (.call { callee := .value (.func 137), args := #[], argTypes := at29 }) (some 25) [])
    (h30 : Op1 l 30 (.call { callee := .value (.func 129), args := #[.func 130, .tmp 25], argTypes := at30 }) (some 26) [29])
    (h31 : Op1 l 31 (.buildSlice 233 2 #[(0, .tmp 24), (1, .tmp 26)]) (some 27) [28, 30])
    (h32 : Op1 l 32 (.call { callee := .value (.func 133), args := #[.tmp 27], argTypes := at32 }) (some 28) [31])
    (h33 : Op1 l 33 (.insert 171 (.tmp 4) (.const (.int .i64 33)) (.tmp 28)) (none) [0, 32])
    (h34 : Op1 l 34 (.move (.tmp 4)) (some 29) [0])
    (h35 : Op1 l 35 (.assign (.tmp 29)) (some 0) [34])
    (hB : BI lo W0 36 a w.drew) (fin : ∀ a w, BI lo W0 0 a w → (∀ j, j < 36 → (dsc j).holds lo a w) → Q .normal a w) : (Code.region id l.toArray true).wp Tryz.prog Q a w := by
  refine wp_region_inv (by kernel_rfl) hb (BI lo W0) (fun j a w => (dsc j).holds lo a w) (by rw [hlen]; exact hB) ?_ (fun a w h1 h2 => fin a w h1 fun j hj => h2 j (by rw [hlen]; exact hj))
  intro f i o a w D ho hf hn hdep hcl hB hT
  have hf36 : f < 36 := by rw [← hlen]; exact hf
  have hi : i < 36 := by rw [← hlen]; exact (List.getElem?_eq_some_iff.1 ho).1
  have hd' : ∀ o', l[i]? = some o' → ∀ e ∈ o'.after, Region.binds .any e = true → D e.on := fun o' ho' => by
    rw [ho] at ho'
    cases ho'
    exact hdep
  clear hdep ho
  revert hn hd'
  refine cases36 (m := fun i => ¬ D i → (∀ o', l[i]? = some o' → ∀ e ∈ o'.after, Region.binds .any e = true → D e.on) → Step1 lo W0 f D l Q i a w) ?_ ?_ ?_ ?_ ?_ ?_ ?_ ?_ ?_ ?_ ?_ ?_ ?_ ?_ ?_ ?_ ?_ ?_ ?_ ?_ ?_ ?_ ?_ ?_ ?_ ?_ ?_ ?_ ?_ ?_ ?_ ?_ ?_ ?_ ?_ ?_ i hi
  · intro hn hd
    refine st0 hW h0 hn hB hT hd (fun j hj s hs e => ?_) hf36
    subst e
    by_cases hj36 : j < 36
    · revert hj hs
      refine cases36 (m := fun j => D j → 4 ∈ (dsc j).slots → False) ?_ ?_ ?_ ?_ ?_ ?_ ?_ ?_ ?_ ?_ ?_ ?_ ?_ ?_ ?_ ?_ ?_ ?_ ?_ ?_ ?_ ?_ ?_ ?_ ?_ ?_ ?_ ?_ ?_ ?_ ?_ ?_ ?_ ?_ ?_ ?_ j hj36
      · exact fun hj _ => hn hj
      · exact fun _ hs => absurd hs (by simp [dsc, Sd.slots])
      · exact fun hj _ => hn (h2.zero (by decide) hj hcl)
      · exact fun _ hs => absurd hs (by simp [dsc, Sd.slots])
      · exact fun hj _ => hn (h4.zero (by decide) hj hcl)
      · exact fun _ hs => absurd hs (by simp [dsc, Sd.slots])
      · exact fun hj _ => hn (h6.zero (by decide) hj hcl)
      · exact fun _ hs => absurd hs (by simp [dsc, Sd.slots])
      · exact fun _ hs => absurd hs (by simp [dsc, Sd.slots])
      · exact fun _ hs => absurd hs (by simp [dsc, Sd.slots])
      · exact fun _ hs => absurd hs (by simp [dsc, Sd.slots])
      · exact fun _ hs => absurd hs (by simp [dsc, Sd.slots])
      · exact fun _ hs => absurd hs (by simp [dsc, Sd.slots])
      · exact fun _ hs => absurd hs (by simp [dsc, Sd.slots])
      · exact fun hj _ => hn (h14.zero (by decide) hj hcl)
      · exact fun _ hs => absurd hs (by simp [dsc, Sd.slots])
      · exact fun hj _ => hn (h16.zero (by decide) hj hcl)
      · exact fun _ hs => absurd hs (by simp [dsc, Sd.slots])
      · exact fun _ hs => absurd hs (by simp [dsc, Sd.slots])
      · exact fun _ hs => absurd hs (by simp [dsc, Sd.slots])
      · exact fun _ hs => absurd hs (by simp [dsc, Sd.slots])
      · exact fun _ hs => absurd hs (by simp [dsc, Sd.slots])
      · exact fun hj _ => hn (h22.zero (by decide) hj hcl)
      · exact fun _ hs => absurd hs (by simp [dsc, Sd.slots])
      · exact fun hj _ => hn (h24.zero (by decide) hj hcl)
      · exact fun _ hs => absurd hs (by simp [dsc, Sd.slots])
      · exact fun hj _ => hn (h26.zero (by decide) hj hcl)
      · exact fun _ hs => absurd hs (by simp [dsc, Sd.slots])
      · exact fun _ hs => absurd hs (by simp [dsc, Sd.slots])
      · exact fun _ hs => absurd hs (by simp [dsc, Sd.slots])
      · exact fun _ hs => absurd hs (by simp [dsc, Sd.slots])
      · exact fun _ hs => absurd hs (by simp [dsc, Sd.slots])
      · exact fun _ hs => absurd hs (by simp [dsc, Sd.slots])
      · exact fun hj _ => hn (h33.zero (by decide) hj hcl)
      · exact fun hj _ => hn (h34.zero (by decide) hj hcl)
      · exact fun hj _ => hn (h34.zero (by decide) (h35.zero (x := 34) (by decide) hj hcl) hcl)
    · have e : dsc j = .no := by
        unfold dsc
        rw [List.getD_eq_getElem?_getD, List.getElem?_eq_none (by simp; omega)]
        rfl
      rw [e] at hs
      simp [Sd.slots] at hs
  · exact fun hn hd => st1 hW h1 hn hB hT hd
  · exact fun hn hd => st2 hW h2 hn hB hT hd hf36
  · exact fun hn hd => st3 hW h3 hn hB hT hd
  · exact fun hn hd => st4 hW h4 hn hB hT hd hf36
  · exact fun hn hd => st5 hW h5 hn hB hT hd
  · exact fun hn hd => st6 hW h6 hn hB hT hd hf36
  · exact fun hn hd => st7 hW h7 hn hB hT hd
  · exact fun hn hd => st8 hW h8 hn hB hT hd
  · exact fun hn hd => st9 hW h9 hn hB hT hd
  · exact fun hn hd => st10 hW h10 hn hB hT hd
  · exact fun hn hd => st11 hW h11 hn hB hT hd
  · exact fun hn hd => st12 hW h12 hn hB hT hd
  · exact fun hn hd => st13 hW h13 hn hB hT hd
  · exact fun hn hd => st14 hW h14 hn hB hT hd hf36
  · exact fun hn hd => st15 hW h15 hn hB hT hd
  · exact fun hn hd => st16 hW h16 hn hB hT hd hf36
  · exact fun hn hd => st17 hW h17 hn hB hT hd
  · exact fun hn hd => st18 hW h18 hn hB hT hd
  · exact fun hn hd => st19 hW h19 hn hB hT hd
  · exact fun hn hd => st20 hW h20 hn hB hT hd
  · exact fun hn hd => st21 hW h21 hn hB hT hd
  · exact fun hn hd => st22 hW h22 hn hB hT hd hf36
  · exact fun hn hd => st23 hW h23 hn hB hT hd
  · exact fun hn hd => st24 hW h24 hn hB hT hd hf36
  · exact fun hn hd => st25 hW h25 hn hB hT hd
  · exact fun hn hd => st26 hW h26 hn hB hT hd hf36
  · exact fun hn hd => st27 hW h27 hn hB hT hd
  · exact fun hn hd => st28 hW h28 hn hB hT hd
  · exact fun hn hd => st29 hW h29 hn hB hT hd
  · exact fun hn hd => st30 hW h30 hn hB hT hd
  · exact fun hn hd => st31 hW h31 hn hB hT hd
  · exact fun hn hd => st32 hW h32 hn hB hT hd
  · exact fun hn hd => st33 hW h33 hn hB hT hd hf36
  · exact fun hn hd => st34 hW h34 hn hB hT hd
  · exact fun hn hd => st35 hW h35 hn hB hT hd
/-- A map of kinds. -/
def KMap (lo : Nat) (w : World) (b : Nat) : Prop := lo ≤ b ∧ ∃ n D, MapOf w b n D ∧ MGood lo w D ∧ ∀ k K, table k = some K → Maps.has D (ki k) = true
theorem table_some {k : Int} {K : List Pt} (h : table k = some K) : k = 1 ∨ k = 2 ∨ k = 5 ∨ k = 6 ∨ k = 12 ∨ k = 15 ∨ k = 16 ∨ k = 28 ∨ k = 33 := by
  unfold table at h
  repeat' split at h
  all_goals first | omega | cases h
theorem ins_has {lo : Nat} {a : Act} {w : World} {b n : Nat} {D : DataW Value} {k : Int} (h : Sd.holds lo a w (.ins k)) (hb : a.eval (.tmp 4) = .map (some b)) (hD : MapOf w b n D) : Maps.has D (ki k) = true := by
  obtain ⟨b', n', D', h1, h2, h3⟩ := h
  rw [hb] at h1
  injection h1 with e
  injection e with e
  subst e
  rw [hD.eq h2]
  exact h3
set_option maxHeartbeats 4000000 in
theorem kinds_any (w : World) : Calls Tryz.prog 111 #[] w fun e w' => ∃ b, e = .returned (.map (some b)) ∧ KMap w.heap.size w' b ∧ Below w.heap.size w w' := by
  go_enter Tryz.func111, Tryz.ntmps111
  go_wp2_with (first | (go_at_call 131; (with_reducible refine (pointed_any _).mono ?_); rintro e w1 ⟨rfl, hb1⟩; have HB1 := Lib.hid hb1; clear hb1) | (go_at_call 129; (with_reducible refine (names_tn _).mono ?_); rintro e w2 ⟨v, rfl, hik, hb2⟩; obtain ⟨x, rfl⟩ := hik.k5; have HI := Lib.hid hik; have HB2 := Lib.hid hb2; clear hik hb2))
  have hb3 : Below w.heap.size w w2 := HB1.out.trans (HB2.out.mono HB1.out.size)
  have hal : Below w2.heap.size w2 (w2.alloc (.cells #[fv x.a0, fv x.a1, fv x.a2, fv x.a3, fv x.a4] 139)).drew := next ((Below.refl _ _).alloc (Nat.le_refl _) _) (below_dr _)
  refine kinds_region (lo := w.heap.size) (W0 := w) (Nat.le_refl _) rfl (by kernel_rfl) ⟨⟨_, rfl, rfl, rfl, rfl, by kernel_rfl⟩⟩ ⟨⟨_, rfl, rfl, rfl, rfl, by kernel_rfl⟩⟩ ⟨⟨_, rfl, rfl, rfl, rfl, by kernel_rfl⟩⟩ ⟨⟨_, rfl, rfl, rfl, rfl, by kernel_rfl⟩⟩ ⟨⟨_, rfl, rfl, rfl, rfl, by kernel_rfl⟩⟩ ⟨⟨_, rfl, rfl, rfl, rfl, by kernel_rfl⟩⟩ ⟨⟨_, rfl, rfl, rfl, rfl, by kernel_rfl⟩⟩ ⟨⟨_, rfl, rfl, rfl, rfl, by kernel_rfl⟩⟩ ⟨⟨_, rfl, rfl, rfl, rfl, by kernel_rfl⟩⟩ ⟨⟨_, rfl, rfl, rfl, rfl, by kernel_rfl⟩⟩ ⟨⟨_, rfl, rfl, rfl, rfl, by kernel_rfl⟩⟩ ⟨⟨_, rfl, rfl, rfl, rfl, by kernel_rfl⟩⟩ ⟨⟨_, rfl, rfl, rfl, rfl, by kernel_rfl⟩⟩ ⟨⟨_, rfl, rfl, rfl, rfl, by kernel_rfl⟩⟩ ⟨⟨_, rfl, rfl, rfl, rfl, by kernel_rfl⟩⟩ ⟨⟨_, rfl, rfl, rfl, rfl, by kernel_rfl⟩⟩ ⟨⟨_, rfl, rfl, rfl, rfl, by kernel_rfl⟩⟩ ⟨⟨_, rfl, rfl, rfl, rfl, by kernel_rfl⟩⟩ ⟨⟨_, rfl, rfl, rfl, rfl, by kernel_rfl⟩⟩ ⟨⟨_, rfl, rfl, rfl, rfl, by kernel_rfl⟩⟩ ⟨⟨_, rfl, rfl, rfl, rfl, by kernel_rfl⟩⟩ ⟨⟨_, rfl, rfl, rfl, rfl, by kernel_rfl⟩⟩ ⟨⟨_, rfl, rfl, rfl, rfl, by kernel_rfl⟩⟩ ⟨⟨_, rfl, rfl, rfl, rfl, by kernel_rfl⟩⟩ ⟨⟨_, rfl, rfl, rfl, rfl, by kernel_rfl⟩⟩ ⟨⟨_, rfl, rfl, rfl, rfl, by kernel_rfl⟩⟩ ⟨⟨_, rfl, rfl, rfl, rfl, by kernel_rfl⟩⟩ ⟨⟨_, rfl, rfl, rfl, rfl, by kernel_rfl⟩⟩ ⟨⟨_, rfl, rfl, rfl, rfl, by kernel_rfl⟩⟩ ⟨⟨_, rfl, rfl, rfl, rfl, by kernel_rfl⟩⟩ ⟨⟨_, rfl, rfl, rfl, rfl, by kernel_rfl⟩⟩ ⟨⟨_, rfl, rfl, rfl, rfl, by kernel_rfl⟩⟩ ⟨⟨_, rfl, rfl, rfl, rfl, by kernel_rfl⟩⟩ ⟨⟨_, rfl, rfl, rfl, rfl, by kernel_rfl⟩⟩ ⟨⟨_, rfl, rfl, rfl, rfl, by kernel_rfl⟩⟩ ⟨⟨_, rfl, rfl, rfl, rfl, by kernel_rfl⟩⟩ ?_ ?_
  · refine ⟨rfl, rfl, hb3.trans ((hal.mono hb3.size)), ⟨w2.heap.size, x, rfl, Lies.new w2 _ _, (HI.out.next (CG.of_below hal)).lower HB1.out.size⟩, fun b hb => ?_⟩
    exact absurd hb (by show undef ≠ _; intro h; cases h)
  · intro a w3 hB hT
    refine ‹∀ (a : Act) (w : World), Code.wp Tryz.prog Code.ret _ a w → _› a w3 ?_
    obtain ⟨b, hb0, hb4⟩ := (hT 35 (by decide) : Sd.holds w.heap.size a w3 (.mv 0))
    obtain ⟨hlb, n, D, hD, _, hG⟩ := hB.mp b hb4
    refine wp_ret ⟨hB.df, .map (some b), ?_, b, rfl, ⟨hlb, n, D, hD, hG, fun k K hk => ?_⟩, hB.below⟩
    · have : a.tmps.getD 0 undef = .map (some b) := hb0
      rw [Array.getD_eq_getD_getElem?] at this
      simp [results, Tryz.results111, go_sem]
      exact this
    · rcases table_some hk with rfl | rfl | rfl | rfl | rfl | rfl | rfl | rfl | rfl
      · exact ins_has (hT 2 (by decide) : Sd.holds w.heap.size a w3 (.ins 1)) hb4 hD
      · exact ins_has (hT 4 (by decide) : Sd.holds w.heap.size a w3 (.ins 2)) hb4 hD
      · exact ins_has (hT 6 (by decide) : Sd.holds w.heap.size a w3 (.ins 5)) hb4 hD
      · exact ins_has (hT 14 (by decide) : Sd.holds w.heap.size a w3 (.ins 6)) hb4 hD
      · exact ins_has (hT 16 (by decide) : Sd.holds w.heap.size a w3 (.ins 12)) hb4 hD
      · exact ins_has (hT 22 (by decide) : Sd.holds w.heap.size a w3 (.ins 15)) hb4 hD
      · exact ins_has (hT 24 (by decide) : Sd.holds w.heap.size a w3 (.ins 16)) hb4 hD
      · exact ins_has (hT 26 (by decide) : Sd.holds w.heap.size a w3 (.ins 28)) hb4 hD
      · exact ins_has (hT 33 (by decide) : Sd.holds w.heap.size a w3 (.ins 33)) hb4 hD
end Go.Proofs.YtodedbokeodmkaaGreat
