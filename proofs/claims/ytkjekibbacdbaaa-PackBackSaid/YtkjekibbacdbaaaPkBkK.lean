/-
  A law's own three rows, of places, of ends, of names, beside a packer; append of one more as a step of a region that draws. Conditions: as each theorem names them.
-/
import Derived.Test.YtkjekibbacdbaaaPkLenK
import Derived.Test.YtkjekibbacdbaaaPkGrow
import Derived.Test.YtkjekibbacdbaaaTKit
import Derived.Deep.RegionLaw
import Derived.Deep.RegionHeld3
namespace Go.Proofs.Ytkjekibbacdbaaa
open Go.RowKit Go.Maps
set_option linter.unusedVariables false

/-- append onto a row that the call owns, as one step of a region that draws. -/
theorem step_append_at {P : Program} {ops : Array Oper} {o : Oper} {a : Act} {w : World} {K : Act → World → Prop} {Q : Exit → Act → World → Prop} {E : Prop} (hgd : o.guard = none) (s x : Operand) (t : TypeId)
    (ho : o.op = .call { callee := .builtin .append, args := #[s, x], argTypes := #[t, t] })
    (base : Nat) (e : TypeId) (i : TypeInfo) (z : Value) (size bytes : Nat) (ht : P.underlying t = some (.slice e)) (hi : P.info? e = some i) (hz : i.zero = some z)
    (hsize : i.size = size) (hby : i.bytes = bytes) (hzs : z.cells.size = size) (hsz : 0 < size)
    (v : Value) (n : Nat) (xs : List Value) (hs : a.eval s = v) (hown : w.ownsRow base e size v n xs)
    (ad : Addr) (m c : Nat) (news : List Value) (hx : a.eval x = .slice (some ad) m c) (hl : news.length = m * size) (hnews : ∀ j u, news[j]? = some u → w.cell? (ad.add j) = some u) (h1 : ∀ u ∈ news, u.oneCell' = true)
    (h63 : n + m ≤ maxLen) (hbytes : (n + m) * bytes ≤ 140737488355328) (hbase : base ≤ w.heap.size)
    (h : ∀ v' w', w'.ownsRow base e size v' (n + m) (xs ++ news) → w.grownBy w' v.ownBlock → (v'.ownBlock = v.ownBlock ∨ v'.ownBlock = some w.heap.size) → K (a.put o.dst v') w') :
    if Region.wanted o (yielded ops a.tmps) = true then Oper.wp P o a w K Q else E := by
  have hw : Region.wanted o (yielded ops a.tmps) = true := by simp [Region.wanted, hgd]
  rw [if_pos hw]
  obtain ⟨v', w', hr, h2, h3, h4, h5⟩ := run_append_own_at (P := P) w base t o.type e i z size bytes ht hi hz hsize hby hzs hsz v n xs hown ad m c news hl hnews h1 h63 hbytes hbase
  unfold Oper.wp execOp
  simp only [ho, resolve, invoke, builtin, Sem.run_bind, Sem.run_pure, Result.andThen_ok, List.map_toArray, List.map_cons, List.map_nil, hs, hx, hr]
  exact h v' w' h2 h3 h5

/-- A packer, rows of places, of ends, of names, apart from it and from one another; a cell of an argument. -/
structure B3 (w0 w : World) (b g : Nat) (F : Nat → Prop) (s : PS) (q0 o0 : Nat) (x : ByteArray) (v1 : Value) (o1 : List Nat) (v2 : Value) (o2 : List Nat) (v3 : Value) (D : List ByteArray) : Prop where
  pk : PK w b F g 65535 s
  r1 : OwnI w b v1 o1
  r2 : OwnI w b v2 o2
  r3 : TOwn 32 w b v3 D
  d1 : ∀ k, v1.ownBlock = some k → ¬ F k
  d2 : ∀ k, v2.ownBlock = some k → ¬ F k
  d3 : ∀ k, v3.ownBlock = some k → ¬ F k
  d12 : ∀ k, v1.ownBlock = some k → v2.ownBlock ≠ some k
  arg : w.cell? ⟨q0, o0, none⟩ = some (.string x)
  lt : q0 < b
  bel : Below w0.heap.size w0 w
  leb : w0.heap.size ≤ b
theorem TOwn.cur {w : World} {base : Nat} {te : TypeId} {v : Value} {L : List ByteArray} (h : TOwn te w base v L) {k : Nat} (hk : v.ownBlock = some k) : ∃ cur, w.heap[k]? = some (.cells cur te (0, 0)) := by
  rcases h.2 with ⟨rfl, _⟩ | ⟨g, cap, cur, rfl, hb, hg, _⟩
  · cases hk
  · obtain rfl : g = k := by simpa [Value.ownBlock] using hk
    exact ⟨cur, hg⟩
section
variable {w0 w w' : World} {b g : Nat} {F F' : Nat → Prop} {s s' : PS} {q0 o0 : Nat} {x : ByteArray} {v1 v2 v3 v' : Value} {o1 o2 : List Nat} {D : List ByteArray}
theorem B3.base_le (h : B3 w0 w b g F s q0 o0 x v1 o1 v2 o2 v3 D) : b ≤ w.heap.size := h.pk.base_le
theorem B3.t13 (h : B3 w0 w b g F s q0 o0 x v1 o1 v2 o2 v3 D) {k : Nat} (hk : v3.ownBlock = some k) : v1.ownBlock ≠ some k ∧ v2.ownBlock ≠ some k := by
  obtain ⟨cur, hc⟩ := h.r3.cur hk
  refine ⟨fun e => ?_, fun e => ?_⟩
  · obtain ⟨_, _, cur', hc'⟩ := h.r1.block e
    exact Lies.ne hc hc' (by decide) rfl
  · obtain ⟨_, _, cur', hc'⟩ := h.r2.block e
    exact Lies.ne hc hc' (by decide) rfl
/-- What lay stays. -/
theorem B3.below (h : B3 w0 w b g F s q0 o0 x v1 o1 v2 o2 v3 D) (hb : Below w.heap.size w w') : B3 w0 w' b g F s q0 o0 x v1 o1 v2 o2 v3 D :=
  ⟨h.pk.next hb, h.r1.same fun k hk => hb.block k (h.r1.block hk).2.1, h.r2.same fun k hk => hb.block k (h.r2.block hk).2.1, h.r3.same fun k hk => hb.block k (h.r3.block hk).2, h.d1, h.d2, h.d3, h.d12, (hb.cell (p := ⟨q0, o0, none⟩) (Nat.lt_of_lt_of_le h.lt h.base_le)).trans h.arg, h.lt, next h.bel hb, h.leb⟩
theorem B3.alloc (h : B3 w0 w b g F s q0 o0 x v1 o1 v2 o2 v3 D) (o : Obj) : B3 w0 (w.alloc o) b g F s q0 o0 x v1 o1 v2 o2 v3 D := h.below ((Below.refl _ _).alloc (Nat.le_refl _) o)
theorem B3.drewN (h : B3 w0 w b g F s q0 o0 x v1 o1 v2 o2 v3 D) (m : Nat) : B3 w0 (w.drewN m) b g F s q0 o0 x v1 o1 v2 o2 v3 D := h.below (below_draws (Below.refl _ _) m)
theorem B3.drew (h : B3 w0 w b g F s q0 o0 x v1 o1 v2 o2 v3 D) : B3 w0 w.drew b g F s q0 o0 x v1 o1 v2 o2 v3 D := h.drewN 1
/-- The packer has been turned. -/
theorem B3.packed (h : B3 w0 w b g F s q0 o0 x v1 o1 v2 o2 v3 D) (hp : PK w' b F' g 65535 s') (hk : Kf b F F' w w') : B3 w0 w' b g F' s' q0 o0 x v1 o1 v2 o2 v3 D := by
  obtain ⟨a1, a2⟩ := at_pk h.r1 h.d1 hk
  obtain ⟨b1, b2⟩ := at_pk h.r2 h.d2 hk
  refine ⟨hp, a1, b1, h.r3.same fun k e => hk.rest k (h.r3.block e).2 (h.d3 k e), a2, b2, fun k e e' => (hk.sub k e').elim (h.d3 k e) (fun e2 => by have := (h.r3.block e).2; omega), h.d12, (hk.below.cell (p := ⟨q0, o0, none⟩) h.lt).trans h.arg, h.lt, h.bel.trans (hk.below.mono h.leb), h.leb⟩
/-- What a step of the region does beside. -/
def Stp (b : Nat) (w w' : World) : Prop := Below b w w' ∧ (∀ c cs, Lies w c 32 cs → Lies w' c 32 cs)
theorem grown_pk (h : B3 w0 w b g F s q0 o0 x v1 o1 v2 o2 v3 D) {v : Value} (hv : ∀ k, v.ownBlock = some k → ¬ F k) (hg : w.grownBy w' v.ownBlock) : PK w' b F g 65535 s :=
  h.pk.kept hg.size fun k hF => hg.block k (h.pk.lt hF).2 (fun e => hv k e.symm hF)
theorem new_apart (h : B3 w0 w b g F s q0 o0 x v1 o1 v2 o2 v3 D) {v : Value} (hv : ∀ k, v.ownBlock = some k → ¬ F k) (hob : v'.ownBlock = v.ownBlock ∨ v'.ownBlock = some w.heap.size) : ∀ k, v'.ownBlock = some k → ¬ F k := fun k hk hF => by
  rcases hob with e | e
  · exact hv k (e ▸ hk) hF
  · rw [e] at hk
    injection hk with hk
    have := (h.pk.lt hF).2
    omega
theorem B3.app1 (h : B3 w0 w b g F s q0 o0 x v1 o1 v2 o2 v3 D) {a : Nat} (h1 : OwnI w' b v' (o1 ++ [a])) (hg : w.grownBy w' v1.ownBlock) (hob : v'.ownBlock = v1.ownBlock ∨ v'.ownBlock = some w.heap.size) :
    B3 w0 w' b g F s q0 o0 x v' (o1 ++ [a]) v2 o2 v3 D ∧ Stp b w w' := by
  have hB : Below b w w' := (Below.refl b w).grown hg h.base_le (fun k hk => (h.r1.block hk).1)
  refine ⟨⟨grown_pk h h.d1 hg, h1, h.r2.same fun k hk => hg.block k (h.r2.block hk).2.1 (fun e => h.d12 k e.symm hk), h.r3.same fun k hk => hg.block k (h.r3.block hk).2 (fun e => (h.t13 hk).1 e.symm), new_apart h h.d1 hob, h.d2, h.d3, fun k hk e => ?_, (hB.cell (p := ⟨q0, o0, none⟩) h.lt).trans h.arg, h.lt, h.bel.trans (hB.mono h.leb), h.leb⟩, hB, fun c cs hc => hc.grown hg fun e => ?_⟩
  · rcases hob with e' | e'
    · exact h.d12 k (e' ▸ hk) e
    · rw [e'] at hk
      injection hk with hk
      have := (h.r2.block e).2.1
      omega
  · obtain ⟨_, _, cur, hc'⟩ := h.r1.block e.symm
    exact Lies.ne hc hc' (by decide) rfl
theorem B3.app2 (h : B3 w0 w b g F s q0 o0 x v1 o1 v2 o2 v3 D) {a : Nat} (h1 : OwnI w' b v' (o2 ++ [a])) (hg : w.grownBy w' v2.ownBlock) (hob : v'.ownBlock = v2.ownBlock ∨ v'.ownBlock = some w.heap.size) :
    B3 w0 w' b g F s q0 o0 x v1 o1 v' (o2 ++ [a]) v3 D ∧ Stp b w w' := by
  have hB : Below b w w' := (Below.refl b w).grown hg h.base_le (fun k hk => (h.r2.block hk).1)
  refine ⟨⟨grown_pk h h.d2 hg, h.r1.same fun k hk => hg.block k (h.r1.block hk).2.1 (fun e => h.d12 k hk e.symm), h1, h.r3.same fun k hk => hg.block k (h.r3.block hk).2 (fun e => (h.t13 hk).2 e.symm), h.d1, new_apart h h.d2 hob, h.d3, fun k hk e => ?_, (hB.cell (p := ⟨q0, o0, none⟩) h.lt).trans h.arg, h.lt, h.bel.trans (hB.mono h.leb), h.leb⟩, hB, fun c cs hc => hc.grown hg fun e => ?_⟩
  · rcases hob with e' | e'
    · exact h.d12 k hk (e' ▸ e)
    · rw [e'] at e
      injection e with e
      have := (h.r1.block hk).2.1
      omega
  · obtain ⟨_, _, cur, hc'⟩ := h.r2.block e.symm
    exact Lies.ne hc hc' (by decide) rfl
theorem B3.app3 (h : B3 w0 w b g F s q0 o0 x v1 o1 v2 o2 v3 D) {y : ByteArray} (h1 : TOwn 32 w' b v' (D ++ [y])) (hg : w.grownBy w' v3.ownBlock) (hob : v'.ownBlock = v3.ownBlock ∨ v'.ownBlock = some w.heap.size) :
    B3 w0 w' b g F s q0 o0 x v1 o1 v2 o2 v' (D ++ [y]) ∧ Below b w w' := by
  have hB : Below b w w' := (Below.refl b w).grown hg h.base_le (fun k hk => (h.r3.block hk).1)
  exact ⟨⟨grown_pk h h.d3 hg, h.r1.same fun k hk => hg.block k (h.r1.block hk).2.1 (fun e => (h.t13 e.symm).1 hk), h.r2.same fun k hk => hg.block k (h.r2.block hk).2.1 (fun e => (h.t13 e.symm).2 hk), h1, h.d1, h.d2, new_apart h h.d3 hob, h.d12, (hB.cell (p := ⟨q0, o0, none⟩) h.lt).trans h.arg, h.lt, h.bel.trans (hB.mono h.leb), h.leb⟩, hB⟩
end
theorem Lies.newAt (w : World) {g : Nat} (t : TypeId) (cs : Array Value) (h : g = w.heap.size) : Lies (w.alloc (.cells cs t)) g t cs := by
  subst h
  exact Lies.new w t cs
theorem Lies.cell0 {w : World} {g : Nat} {t : TypeId} {u : Value} (h : Lies w g t #[u]) : w.cell? ⟨g, 0, none⟩ = some u := h.cell 0
theorem infoIb : (Try.prog.info? 3).map (fun i => (i.zero, i.size, i.bytes)) = some (some (.int .i64 0), 1, 8) := by kernel_rfl
theorem infoNb : (Try.prog.info? 32).map (fun i => (i.zero, i.size, i.bytes)) = some (some (.string ⟨#[]⟩), 1, 16) := by kernel_rfl
theorem one_cell {w : World} {c : Nat} {u : Value} (h : w.cell? ⟨c, 0, none⟩ = some u) : ∀ j y, [u][j]? = some y → w.cell? ((⟨c, 0, none⟩ : Addr).add j) = some y := by
  intro j y hj
  rcases j with _ | j
  · simp only [List.getElem?_cons_zero, Option.some.injEq] at hj
    subst hj
    have e : (⟨c, 0, none⟩ : Addr).add 0 = ⟨c, 0, none⟩ := by unfold Addr.add; split <;> simp_all
    rw [e]
    exact h
  · simp at hj
section
variable {ops : Array Oper} {o : Oper} {a : Act} {w0 w : World} {K : Act → World → Prop} {Q : Exit → Act → World → Prop} {E : Prop}
variable {b g : Nat} {F : Nat → Prop} {s : PS} {q0 o0 : Nat} {x : ByteArray} {v1 v2 v3 : Value} {o1 o2 : List Nat} {D : List ByteArray}
theorem stepB1 (hgd : o.guard = none) (sl el : Operand) (ho : o.op = .call { callee := .builtin .append, args := #[sl, el], argTypes := #[29, 29] }) (h : B3 w0 w b g F s q0 o0 x v1 o1 v2 o2 v3 D) (hs : a.eval sl = v1) (c n : Nat) (hx : a.eval el = .slice (some ⟨c, 0, none⟩) 1 1) (hc : w.cell? ⟨c, 0, none⟩ = some (.int .i64 n)) (hlen : o1.length ≤ 100000)
    (hK : ∀ A cap w', B3 w0 w' b g F s q0 o0 x (.slice A (o1 ++ [n]).length cap) (o1 ++ [n]) v2 o2 v3 D → Stp b w w' → K (a.put o.dst (.slice A (o1 ++ [n]).length cap)) w') :
    if Region.wanted o (yielded ops a.tmps) = true then Oper.wp Try.prog o a w K Q else E := by
  obtain ⟨i0, hi, hz0, hz1, hz2⟩ := info_parts infoIb
  refine step_append_at hgd sl el 29 ho b 3 i0 (.int .i64 0) 1 8 Try.underlying29 hi hz0 hz1 hz2 rfl (by decide) v1 o1.length (o1.map I64) hs h.r1 ⟨c, 0, none⟩ 1 1 [I64 n] hx rfl (one_cell hc) (fun u hu => by rw [List.mem_singleton.1 hu]; rfl) (by unfold maxLen; omega) (by omega) h.base_le ?_
  intro v' w' h1 hg hob
  have ho' : OwnI w' b v' (o1 ++ [n]) := by unfold OwnI; rw [List.length_append, List.map_append]; exact h1
  obtain ⟨hB, hS⟩ := h.app1 ho' hg hob
  obtain ⟨A, cap, rfl, _⟩ := ho'.shape
  exact hK A cap w' hB hS
theorem stepB2 (hgd : o.guard = none) (sl el : Operand) (ho : o.op = .call { callee := .builtin .append, args := #[sl, el], argTypes := #[29, 29] }) (h : B3 w0 w b g F s q0 o0 x v1 o1 v2 o2 v3 D) (hs : a.eval sl = v2) (c n : Nat) (hx : a.eval el = .slice (some ⟨c, 0, none⟩) 1 1) (hc : w.cell? ⟨c, 0, none⟩ = some (.int .i64 n)) (hlen : o2.length ≤ 100000)
    (hK : ∀ A cap w', B3 w0 w' b g F s q0 o0 x v1 o1 (.slice A (o2 ++ [n]).length cap) (o2 ++ [n]) v3 D → Stp b w w' → K (a.put o.dst (.slice A (o2 ++ [n]).length cap)) w') :
    if Region.wanted o (yielded ops a.tmps) = true then Oper.wp Try.prog o a w K Q else E := by
  obtain ⟨i0, hi, hz0, hz1, hz2⟩ := info_parts infoIb
  refine step_append_at hgd sl el 29 ho b 3 i0 (.int .i64 0) 1 8 Try.underlying29 hi hz0 hz1 hz2 rfl (by decide) v2 o2.length (o2.map I64) hs h.r2 ⟨c, 0, none⟩ 1 1 [I64 n] hx rfl (one_cell hc) (fun u hu => by rw [List.mem_singleton.1 hu]; rfl) (by unfold maxLen; omega) (by omega) h.base_le ?_
  intro v' w' h1 hg hob
  have ho' : OwnI w' b v' (o2 ++ [n]) := by unfold OwnI; rw [List.length_append, List.map_append]; exact h1
  obtain ⟨hB, hS⟩ := h.app2 ho' hg hob
  obtain ⟨A, cap, rfl, _⟩ := ho'.shape
  exact hK A cap w' hB hS
theorem stepB3 (hgd : o.guard = none) (sl el : Operand) (ho : o.op = .call { callee := .builtin .append, args := #[sl, el], argTypes := #[22, 22] }) (h : B3 w0 w b g F s q0 o0 x v1 o1 v2 o2 v3 D) (hs : a.eval sl = v3) (c : Nat) (y : ByteArray) (hx : a.eval el = .slice (some ⟨c, 0, none⟩) 1 1) (hc : w.cell? ⟨c, 0, none⟩ = some (.string y)) (hlen : D.length ≤ 100000)
    (hK : ∀ A cap w', B3 w0 w' b g F s q0 o0 x v1 o1 v2 o2 (.slice A (D ++ [y]).length cap) (D ++ [y]) → Below b w w' → K (a.put o.dst (.slice A (D ++ [y]).length cap)) w') :
    if Region.wanted o (yielded ops a.tmps) = true then Oper.wp Try.prog o a w K Q else E := by
  obtain ⟨i0, hi, hz0, hz1, hz2⟩ := info_parts infoNb
  refine step_append_at hgd sl el 22 ho b 32 i0 (.string ⟨#[]⟩) 1 16 Try.underlying22 hi hz0 hz1 hz2 rfl (by decide) v3 D.length (D.map Value.string) hs h.r3 ⟨c, 0, none⟩ 1 1 [.string y] hx rfl (one_cell hc) (fun u hu => by rw [List.mem_singleton.1 hu]; rfl) (by unfold maxLen; omega) (by omega) h.base_le ?_
  intro v' w' h1 hg hob
  have ho' : TOwn 32 w' b v' (D ++ [y]) := by unfold TOwn; rw [List.length_append, List.map_append]; exact h1
  obtain ⟨hB, hS⟩ := h.app3 ho' hg hob
  obtain ⟨A, cap, rfl⟩ := ho'.shape
  exact hK A cap w' hB hS
end
end Go.Proofs.Ytkjekibbacdbaaa
