/-
  A range over a function: the caller's law over a contract of my own, by which iterators may range over functions themselves, keep boxes of their own between two rounds, be method values, or be ended by the caller alone. Conditions: as each theorem names them. Nothing of any program is named here.
-/
import Derived.RangeFuncNested
import Derived.RangeFuncBox
import Derived.RangeFuncCalls
import Derived.RangeFuncBound
namespace Go.Proofs.Ytabhapohkohbmaa
open Go Go.RowKit

theorem ownFrom_up {β : Type} {B B' : Nat} {I : β → World → Prop} (h : OwnFrom B I) (hB : B ≤ B') : OwnFrom B' I := fun s W W' row hs hg hr => h s W W' row hs hg fun r e => ⟨Nat.le_trans hB (hr r e).1, (hr r e).2⟩

/-- Blocks that lay and are not among T lie as they lay, and are not among T' either. -/
def Kpt (T T' : Nat → Prop) (W W' : World) : Prop := ∀ b, b < W.heap.size → ¬ T b → W'.heap[b]? = W.heap[b]? ∧ ¬ T' b
section
variable {T T' T'' : Nat → Prop} {W W' W'' : World}
theorem Kpt.refl (T : Nat → Prop) (W : World) : Kpt T T W W := fun _ _ h => ⟨rfl, h⟩
theorem Kpt.trans (h : Kpt T T' W W') (k : Kpt T' T'' W' W'') : Kpt T T'' W W'' := fun b hb ht => by
  obtain ⟨e1, n1⟩ := h b hb ht
  have hb' : b < W'.heap.size := by
    rw [Array.getElem?_eq_getElem hb] at e1
    exact (Array.getElem?_eq_some_iff.1 e1).1
  obtain ⟨e2, n2⟩ := k b hb' n1
  exact ⟨e2.trans e1, n2⟩
theorem Kpt.of_grown {row : Option Nat} (hg : W.grownBy W' row) (hr : ∀ k, row = some k → k < W.heap.size → T k) : Kpt T T W W' := fun b hb ht => ⟨hg.block b hb fun e => ht (hr b e.symm hb), ht⟩
theorem Kpt.of_below {k : Nat} (hb : Below k W W') (hk : ∀ b, k ≤ b → b < W.heap.size → T b) : Kpt T T W W' := fun b hlt ht => ⟨hb.block b (Nat.lt_of_not_le fun h => ht (hk b h hlt)), ht⟩
theorem Kpt.below (hb : Below W.heap.size W W') : Kpt T T W W' := .of_below hb fun _ h1 h2 => absurd h2 (Nat.not_lt.2 h1)
theorem Kpt.setCell {p : Addr} (h : T p.block) (v : Value) : Kpt T T W (W.setCell p v) := fun _ _ ht => ⟨Below.heap_setCell W p v _ fun e => ht (e ▸ h), ht⟩
theorem Kpt.put {k : Nat} (h : T k) (o : Obj) : Kpt T T W (W.putObj k o) := fun _ _ ht => ⟨World.putObj_heap_other fun e => ht (e ▸ h), ht⟩
/-- New blocks may come to T. -/
theorem Kpt.more (h : Kpt T T W W') (hs : ∀ b, T' b → T b ∨ W.heap.size ≤ b) : Kpt T T' W W' := fun b hb ht => ⟨(h b hb ht).1, fun h' => (hs b h').elim ht fun hle => absurd hb (Nat.not_lt.2 hle)⟩
theorem Kpt.alloc (T : Nat → Prop) (W : World) (o : Obj) : Kpt T T W (W.alloc o) := .of_grown (World.grownBy_alloc W o none) fun _ e => by cases e
theorem Kpt.at (h : Kpt T T' W W') {b : Nat} {o : Obj} (ho : W.heap[b]? = some o) (ht : ¬ T b) : W'.heap[b]? = some o ∧ ¬ T' b :=
  ⟨(h b (Array.getElem?_eq_some_iff.1 ho).1 ht).1.trans ho, (h b (Array.getElem?_eq_some_iff.1 ho).1 ht).2⟩
end

/-- The caller's blocks where it keeps a slice of its own in a box: the box and the slice's block. -/
def TBox (B : Nat) (v : Value) (b : Nat) : Prop := b = B ∨ v.ownBlock = some b
/-- 'out = append(out, ..)' turns those alone. -/
theorem kpt_append {W w1 : World} {B : Nat} {v v' : Value} {tmp : Obj} (hgrow : (W.alloc tmp).grownBy w1 v.ownBlock) (hob : v'.ownBlock = v.ownBlock ∨ v'.ownBlock = some (W.alloc tmp).heap.size) :
    Kpt (TBox B v) (TBox B v') W (w1.setCell ⟨B, 0, none⟩ v') := fun b hb ht => by
  have hne : b ≠ B := fun e => ht (.inl e)
  have hnv : v.ownBlock ≠ some b := fun e => ht (.inr e)
  refine ⟨(Below.heap_setCell w1 ⟨B, 0, none⟩ v' b hne).trans ((hgrow.block b (by rw [World.size_alloc]; omega) (Ne.symm hnv)).trans (Below.heap_alloc W tmp b hb)), fun h => ?_⟩
  rcases h with h | h
  · exact hne h
  · rcases hob with e | e
    · exact hnv (e.symm.trans h)
    · rw [e, World.size_alloc] at h
      injection h with h
      omega
theorem tbox_fresh {W : World} {B base e size k : Nat} {t : TypeId} {u : Value} {v : Value} {xs : List Value} (hB : Boxed W B t u) (hr : W.ownsRow base e size v k xs) : ∀ b, W.heap.size ≤ b → ¬ TBox B v b := by
  rintro b hb (rfl | h)
  · have := hB.lt; omega
  · have := (World.ownsRow.lt hr b h).2; omega

section
variable {F : Fence} {n : Nat} {P : Program} {α : Type}

/-- Where the fence sets no bound on the depth, a round is one at any depth, in a round, too. -/
theorem yield_any {F : Fence} (hd : F.depth = none) {m : Nat} (m' l' : Nat) {P : Program} {l : Nat} {args : Array Value} {W : World} {R : Ending → World → Prop} (h : YieldAt F m P l args W R) : YieldAt (F.inRound l') m' P l args W R := by
  obtain ⟨fn, tmps, assign, body, hy, hf, hr⟩ := h
  exact ⟨fn, tmps, assign, body, hy, hf, fun c cs _ => hr c cs (by simp [Fence.room, hd])⟩

/-- What an iterator's value does when it is ranged over: for whatever the caller keeps (J, over what has come, the blocks T that are the caller's to turn, and the world) that does not speak of loops' own blocks beyond those that lie at its start. Cap: the blocks that the value holds on to, none of which is the caller's to turn. Rd: which x may come behind pre. M: a bound that the caller's own word sets on the rounds, if the iterator wants one. -/
def SeqO (F : Fence) (n : Nat) (P : Program) (g : Nat) (bd lb : Array Value) (encs : α → Array Value) (S Sp : List α → Prop) (Rd : List α → α → Prop) (Cap : Nat → Prop) (M : Option Nat) (w : World) : Prop :=
  ∀ (l : Nat) (J : List α → (Nat → Prop) → World → Prop) (Jx : List α → World → Prop) (T : Nat → Prop) (W : World), Below w.heap.size w W → (∀ T, OwnFrom W.heap.size fun pre W => J pre T W) → OwnFrom W.heap.size Jx →
    (∀ pre T W1, J pre T W1 → ∀ b, W1.heap.size ≤ b → ¬ T b) → (∀ b, Cap b → ¬ T b) →
    (∀ m, M = some m → ∀ pre T W1, J pre T W1 → pre.length ≤ m) →
    (∀ pre x T W1, J pre T W1 → Rd pre x → YieldAt F (n - 1) P l (encs x) W1 fun e W' =>
      (e = .returned (.bool true) ∧ ∃ T', J (pre ++ [x]) T' W' ∧ Kpt T T' W1 W') ∨ (e = .returned (.bool false) ∧ Jx (pre ++ [x]) W' ∧ ∃ T', Kpt T T' W1 W')) →
    J [] T W →
    CallsIn F n P g (bd ++ #[.func (.yield l) #[] #[]] ++ lb) W fun e W' => (∃ v, e = .returned v) ∧ ((∃ xs T', S xs ∧ J xs T' W') ∨ (∃ pre, Sp pre ∧ Jx pre W'))

/-- The loop's two blocks as they lie between two rounds. -/
structure Bks (B : Nat) (r : Loop) (W : World) : Prop where
  rcd : W.heap[B + 1]? = some (.loop r)
  dfr : W.heap[B]? = some (.deferred (some []))
variable {B : Nat} {r : Loop} {W W' : World}
theorem Bks.lt (h : Bks B r W) : B + 1 < W.heap.size := (Array.getElem?_eq_some_iff.1 h.rcd).1
theorem Bks.grown {row : Option Nat} (h : Bks B r W) (hg : W.grownBy W' row) (hr : ∀ k, row = some k → B + 2 ≤ k) : Bks B r W' := by
  have hlt := h.lt
  have key : ∀ k, k < B + 2 → W'.heap[k]? = W.heap[k]? := fun k hk => hg.block k (by omega) (fun e => by have := hr k e.symm; omega)
  exact ⟨(key _ (by omega)).trans h.rcd, (key _ (by omega)).trans h.dfr⟩
theorem Bks.kept {T T' : Nat → Prop} (h : Bks B r W) (hk : Kpt T T' W W') (h0 : ¬ T B) (h1 : ¬ T (B + 1)) : Bks B r W' := ⟨(hk.at h.rcd h1).1, (hk.at h.dfr h0).1⟩
theorem Bks.put (h : Bks B r W) (r' : Loop) : Bks B r' (W.putObj (B + 1) (.loop r')) := ⟨World.putObj_heap_same h.lt, (World.putObj_heap_other (by omega)).trans h.dfr⟩

/-- How a round of the body may end: it goes on; it leaves by a jump. -/
def rndPost (T : Nat → Prop) (I : List α → (Nat → Prop) → World → Prop) (Ix : Code → List α → World → Prop) (xs : List α) (W : World) : Exit → Act → World → Prop
  | .normal, _, W' => ∃ T', Kpt T T' W W' ∧ I xs T' W'
  | .ret, _, W' => ∃ T', Kpt T T' W W' ∧ Ix .ret xs W'
  | .exit id, _, W' => ∃ T', Kpt T T' W W' ∧ Ix (.exit id) xs W'
  | .goto t, _, W' => ∃ T', Kpt T T' W W' ∧ Ix (.goto t) xs W'
  | .panic _, _, _ => False
  | .outgrown, _, _ => False

/-- What the range's law keeps beside the caller's word: its two blocks, and that they are not the caller's. -/
def KpJ (B : Nat) (r : Loop) (I : List α → (Nat → Prop) → World → Prop) (pre : List α) (T : Nat → Prop) (W : World) : Prop :=
  ∃ T0, (∀ b, T b ↔ T0 b ∨ b = B + 1) ∧ ¬ T0 B ∧ ¬ T0 (B + 1) ∧ I pre T0 W ∧ Bks B r W

/-- Blocks that lie as said, none of them the caller's. -/
def Has (E : List (Nat × Obj)) (T : Nat → Prop) (W : World) : Prop := ∀ p ∈ E, W.heap[p.1]? = some p.2 ∧ ¬ T p.1
theorem Has.kept {E : List (Nat × Obj)} {T T' : Nat → Prop} {W W' : World} (h : Has E T W) (hk : Kpt T T' W W') : Has E T' W' := fun p hp => hk.at (h p hp).1 (h p hp).2
theorem has_own {β : Type} {E : List (Nat × Obj)} {B : Nat} (T : Nat → Prop) (hE : ∀ p ∈ E, p.1 < B) : OwnFrom B fun (_ : β) W => Has E T W := fun _ _ _ _ hs hg hr p hp =>
  ⟨(hg.block p.1 (Array.getElem?_eq_some_iff.1 (hs p hp).1).1 fun e => by have := (hr p.1 e.symm).1; have := hE p hp; omega).trans (hs p hp).1, (hs p hp).2⟩
theorem Has.put {E : List (Nat × Obj)} {T : Nat → Prop} {W : World} (h : Has E T W) {k : Nat} (o : Obj) (hk : ∀ p ∈ E, p.1 ≠ k) : Has E T (W.putObj k o) := fun p hp => ⟨(World.putObj_heap_other (hk p hp)).trans (h p hp).1, (h p hp).2⟩
theorem Has.lt {E : List (Nat × Obj)} {T : Nat → Prop} {W : World} (h : Has E T W) : ∀ p ∈ E, p.1 < W.heap.size := fun p hp => (Array.getElem?_eq_some_iff.1 (h p hp).1).1

/-- **The caller's law.** -/
theorem range_own {g : Operand} {ps : Array Tmp} {assign body : Code} {Q : Exit → Act → World → Prop} {a : Act} {w : World}
    (hro : F.round = none) (h1 : 1 ≤ n) {gf : Nat} {bd lb : Array Value} (hg : a.eval g = .func (.func gf) bd lb) (hFg : F.fn gf) (eg : ∀ args w, (callFunc gf args).run P w = .ok (.enter gf args) w)
    {encs : α → Array Value} {S Sp : List α → Prop} {Rd : List α → α → Prop} {Cap : Nat → Prop} {M : Option Nat} {w0 : World} (hseq : SeqO F (n - 1) P gf bd lb encs S Sp Rd Cap M w0)
    (hb0 : Below w0.heap.size w0 w) (hcap : ∀ b, Cap b → b < w.heap.size) (hps : ∀ x, (encs x).size = ps.size)
    (I : List α → (Nat → Prop) → World → Prop) (Ix : Code → List α → World → Prop) (hI : ∀ T, OwnFrom w.heap.size fun pre W => I pre T W) (hIx : ∀ c, OwnFrom w.heap.size (Ix c)) (hM : ∀ m, M = some m → ∀ pre T W, I pre T W → pre.length ≤ m)
    (hIT : ∀ pre T W, I pre T W → ∀ b, W.heap.size ≤ b → ¬ T b) (T : Nat → Prop) (hTc : ∀ b, Cap b → ¬ T b) (h0 : I [] T w) (Ax : α → Act → World → Prop) (hAx : ∀ x a', OwnFrom w.heap.size (fun (_ : Unit) W => Ax x a' W))
    (hassign : ∀ (l : Nat) (pre : List α) (x : α) (T : Nat → Prop) (W : World) (K : Act → World → Prop), I pre T W → (∀ a' W' T', Kpt T T' W W' → I pre T' W' → Ax x a' W' → K a' W') →
      assign.wpIn (F.inRound l) (n - 1 - 1) P (Exit.then K (fun _ _ _ => False)) { tmps := (ps.zip (encs x)).foldl (fun t (p, v) => t.setIfInBounds p v) a.tmps, defers := [] } W)
    (hbody : ∀ (l : Nat) (pre : List α) (x : α) (a' : Act) (T : Nat → Prop) (W : World), w.heap.size ≤ l → (∃ r, W.heap[l]? = some (.loop r)) → I pre T W → Ax x a' W → Rd pre x → body.wpIn (F.inRound l) (n - 1 - 1) P (rndPost T I Ix (pre ++ [x]) W) a' W)
    (hdone : ∀ (D : Nat) (xs : List α) (T : Nat → Prop) (W : World), w.heap.size ≤ D → ¬ T D → S xs → I xs T W → W.heap[D]? = some (.deferred (some [])) → Q .normal { a with defers := { target := .collected D, args := #[] } :: a.defers } W)
    (hstop : ∀ (D : Nat) (c : Code) (pre : List α) (W : World), w.heap.size ≤ D → Sp pre → Ix c pre W → W.heap[D]? = some (.deferred (some [])) → c.wpIn F n P Q { a with defers := { target := .collected D, args := #[] } :: a.defers } W) :
    (Code.rangeFunc g ps assign body).wpIn F n P Q a w := by
  have hT := hIT [] T w h0
  refine wpIn_rangeFunc fun fn hfn => ?_
  rw [hro]
  -- the record, by its state and the jump that waits
  let rc : LoopState → Option Code → Loop := fun st pe => { state := st, pending := pe, fn, tmps := a.tmps, params := ps, assign, body, defers := w.heap.size }
  have hsz : ((w.alloc (.deferred (some []))).alloc (.loop (rc .ready none))).heap.size = w.heap.size + 2 := by simp
  have hb1 : Below w.heap.size w ((w.alloc (.deferred (some []))).alloc (.loop (rc .ready none))) := ((Below.refl _ w).alloc (Nat.le_refl _) _).alloc (by simp) _
  have hk1 : Bks w.heap.size (rc .ready none) ((w.alloc (.deferred (some []))).alloc (.loop (rc .ready none))) := by
    refine ⟨?_, (Below.heap_alloc _ _ _ (by simp)).trans (World.alloc_heap_new w _)⟩
    have := World.alloc_heap_new (w.alloc (.deferred (some []))) (.loop (rc .ready none))
    rwa [World.size_alloc] at this
  have hi1 := (hI T).alloc (.loop (rc .ready none)) ((hI T).alloc (.deferred (some [])) h0)
  revert hsz hb1 hk1 hi1
  generalize hW1 : (w.alloc (.deferred (some []))).alloc (.loop (rc .ready none)) = W1
  intro hsz hb1 hk1 hi1
  have hle : w.heap.size ≤ W1.heap.size := by omega
  have hlb : w.heap.size ≤ w.heap.size + 1 := Nat.le_succ _
  refine ⟨w.heap.size + 1, [{ target := .collected w.heap.size, args := #[] }], W1, { target := .fn (.func gf) lb, args := bd ++ #[.func (.yield (w.heap.size + 1)) #[] #[]] }, W1, gf,
    bd ++ #[.func (.yield (w.heap.size + 1)) #[] #[]] ++ lb, W1, by rw [← hW1]; exact run_enterLoop_outer _ _ _ _ _, by simp only [resolve, hg]; simp [go_sem], ?_, by simp [invoke, go_sem, eg], fun _ => h1, ?_⟩
  · intro f' hf'
    simp [Target.leads] at hf'
    rw [← hf']
    exact hFg
  refine (hseq (w.heap.size + 1) (KpJ w.heap.size (rc .ready none) I) (fun pre W => ∃ c, Ix c pre W ∧ Bks w.heap.size (rc .done (some c)) W) (fun b => T b ∨ b = w.heap.size + 1) W1 (hb0.trans (hb1.mono hb0.size))
    (fun T' s A C row hs hg' hr => ?_) (fun s A C row hs hg' hr => ?_) (fun pre T' W hW b hb h => ?_) (fun b hb h => ?_) (fun m hm pre T' W hW => ?_) ?_
    ⟨T, fun _ => Iff.rfl, hT _ (Nat.le_refl _), hT _ hlb, hi1, hk1⟩).mono ?_
  · obtain ⟨T0, e, n0, n1, hi, hk⟩ := hs
    exact ⟨T0, e, n0, n1, ownFrom_up (hI T0) hle s A C row hi hg' hr, hk.grown hg' fun k e => by have := (hr k e).1; omega⟩
  · obtain ⟨c, hc, hk⟩ := hs
    exact ⟨c, ownFrom_up (hIx c) hle s A C row hc hg' hr, hk.grown hg' fun k e => by have := (hr k e).1; omega⟩
  · obtain ⟨T0, e, _, _, hi, hk⟩ := hW
    rcases (e b).1 h with h | h
    · exact hIT pre T0 W hi b hb h
    · have := hk.lt; omega
  · rcases h with h | h
    · exact hTc b hb h
    · have := hcap b hb; omega
  · obtain ⟨T0, _, _, _, hi, _⟩ := hW
    exact hM m hm pre T0 W hi
  · -- a round
    rintro pre x Tx W ⟨T0, eT, n0, n1, hi, hk⟩ hlen
    have hy := run_yield (P := P) (args := encs x) hk.rcd (hps x)
    refine ⟨fn, _, assign, body, hy, roundIn_of_wpIn hfn (hassign _ pre x T0 W _ hi ?_)⟩
    clear hy
    intro a' Wa Ta hkf hia hax
    have hka := hk.kept hkf n0 n1
    have m0 := (hkf.at hk.dfr n0).2
    have m1 := (hkf.at hk.rcd n1).2
    refine ⟨_, run_beginRound hka.rcd rfl, ?_⟩
    have hkb := hka.put { rc .ready none with state := .busy }
    refine wpIn_mono (hbody _ pre x a' Ta _ hlb ⟨_, hkb.rcd⟩ ((hI Ta).putObj _ hia hlb hka.rcd rfl) ((hAx x a').putObj (s := ()) _ hax hlb hka.rcd rfl) hlen) ?_
    rintro e a3 W3 hp
    -- from the round's start to behind its body, by the caller's blocks and the record
    have whole : ∀ (T3 : Nat → Prop) (o : Obj), Kpt Ta T3 (Wa.putObj (w.heap.size + 1) (.loop { rc .ready none with state := .busy })) W3 →
        Kpt Tx (fun b => T3 b ∨ b = w.heap.size + 1) W (W3.putObj (w.heap.size + 1) o) := fun T3 o h3 b hb ht => by
      rw [eT] at ht
      have ht0 : ¬ T0 b := fun h => ht (.inl h)
      have htl : b ≠ w.heap.size + 1 := fun h => ht (.inr h)
      obtain ⟨e1, q1⟩ := hkf b hb ht0
      have hba : b < Wa.heap.size := by
        rw [Array.getElem?_eq_getElem hb] at e1
        exact (Array.getElem?_eq_some_iff.1 e1).1
      obtain ⟨e2, q2⟩ := h3 b (by rw [World.putObj_size]; exact hba) q1
      refine ⟨(World.putObj_heap_other htl).trans (e2.trans ((World.putObj_heap_other htl).trans e1)), fun h => h.elim q2 htl⟩
    have leave : ∀ (c : Code) (T3 : Nat → Prop), Kpt Ta T3 (Wa.putObj (w.heap.size + 1) (.loop { rc .ready none with state := .busy })) W3 → Ix c (pre ++ [x]) W3 →
        ∃ v w', (Instr.endRound (w.heap.size + 1) (some c)).run P W3 = .ok v w' ∧ (((Ending.returned v = .returned (.bool true)) ∧ ∃ T', KpJ w.heap.size (rc .ready none) I (pre ++ [x]) T' w' ∧ Kpt Tx T' W w') ∨ (Ending.returned v = .returned (.bool false) ∧ (∃ c, Ix c (pre ++ [x]) w' ∧ Bks w.heap.size (rc .done (some c)) w') ∧ ∃ T', Kpt Tx T' W w')) := fun c T3 hf hx => by
      have hk3 := hkb.kept hf m0 m1
      exact ⟨_, _, run_endRound (some c) hk3.rcd, .inr ⟨rfl, ⟨c, (hIx c).putObj _ hx hlb hk3.rcd rfl, hk3.put (rc .done (some c))⟩, _, whole T3 _ hf⟩⟩
    cases e with
    | normal =>
      obtain ⟨T3, hf, hi3⟩ := hp
      have hk3 := hkb.kept hf m0 m1
      exact ⟨_, _, run_endRound none hk3.rcd, .inl ⟨rfl, _, ⟨T3, fun _ => Iff.rfl, (hf.at hkb.dfr m0).2, (hf.at hkb.rcd m1).2, (hI T3).putObj _ hi3 hlb hk3.rcd rfl, hk3.put (rc .ready none)⟩, whole T3 _ hf⟩⟩
    | ret => obtain ⟨T3, hf, hx⟩ := hp; exact leave _ T3 hf hx
    | exit id => obtain ⟨T3, hf, hx⟩ := hp; exact leave _ T3 hf hx
    | goto t => obtain ⟨T3, hf, hx⟩ := hp; exact leave _ T3 hf hx
    | panic ch => exact hp.elim
    | outgrown => exact hp.elim
  · -- behind it
    rintro e W2 ⟨⟨v, rfl⟩, ⟨xs, Tx, hS, T0, eT, n0, n1, hi, hk⟩ | ⟨pre, hSp, c, hi, hk⟩⟩
    · exact ⟨none, _, run_endLoop hk.rcd (by simp [rc]), hdone _ xs T0 _ (Nat.le_refl _) n0 hS ((hI T0).putObj _ hi hlb hk.rcd rfl) (hk.put _).dfr⟩
    · exact ⟨some c, _, run_endLoop hk.rcd (by simp [rc]), hstop _ c pre _ (Nat.le_refl _) hSp ((hIx c).putObj _ hi hlb hk.rcd rfl) (hk.put _).dfr⟩
/-- The same, where the assignment to the loop's left sides makes no memory. -/
theorem range_own1 {g : Operand} {ps : Array Tmp} {assign body : Code} {Q : Exit → Act → World → Prop} {a : Act} {w : World}
    (hro : F.round = none) (h1 : 1 ≤ n) {gf : Nat} {bd lb : Array Value} (hg : a.eval g = .func (.func gf) bd lb) (hFg : F.fn gf) (eg : ∀ args w, (callFunc gf args).run P w = .ok (.enter gf args) w)
    {encs : α → Array Value} {S Sp : List α → Prop} {Rd : List α → α → Prop} {Cap : Nat → Prop} {M : Option Nat} {w0 : World} (hseq : SeqO F (n - 1) P gf bd lb encs S Sp Rd Cap M w0)
    (hb0 : Below w0.heap.size w0 w) (hcap : ∀ b, Cap b → b < w.heap.size) (hps : ∀ x, (encs x).size = ps.size)
    (I : List α → (Nat → Prop) → World → Prop) (Ix : Code → List α → World → Prop) (hI : ∀ T, OwnFrom w.heap.size fun pre W => I pre T W) (hIx : ∀ c, OwnFrom w.heap.size (Ix c)) (hM : ∀ m, M = some m → ∀ pre T W, I pre T W → pre.length ≤ m)
    (hIT : ∀ pre T W, I pre T W → ∀ b, W.heap.size ≤ b → ¬ T b) (T : Nat → Prop) (hTc : ∀ b, Cap b → ¬ T b) (h0 : I [] T w) (a₁ : α → Act)
    (hassign : ∀ (l : Nat) (x : α) (W : World) (K : Act → World → Prop), K (a₁ x) W →
      assign.wpIn (F.inRound l) (n - 1 - 1) P (Exit.then K (fun _ _ _ => False)) { tmps := (ps.zip (encs x)).foldl (fun t (p, v) => t.setIfInBounds p v) a.tmps, defers := [] } W)
    (hbody : ∀ (l : Nat) (pre : List α) (x : α) (T : Nat → Prop) (W : World), w.heap.size ≤ l → (∃ r, W.heap[l]? = some (.loop r)) → I pre T W → Rd pre x → body.wpIn (F.inRound l) (n - 1 - 1) P (rndPost T I Ix (pre ++ [x]) W) (a₁ x) W)
    (hdone : ∀ (D : Nat) (xs : List α) (T : Nat → Prop) (W : World), w.heap.size ≤ D → ¬ T D → S xs → I xs T W → W.heap[D]? = some (.deferred (some [])) → Q .normal { a with defers := { target := .collected D, args := #[] } :: a.defers } W)
    (hstop : ∀ (D : Nat) (c : Code) (pre : List α) (W : World), w.heap.size ≤ D → Sp pre → Ix c pre W → W.heap[D]? = some (.deferred (some [])) → c.wpIn F n P Q { a with defers := { target := .collected D, args := #[] } :: a.defers } W) :
    (Code.rangeFunc g ps assign body).wpIn F n P Q a w :=
  range_own hro h1 hg hFg eg hseq hb0 hcap hps I Ix hI hIx hM hIT T hTc h0 (fun x a' _ => a' = a₁ x) (fun _ _ _ _ _ _ hs _ _ => hs)
    (fun l pre x T W K hi hK => hassign l x W K (hK _ _ T (Kpt.refl _ _) hi rfl)) (fun l pre x a' T W hl hr hi e => by subst e; exact hbody l pre x T W hl hr hi) hdone hstop
end
end Go.Proofs.Ytabhapohkohbmaa
