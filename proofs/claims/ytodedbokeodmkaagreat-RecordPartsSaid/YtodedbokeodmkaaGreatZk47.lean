/-
  Rows of values of more than one cell: as they can be read; as the call owns them, beside a packer; append of one more. Conditions: as each theorem names them. Rows of questions, of records, as a law gets them: opened. Condition: no slice of them is longer than a machine's memory (the form's own reach). Readings one behind the other; what one more of a row comes to: plain mathematics. Conditions as stated. What RecordBack goes through: appends of questions, records, ends beside a packer; elements loaded; the relations of its loops. Conditions: as each theorem names them.
-/
import Derived.Test.YtodedbokeodmkaaGreatZk42
import Derived.Deep.MidRow
import Derived.Deep.Slices
import Derived.Maps.AppendAt
import Derived.OpenShut
import Derived.Carry
import Derived.Test.YtodedbokeodmkaaGreatZk44
import Derived.Test.YtodedbokeodmkaaGreatZk46
namespace Go.Proofs.YtodedbokeodmkaaGreat
open Go.RowKit Go.Maps
set_option linter.unusedVariables false

section
variable {α : Type} {cs : α → List Value} {k : Nat} {t : TypeId}
/-- A slice, as it can be read. -/
structure CRow (cs : α → List Value) (k : Nat) (w : World) (v : Value) (L : List α) : Prop where
  shape : ∃ A cap, v = .slice A L.length cap ∧ L.length ≤ cap ∧ cap ≤ maxLen ∧ ∀ j (h : j < L.length), ∃ g o, A = some ⟨g, o, none⟩ ∧ g < w.heap.size ∧ w.rangeAt g (o + j * k) (cs L[j])
theorem CRow.below {w w' : World} {v : Value} {L : List α} (h : CRow cs k w v L) (hb : Below w.heap.size w w') : CRow cs k w' v L := by
  obtain ⟨A, cap, h1, h2, h3, h4⟩ := h.shape
  exact ⟨A, cap, h1, h2, h3, fun j hj => by
    obtain ⟨g, o, e1, e2, e3⟩ := h4 j hj
    exact ⟨g, o, e1, Nat.lt_of_lt_of_le e2 hb.size, fun i v hv => (hb.cell (p := ⟨g, o + j * k + i, none⟩) e2).trans (e3 i v hv)⟩⟩
theorem CRow.at {w : World} {A : Option Addr} {n cap : Nat} {L : List α} (h : CRow cs k w (.slice A n cap) L) (j : Nat) (hj : j < L.length) : ∃ g o, A = some ⟨g, o, none⟩ ∧ g < w.heap.size ∧ w.rangeAt g (o + j * k) (cs L[j]) := by
  obtain ⟨A', cap', h1, _, _, h4⟩ := h.shape
  injection h1 with h1
  subst h1
  exact h4 j hj

def allC (cs : α → List Value) (D : List α) : List Value := D.flatMap cs
theorem allC_cons (D : List α) (x : α) : allC cs (x :: D) = cs x ++ allC cs D := by simp [allC]
theorem allC_app (D E : List α) : allC cs (D ++ E) = allC cs D ++ allC cs E := by simp [allC]
theorem allC_len (hk : ∀ x, (cs x).length = k) (D : List α) : (allC cs D).length = D.length * k := by
  induction D with
  | nil => simp [allC]
  | cons x D ih => rw [allC_cons, List.length_append, ih, hk, List.length_cons, Nat.succ_mul]; omega
theorem allC_at (hk : ∀ x, (cs x).length = k) (D : List α) (j i : Nat) (h : j < D.length) (hi : i < k) : (allC cs D)[j * k + i]? = (cs D[j])[i]? := by
  have e : allC cs D = allC cs (D.take j) ++ (cs D[j] ++ allC cs (D.drop (j + 1))) := by
    rw [← allC_cons, ← allC_app, ← List.drop_eq_getElem_cons h, List.take_append_drop]
  have hl : (allC cs (D.take j)).length = j * k := by rw [allC_len hk, List.length_take]; congr 1; omega
  rw [e, List.getElem?_append_right (by omega), hl, List.getElem?_append_left (by rw [hk]; omega)]
  congr 1
  omega

/-- The call owns the row D. -/
def OwnC (cs : α → List Value) (k : Nat) (t : TypeId) (w : World) (base : Nat) (v : Value) (D : List α) : Prop := w.ownsRow base t k v D.length (allC cs D)
theorem OwnC.none_ (w : World) (base : Nat) : OwnC cs k t w base (.slice none 0 0) [] := World.ownsRow_nil w base _ k
theorem OwnC.shape {w : World} {base : Nat} {v : Value} {D : List α} (h : OwnC cs k t w base v D) : ∃ A cap, v = .slice A D.length cap ∧ D.length ≤ cap ∧ cap ≤ maxLen := by
  rcases h.2 with ⟨rfl, hn⟩ | ⟨g, cap, cur, rfl, hb, hg, hnc, hcm, _⟩
  · exact ⟨none, 0, by rw [hn], by rw [hn]; exact Nat.le_refl _, Nat.zero_le _⟩
  · exact ⟨_, cap, rfl, hnc, hcm⟩
theorem OwnC.same {w w' : World} {base : Nat} {v : Value} {D : List α} (h : OwnC cs k t w base v D) (hs : ∀ b, v.ownBlock = some b → w'.heap[b]? = w.heap[b]?) : OwnC cs k t w' base v D := by
  refine ⟨h.1, h.2.imp id fun ⟨g, cap, cur, h1, h2, h3, h4⟩ => ⟨g, cap, cur, h1, h2, ?_, h4⟩⟩
  rw [hs g (by rw [h1]; rfl)]
  exact h3
theorem OwnC.block {w : World} {base : Nat} {v : Value} {D : List α} (h : OwnC cs k t w base v D) {b : Nat} (hb : v.ownBlock = some b) : base ≤ b ∧ b < w.heap.size ∧ ∃ cur, w.heap[b]? = some (.cells cur t (0, 0)) := by
  rcases h.2 with ⟨rfl, _⟩ | ⟨g, cap, cur, rfl, hb', hg, _⟩
  · cases hb
  · obtain rfl : g = b := by simpa [Value.ownBlock] using hb
    refine ⟨hb', ?_, cur, hg⟩
    rcases Nat.lt_or_ge g w.heap.size with hlt | hge
    · exact hlt
    · rw [Array.getElem?_eq_none hge] at hg; cases hg
/-- One of those that the call owns. -/
theorem OwnC.at (hk : ∀ x, (cs x).length = k) {w : World} {base n cap : Nat} {A : Option Addr} {D : List α} (h : OwnC cs k t w base (.slice A n cap) D) (j : Nat) (hj : j < D.length) : ∃ g, A = some ⟨g, 0, none⟩ ∧ w.rangeAt g (0 + j * k) (cs D[j]) := by
  rcases h.2 with ⟨_, hn⟩ | ⟨g, cap', cur, h1, hb, hg, hnc, hcm, _⟩
  · rw [hn] at hj; cases hj
  · injection h1 with h1 h2 h3
    subst h1; subst h3
    refine ⟨g, rfl, fun i v hv => ?_⟩
    have hi : i < k := by
      rw [← hk D[j]]
      exact (List.getElem?_eq_some_iff.1 hv).1
    have hjk : j * k + i < D.length * k := by
      have : (j + 1) * k ≤ D.length * k := Nat.mul_le_mul_right k (by omega)
      rw [Nat.succ_mul] at this
      omega
    subst h2
    rw [Nat.zero_add, ← hv, ← allC_at hk D j i hj hi]
    exact World.ownsRow.cellAt h (j * k + i) hjk
end
/-! ### A packer, rows of ends, of questions, of records -/
structure B9 {β γ : Type} (cq : β → List Value) (cr : γ → List Value) (w0 w : World) (b g : Nat) (F : Nat → Prop) (s : PS) (v1 : Value) (E : List Nat) (v2 : Value) (Q : List β) (v3 : Value) (R : List γ) : Prop where
  pk : PK w b F g 65535 s
  r1 : OwnI w b v1 E
  r2 : OwnC cq 3 79 w b v2 Q
  r3 : OwnC cr 16 32 w b v3 R
  d1 : ∀ k, v1.ownBlock = some k → ¬ F k
  d2 : ∀ k, v2.ownBlock = some k → ¬ F k
  d3 : ∀ k, v3.ownBlock = some k → ¬ F k
  bel : Below w0.heap.size w0 w
  leb : w0.heap.size ≤ b
section
variable {β γ : Type} {cq : β → List Value} {cr : γ → List Value} {w0 w w' : World} {b g : Nat} {F F' : Nat → Prop} {s s' : PS} {v1 v2 v3 v' : Value} {E : List Nat} {Q : List β} {R : List γ}
theorem B9.base_le (h : B9 cq cr w0 w b g F s v1 E v2 Q v3 R) : b ≤ w.heap.size := h.pk.base_le
/-- What lay stays. -/
theorem B9.below (h : B9 cq cr w0 w b g F s v1 E v2 Q v3 R) (hb : Below w.heap.size w w') : B9 cq cr w0 w' b g F s v1 E v2 Q v3 R :=
  ⟨h.pk.next hb, h.r1.same fun k hk => hb.block k (h.r1.block hk).2.1, h.r2.same fun k hk => hb.block k (h.r2.block hk).2.1, h.r3.same fun k hk => hb.block k (h.r3.block hk).2.1, h.d1, h.d2, h.d3, next h.bel hb, h.leb⟩
theorem B9.alloc (h : B9 cq cr w0 w b g F s v1 E v2 Q v3 R) (o : Obj) : B9 cq cr w0 (w.alloc o) b g F s v1 E v2 Q v3 R := h.below ((Below.refl _ _).alloc (Nat.le_refl _) o)
end
end Go.Proofs.YtodedbokeodmkaaGreat
namespace Go.Proofs.YtodedbokeodmkaaGreat
open Go.RowKit Go.ChangeShapes Go.WideShapes Go.Deep
set_option linter.unusedVariables false
set_option maxRecDepth 100000

abbrev csQ (q : MQ) : List Value := (cellsQ q).toList
abbrev csR (x : MR × Value) : List Value := (cellsR x.1 x.2).toList
section
variable {H : Type} {enc : TypeId × Value → H} {W : World} {base b0 : Nat} {held : Bool} {v : Value} {d : DataW H} {p : List MemPlace}
end
end Go.Proofs.YtodedbokeodmkaaGreat
namespace Go.Proofs.YtodedbokeodmkaaGreat
open Go.RowKit
set_option linter.unusedVariables false

/-- From a to e: each x stands from where the one ahead ended to its own end. -/
def Ch {α : Type} (R : Nat → Nat → α → Prop) : List α → List Nat → Nat → Nat → Prop
  | [], [], a, e => a = e
  | x :: X, n :: E, a, e => R a n x ∧ Ch R X E n e
  | _, _, _, _ => False
/-- Where the k-th begins. -/
def stC (a : Nat) (E : List Nat) (k : Nat) : Nat := (a :: E).getD k 0
section
variable {α : Type} {R R' : Nat → Nat → α → Prop}
theorem Ch.mono (hR : ∀ a n x, R a n x → R' a n x) : ∀ {X : List α} {E : List Nat} {a e : Nat}, Ch R X E a e → Ch R' X E a e
  | [], [], _, _, h => h
  | x :: X, n :: E, a, e, h => ⟨hR _ _ _ h.1, Ch.mono hR h.2⟩
  | [], _ :: _, _, _, h => h.elim
  | _ :: _, [], _, _, h => h.elim
theorem Ch.snoc {x : α} {n : Nat} : ∀ {X : List α} {E : List Nat} {a e : Nat}, Ch R X E a e → R e n x → Ch R (X ++ [x]) (E ++ [n]) a n
  | [], [], a, e, h, hx => by
    have h' : a = e := h
    subst h'
    exact ⟨hx, rfl⟩
  | y :: X, m :: E, a, e, h, hx => ⟨h.1, Ch.snoc h.2 hx⟩
  | [], _ :: _, _, _, h, _ => h.elim
  | _ :: _, [], _, _, h, _ => h.elim
theorem Ch.len : ∀ {X : List α} {E : List Nat} {a e : Nat}, Ch R X E a e → E.length = X.length
  | [], [], _, _, _ => rfl
  | x :: X, n :: E, a, e, h => by rw [List.length_cons, List.length_cons, Ch.len h.2]
  | [], _ :: _, _, _, h => h.elim
  | _ :: _, [], _, _, h => h.elim
theorem Ch.end_ : ∀ {X : List α} {E : List Nat} {a e : Nat}, Ch R X E a e → stC a E X.length = e
  | [], [], a, e, h => h
  | x :: X, n :: E, a, e, h => (show stC n E X.length = e from Ch.end_ h.2)
  | [], _ :: _, _, _, h => h.elim
  | _ :: _, [], _, _, h => h.elim
theorem Ch.at : ∀ {X : List α} {E : List Nat} {a e : Nat} (h : Ch R X E a e) (k : Nat) (hk : k < X.length) (hk' : k < E.length), R (stC a E k) E[k] X[k]
  | x :: X, n :: E, a, e, h, 0, _, _ => h.1
  | x :: X, n :: E, a, e, h, k + 1, hk, hk' => Ch.at h.2 k (by simpa using hk) (by simpa using hk')
  | [], _, _, _, _, _, hk, _ => by cases hk
  | _ :: _, [], _, _, _, _, _, hk' => by cases hk'
end
def RQs (l : List UInt8) (a n : Nat) (q : MQ) : Prop := ∀ z, rdQ (l ++ z) (a : Nat) = ⟨0, n, q⟩
def RRs (l : List UInt8) (a n : Nat) (r : MR × Value) : Prop := ∀ z, rdR (l ++ z) (a : Nat) = ⟨0, n, r.1⟩
theorem RQs.app {l y : List UInt8} {a n : Nat} {q : MQ} (h : RQs l a n q) : RQs (l ++ y) a n q := fun z => by rw [List.append_assoc]; exact h _
theorem RRs.app {l y : List UInt8} {a n : Nat} {r : MR × Value} (h : RRs l a n r) : RRs (l ++ y) a n r := fun z => by rw [List.append_assoc]; exact h _
end Go.Proofs.YtodedbokeodmkaaGreat
namespace Go.Proofs.YtodedbokeodmkaaGreat
open Go.RowKit Go.Maps
set_option linter.unusedVariables false
set_option maxRecDepth 100000

abbrev RV : Type := MR × Value
abbrev BB := @B9 MQ RV csQ csR
section
variable {w0 w : World} {b g : Nat} {F : Nat → Prop} {s : PS} {v1 v2 v3 : Value} {E : List Nat} {Q : List MQ} {R : List RV}
variable {ops : Array Oper} {rest : List Oper} {o : Oper} {a : Act} {Qx : Exit → Act → World → Prop}
end
theorem load_r {w : World} {g o : Nat} {x : RV} (h : w.rangeAt g o (csR x)) : (Instr.loadAt 32 (.pointer (some ⟨g, o, none⟩))).run Tryz.prog w = .ok (recV x.1 x.2) w :=
  run_loadAt_mid w g o 32 (csR x) _ h Tryz.underlying32 rfl (by kernel_rfl)
theorem wpList_load1 {ops : Array Oper} {rest : List Oper} {o : Oper} {a : Act} {w : World} {Q : Exit → Act → World → Prop} (hgd : o.guard = none) (t : TypeId) (x : Operand) (ho : o.op = .load t x) (p V : Value) (hx : a.eval x = p) (hb : (Instr.loadAt t p).run Tryz.prog w = .ok V w)
    (h : wpList Tryz.prog ops Q rest (a.put o.dst V) w) : wpList Tryz.prog ops Q (o :: rest) a w := by
  refine wpList_plain hgd fun K hK => ?_
  unfold Oper.wp execOp
  simp only [ho, hx, Sem.run_bind, Sem.run_pure, hb, Result.andThen_ok]
  exact hK _ _ h
/-- light, so far as it counts. -/
def LightB (r : MR) (w : World) (e : Ending) (w' : World) : Prop := ∃ c, e = .returned (.bool c) ∧ (c = true → checkR r = 0 → octD r.d + sizeT r.d.L ≤ 2000) ∧ Below w.heap.size w w'
theorem light_b (r : MR) (tv : Value) (w : World) (hf : FitR w r tv) : Calls Tryz.prog 7 #[recV r tv] w (LightB r w) := by
  by_cases hc : checkR r = 0
  · have hall : octD r.d + sizeT r.d.L ≤ 66500 := by
      obtain ⟨hcq, hcd⟩ := checkR_zero hc
      have ht : isT r.t = true := (checkQ_zero hcq).2.1
      unfold checkD at hcd
      rw [if_pos ht] at hcd
      exact (small_all hcd).1
    refine (rcLight_small r tv w hf hall).mono ?_
    rintro e w' ⟨rfl, hb⟩
    refine ⟨_, rfl, fun h _ => ?_, hb⟩
    rw [Bool.and_eq_true] at h
    exact of_decide_eq_true h.2
  · refine (rcLight_any r tv w hf).mono ?_
    rintro e w' ⟨c, rfl, hb⟩
    exact ⟨c, rfl, fun _ h => absurd h hc, hb⟩
/-! ### The loops -/
/-- What the first loop keeps. -/
structure Lq (w0 : World) (b g k : Nat) (v1 v2 : Value) (wr : World) (F : Nat → Prop) (s : PS) (E : List Nat) (Q : List MQ) : Prop where
  bb : BB w0 wr b g F s v1 E v2 Q nilS []
  good : GoodR s
  ch : Ch (RQs s.l) Q E 0 s.l.length
  len : s.l.length ≤ 259 * k
  few : Q.length ≤ k
/-- What the second loop keeps. -/
structure Lr (w0 : World) (b g k : Nat) (v1 v2 v3 : Value) (EQ : List Nat) (Q : List MQ) (e0 : Nat) (L : List RV) (wr : World) (F : Nat → Prop) (s : PS) (ER : List Nat) (R : List RV) : Prop where
  bb : BB w0 wr b g F s v1 (EQ ++ ER) v2 Q v3 R
  good : GoodR s
  chq : Ch (RQs s.l) Q EQ 0 e0
  chr : Ch (RRs s.l) R ER e0 s.l.length
  len : s.l.length ≤ 5180 + 2305 * k
  few : R.length ≤ k
  of : ∀ x ∈ R, x ∈ L
section
variable {w0 w : World} {b g k : Nat} {F : Nat → Prop} {s : PS} {v1 v2 v3 : Value} {E EQ ER : List Nat} {Q : List MQ} {R L : List RV} {e0 : Nat}
theorem Ch.app {α : Type} {Rl Rl' : Nat → Nat → α → Prop} {X : List α} {E : List Nat} {a e : Nat} (h : Ch Rl X E a e) (hR : ∀ a n x, Rl a n x → Rl' a n x) : Ch Rl' X E a e := h.mono hR
theorem chq_app {l : List UInt8} {Q : List MQ} {E : List Nat} {a e : Nat} (h : Ch (RQs l) Q E a e) {l' : List UInt8} (hy : ∃ y, l' = l ++ y) : Ch (RQs l') Q E a e := by
  obtain ⟨y, rfl⟩ := hy
  exact h.mono fun _ _ _ hx => hx.app
theorem chr_app {l : List UInt8} {R : List RV} {E : List Nat} {a e : Nat} (h : Ch (RRs l) R E a e) {l' : List UInt8} (hy : ∃ y, l' = l ++ y) : Ch (RRs l') R E a e := by
  obtain ⟨y, rfl⟩ := hy
  exact h.mono fun _ _ _ hx => hx.app
/-- A question was put, and is among the rows. -/
theorem Lq.more (h : Lq w0 b g k v1 v2 w F s E Q) {q : MQ} {s' : PS} (hg : GoodR s') (hy : ∃ y, s'.l = s.l ++ y) (hl : s'.l.length ≤ s.l.length + 259) (hr : RQs s'.l s.l.length s'.l.length q) {w' : World} {F' : Nat → Prop} {v1' v2' : Value} (hb : BB w0 w' b g F' s' v1' (E ++ [s'.l.length]) v2' (Q ++ [q]) nilS []) :
    Lq w0 b g (k + 1) v1' v2' w' F' s' (E ++ [s'.l.length]) (Q ++ [q]) :=
  ⟨hb, hg, (chq_app h.ch hy).snoc hr, by have := h.len; omega, by have := h.few; simp; omega⟩
theorem Lq.stay (h : Lq w0 b g k v1 v2 w F s E Q) {w' : World} {F' : Nat → Prop} (hb : BB w0 w' b g F' s v1 E v2 Q nilS []) : Lq w0 b g (k + 1) v1 v2 w' F' s E Q :=
  ⟨hb, h.good, h.ch, by have := h.len; omega, by have := h.few; omega⟩
theorem Lr.more (h : Lr w0 b g k v1 v2 v3 EQ Q e0 L w F s ER R) {r : RV} (hrL : r ∈ L) {s' : PS} (hg : GoodR s') (hy : ∃ y, s'.l = s.l ++ y) (hl : s'.l.length ≤ s.l.length + 2305) (hr : RRs s'.l s.l.length s'.l.length r) {w' : World} {F' : Nat → Prop} {v1' v3' : Value} (hb : BB w0 w' b g F' s' v1' (EQ ++ ER ++ [s'.l.length]) v2 Q v3' (R ++ [r])) :
    Lr w0 b g (k + 1) v1' v2 v3' EQ Q e0 L w' F' s' (ER ++ [s'.l.length]) (R ++ [r]) :=
  ⟨by rw [← List.append_assoc]; exact hb, hg, chq_app h.chq hy, (chr_app h.chr hy).snoc hr, by have := h.len; omega, by have := h.few; simp; omega, fun x hx => (List.mem_append.1 hx).elim (h.of x) (fun e => by rw [List.mem_singleton.1 e]; exact hrL)⟩
theorem Lr.stay (h : Lr w0 b g k v1 v2 v3 EQ Q e0 L w F s ER R) {w' : World} {F' : Nat → Prop} (hb : BB w0 w' b g F' s v1 (EQ ++ ER) v2 Q v3 R) : Lr w0 b g (k + 1) v1 v2 v3 EQ Q e0 L w' F' s ER R :=
  ⟨hb, h.good, h.chq, h.chr, by have := h.len; omega, by have := h.few; omega, h.of⟩
theorem OwnC.ptr {α : Type} {cs : α → List Value} {k : Nat} {t : TypeId} (hk : ∀ x, (cs x).length = k) {w : World} {base n cap : Nat} {A : Option Addr} {D : List α} (h : OwnC cs k t w base (.slice A n cap) D) {j : Nat} (hj : j < D.length) : ∃ g, A = some ⟨g, 0, none⟩ := by
  obtain ⟨g', e, _⟩ := h.at hk j hj
  exact ⟨g', e⟩
end
end Go.Proofs.YtodedbokeodmkaaGreat
