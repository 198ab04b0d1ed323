/-
  Whole messages: plain mathematics: what is looked at, put, counted, read, compared. Conditions as each theorem names them. What is put in more room, or in less: it is the same as long as it fits; the one error is that of the room: plain mathematics. Conditions as each theorem names them. A message that is put is read back: plain mathematics. Conditions as each theorem names them.
-/
import Derived.Test.YtdpgcgaalamgkaaGreatZk33
import Derived.Test.YtdpgcgaalamgkaaGreatZk37
namespace Go.Proofs.YtdpgcgaalamgkaaGreat
open Go.RowKit
set_option linter.unusedVariables false
set_option maxRecDepth 10000

/-- A message: its header, its questions, its three rows of records. -/
structure MM where
  h : Hd
  q : List MQ
  a : List RV
  u : List RV
  m : List RV
def MM.recs (m : MM) : List RV := m.a ++ m.u ++ m.m
def cntB (m : MM) : Bool := decide (m.h.n0 = (m.q.length : Int) ∧ m.h.n1 = (m.a.length : Int) ∧ m.h.n2 = (m.u.length : Int) ∧ m.h.n3 = (m.m.length : Int))
section
variable {α β : Type}
/-- The first that is not 0. -/
def fst0 (f : α → Nat) : List α → Nat
  | [] => 0
  | x :: l => if f x = 0 then fst0 f l else f x
theorem fst0_zero {f : α → Nat} : ∀ {l : List α}, fst0 f l = 0 ↔ ∀ x ∈ l, f x = 0
  | [] => ⟨fun _ x h => (nomatch h), fun _ => rfl⟩
  | x :: l => by
    unfold fst0
    by_cases h : f x = 0
    · rw [if_pos h, fst0_zero (l := l)]
      exact ⟨fun k y hy => (List.mem_cons.1 hy).elim (fun e => e ▸ h) (k y), fun k y hy => k y (List.mem_cons_of_mem _ hy)⟩
    · rw [if_neg h]
      exact ⟨fun k => absurd k h, fun k => absurd (k x List.mem_cons_self) h⟩
theorem fst0_drop {f : α → Nat} {l : List α} {k : Nat} (hk : k < l.length) : fst0 f (l.drop k) = if f l[k] = 0 then fst0 f (l.drop (k + 1)) else f l[k] := by
  rw [List.drop_eq_getElem_cons hk]
  rfl
/-- As many, and each as the other row's. -/
def eqL (f : α → β → Bool) : List α → List β → Bool
  | [], [] => true
  | x :: l, y :: k => f x y && eqL f l k
  | _, _ => false
theorem eqL_len {f : α → β → Bool} : ∀ {l : List α} {k : List β}, eqL f l k = true → l.length = k.length
  | [], [], _ => rfl
  | x :: l, y :: k, h => by
    unfold eqL at h
    rw [Bool.and_eq_true] at h
    rw [List.length_cons, List.length_cons, eqL_len h.2]
  | [], y :: k, h => by cases h
  | x :: l, [], h => by cases h
theorem eqL_drop {f : α → β → Bool} {l : List α} {k : List β} {j : Nat} (h1 : j < l.length) (h2 : j < k.length) : eqL f (l.drop j) (k.drop j) = (f l[j] k[j] && eqL f (l.drop (j + 1)) (k.drop (j + 1))) := by
  rw [List.drop_eq_getElem_cons h1, List.drop_eq_getElem_cons h2]
  rfl
theorem eqL_refl {f : α → α → Bool} (hf : ∀ x, f x x = true) : ∀ l : List α, eqL f l l = true
  | [] => rfl
  | x :: l => by
    unfold eqL
    rw [hf, eqL_refl hf l]
    rfl
theorem eqL_iff {f : α → β → Bool} : ∀ {l : List α} {k : List β}, eqL f l k = true ↔ l.length = k.length ∧ ∀ j (h1 : j < l.length) (h2 : j < k.length), f l[j] k[j] = true
  | [], [] => ⟨fun _ => ⟨rfl, fun j h => (nomatch h)⟩, fun _ => rfl⟩
  | x :: l, y :: k => by
    unfold eqL
    rw [Bool.and_eq_true, eqL_iff (l := l) (k := k)]
    constructor
    · rintro ⟨h0, h1, h2⟩
      refine ⟨by simp [h1], fun j a b => ?_⟩
      cases j with
      | zero => exact h0
      | succ j => exact h2 j (by simpa using a) (by simpa using b)
    · rintro ⟨h1, h2⟩
      exact ⟨h2 0 (by simp) (by simp), by simpa using h1, fun j a b => h2 (j + 1) (by simpa using a) (by simpa using b)⟩
  | [], y :: k => ⟨fun h => (by cases h), fun h => (by simp at h)⟩
  | x :: l, [] => ⟨fun h => (by cases h), fun h => (by simp at h)⟩
end
def ckR (x : RV) : Nat := checkR x.1
def checkM (m : MM) : Nat := if chkH m.h ≠ 0 then chkH m.h else if cntB m = false then 2 else if fst0 checkQ m.q ≠ 0 then fst0 checkQ m.q else fst0 (fst0 ckR) [m.a, m.u, m.m]
structure OkM (m : MM) : Prop where
  may : m.h.may
  n0 : m.h.n0 = (m.q.length : Int)
  n1 : m.h.n1 = (m.a.length : Int)
  n2 : m.h.n2 = (m.u.length : Int)
  n3 : m.h.n3 = (m.m.length : Int)
  q : ∀ x ∈ m.q, checkQ x = 0
  r : ∀ x ∈ m.recs, checkR x.1 = 0
theorem mem_recs {m : MM} {x : RV} : x ∈ m.recs ↔ x ∈ m.a ∨ x ∈ m.u ∨ x ∈ m.m := by
  unfold MM.recs
  rw [List.mem_append, List.mem_append, or_assoc]
theorem checkM_zero {m : MM} : checkM m = 0 ↔ OkM m := by
  unfold checkM
  by_cases h1 : chkH m.h = 0
  · rw [if_neg (fun h => h h1)]
    by_cases h2 : cntB m = false
    · rw [if_pos h2]
      refine ⟨fun h => (by cases h), fun h => ?_⟩
      have : cntB m = true := by unfold cntB; exact decide_eq_true ⟨h.n0, h.n1, h.n2, h.n3⟩
      rw [this] at h2
      cases h2
    · rw [if_neg h2]
      have h2' : cntB m = true := by cases hc : cntB m with | true => rfl | false => exact absurd hc h2
      unfold cntB at h2'
      obtain ⟨e0, e1, e2, e3⟩ := of_decide_eq_true h2'
      by_cases h3 : fst0 checkQ m.q = 0
      · rw [if_neg (fun h => h h3), fst0_zero]
        refine ⟨fun h => ⟨chkH_zero.1 h1, e0, e1, e2, e3, fst0_zero.1 h3, fun x hx => ?_⟩, fun h l hl => fst0_zero.2 fun x hx => ?_⟩
        · rcases mem_recs.1 hx with hx | hx | hx
          · exact fst0_zero.1 (h m.a (by simp)) x hx
          · exact fst0_zero.1 (h m.u (by simp)) x hx
          · exact fst0_zero.1 (h m.m (by simp)) x hx
        · refine h.r x (mem_recs.2 ?_)
          simp only [List.mem_cons, List.not_mem_nil, or_false] at hl
          rcases hl with rfl | rfl | rfl
          · exact .inl hx
          · exact .inr (.inl hx)
          · exact .inr (.inr hx)
      · rw [if_pos h3]
        exact ⟨fun h => absurd h h3, fun h => absurd (fst0_zero.2 h.q) h3⟩
  · rw [if_pos h1]
    exact ⟨fun h => absurd h h1, fun h => absurd (chkH_zero.2 h.may) h1⟩

/-! ### What is put -/
def putQs (M : Nat) : List MQ → PS → PS
  | [], s => s
  | x :: l, s => putQs M l (putQ M x s).2
def putRs (M : Nat) : List RV → PS → Nat × PS
  | [], s => (0, s)
  | x :: l, s => if (putR M x.1 s).1 = 0 then ((putRs M l (putR M x.1 s).2).1 + 1, (putRs M l (putR M x.1 s).2).2) else (0, (putR M x.1 s).2)
def putHd (M : Nat) (h : Hd) : PS := (putS M ps0 (ocH h)).2
def putMs (M : Nat) (m : MM) : Nat × PS := putRs M m.recs (putQs M m.q (putHd M m.h))
def putT (M : Nat) (m : MM) : List UInt8 := if (putMs M m).2.f = 0 then (putMs M m).2.l else []

/-! ### What is counted -/
def sumL {α : Type} (f : α → Nat) : List α → Nat
  | [] => 0
  | x :: l => f x + sumL f l
def szQ (q : MQ) : Nat := sizeN (bs q.n) + 4
def szRV (x : RV) : Nat := sizeR x.1
def sizeM (m : MM) : Nat := if checkM m ≠ 0 then 0 else 12 + sumL szQ m.q + sumL szRV m.a + sumL szRV m.u + sumL szRV m.m
theorem sumL_app {α : Type} (f : α → Nat) : ∀ l k : List α, sumL f (l ++ k) = sumL f l + sumL f k
  | [], k => by simp [sumL]
  | x :: l, k => by
    rw [List.cons_append]
    show f x + sumL f (l ++ k) = f x + sumL f l + sumL f k
    rw [sumL_app f l k]; omega
theorem sumL_le {α : Type} (f : α → Nat) (B : Nat) : ∀ l : List α, (∀ x ∈ l, f x ≤ B) → sumL f l ≤ B * l.length
  | [], _ => Nat.zero_le _
  | x :: l, h => by
    have h1 := h x List.mem_cons_self
    have h2 := sumL_le f B l fun y hy => h y (List.mem_cons_of_mem _ hy)
    rw [List.length_cons, Nat.mul_add, Nat.mul_one]
    show f x + sumL f l ≤ _
    omega
theorem sumL_take {α : Type} (f : α → Nat) (l : List α) (k : Nat) (hk : k < l.length) : sumL f (l.take (k + 1)) = sumL f (l.take k) + f l[k] := by
  rw [List.take_succ_eq_append_getElem hk, sumL_app]
  simp [sumL]
/-! ### The same -/
def sameRV (x y : RV) : Bool := sameR x.1 y.1
def sameM (a b : MM) : Bool := decide (a.h = b.h) && (eqL sameQ a.q b.q && (eqL sameRV a.a b.a && (eqL sameRV a.u b.u && eqL sameRV a.m b.m)))

/-! ### What is read: the error, the place behind, the parts -/
section
variable {α : Type}
def rdRow (f : Nat → Nat × Nat × α) : Nat → Nat → Nat × Nat × List α
  | 0, k => (0, k, [])
  | n + 1, k => if (f k).1 = 0 then (if (rdRow f n (f k).2.1).1 = 0 then (0, (rdRow f n (f k).2.1).2.1, (f k).2.2 :: (rdRow f n (f k).2.1).2.2) else ((rdRow f n (f k).2.1).1, 0, [])) else ((f k).1, 0, [])
theorem rdRow_bad {f : Nat → Nat × Nat × α} {n k : Nat} (h : (f k).1 ≠ 0) : rdRow f (n + 1) k = ((f k).1, 0, []) := by
  rw [rdRow, if_neg h]
theorem rdRow_err {f : Nat → Nat × Nat × α} : ∀ {n k : Nat}, (rdRow f n k).1 ≠ 0 → rdRow f n k = ((rdRow f n k).1, 0, [])
  | 0, k, h => absurd rfl h
  | n + 1, k, h => by
    by_cases h1 : (f k).1 = 0
    · by_cases h2 : (rdRow f n (f k).2.1).1 = 0
      · rw [rdRow, if_pos h1, if_pos h2] at h
        exact absurd rfl h
      · rw [rdRow, if_pos h1, if_neg h2]
    · rw [rdRow, if_neg h1]
/-- Parts that were read, and those behind them. -/
def rdCons (X : List α) (p : Nat × Nat × List α) : Nat × Nat × List α := if p.1 = 0 then (0, p.2.1, X ++ p.2.2) else (p.1, 0, [])
theorem rdCons_nil (p : Nat × Nat × List α) (h : p.1 ≠ 0 → p = (p.1, 0, [])) : rdCons [] p = p := by
  unfold rdCons
  by_cases hp : p.1 = 0
  · rw [if_pos hp, List.nil_append, ← hp]
  · rw [if_neg hp]; exact (h hp).symm
theorem rdCons_step {f : Nat → Nat × Nat × α} {n k : Nat} (X : List α) (h : (f k).1 = 0) : rdCons X (rdRow f (n + 1) k) = rdCons (X ++ [(f k).2.2]) (rdRow f n (f k).2.1) := by
  rw [rdRow, if_pos h]
  unfold rdCons
  by_cases h2 : (rdRow f n (f k).2.1).1 = 0
  · rw [if_pos h2, if_pos rfl, if_pos h2]
    simp
  · rw [if_neg h2, if_neg h2, if_neg h2]
theorem rdRow_ch {R : Nat → Nat → α → Prop} {f : Nat → Nat × Nat × α} (hf : ∀ a n x, R a n x → f a = (0, n, x)) : ∀ {X : List α} {E : List Nat} {a e : Nat}, Ch R X E a e → rdRow f X.length a = (0, e, X)
  | [], [], a, e, h => by
    have h' : a = e := h
    subst h'; rfl
  | x :: X, n :: E, a, e, h => by
    obtain ⟨h1, h2⟩ := h
    have e1 := hf _ _ _ h1
    have e2 := rdRow_ch hf h2
    rw [List.length_cons, rdRow, e1]
    simp only [if_true]
    rw [e2]
    simp
  | [], n :: E, a, e, h => by cases h
  | x :: X, [], a, e, h => by cases h
end
def fQ (T : List UInt8) (k : Nat) : Nat × Nat × MQ := ((rdQ T (k : Nat)).e, (rdQ T (k : Nat)).k, (rdQ T (k : Nat)).q)
def fR (T : List UInt8) (k : Nat) : Nat × Nat × MR := ((rdR T (k : Nat)).e, (rdR T (k : Nat)).k, (rdR T (k : Nat)).r)
end Go.Proofs.YtdpgcgaalamgkaaGreat
namespace Go.Proofs.YtdpgcgaalamgkaaGreat
open Go.RowKit
set_option linter.unusedVariables false
set_option maxRecDepth 10000

def F3 (f : Nat) : Prop := f = 0 ∨ f = 3
/-- F puts in the room M what F' puts in the room M'. -/
structure Mo (M : Nat) (F F' : PS → Nat × PS) : Prop where
  st : ∀ s, (F s).2.f = 0 → s.f = 0
  st' : ∀ s, (F' s).2.f = 0 → s.f = 0
  gr' : ∀ s, s.l.length ≤ (F' s).2.l.length
  up : ∀ s, (F s).2.f = 0 → F' s = F s
  dn : ∀ s, (F' s).2.f = 0 → (F' s).2.l.length ≤ M → F s = F' s
  e3 : ∀ s, F3 s.f → F3 (F s).2.f
section
variable {M M' : Nat}
theorem mo_put (hM : M ≤ M') (x : List UInt8) : Mo M (fun s => putS M s x) (fun s => putS M' s x) := by
  have h0 : ∀ (K : Nat) (s : PS), s.f ≠ 0 → putS K s x = (s.f, s) := fun K s hf => by unfold putS putW; rw [if_pos hf]
  have h1 : ∀ (K : Nat) (s : PS), s.f = 0 → K < s.l.length + x.length → putS K s x = (3, { s with f := 3 }) := fun K s hf hl => by unfold putS putW; rw [if_neg (fun h => h hf), if_pos hl]
  have h2 : ∀ (K : Nat) (s : PS), s.f = 0 → ¬ K < s.l.length + x.length → putS K s x = (0, { s with l := s.l ++ x, f := 0 }) := fun K s hf hl => by unfold putS putW; rw [if_neg (fun h => h hf), if_neg hl]
  have hst : ∀ (K : Nat) (s : PS), (putS K s x).2.f = 0 → s.f = 0 ∧ ¬ K < s.l.length + x.length := fun K s h => by
    by_cases hf : s.f = 0
    · by_cases hl : K < s.l.length + x.length
      · rw [h1 K s hf hl] at h; cases h
      · exact ⟨hf, hl⟩
    · rw [h0 K s hf] at h; exact absurd h hf
  refine ⟨fun s h => (hst M s h).1, fun s h => (hst M' s h).1, fun s => ?_, fun s h => ?_, fun s h hl => ?_, fun s h => ?_⟩
  · exact putW_grow ..
  · obtain ⟨hf, hl⟩ := hst M s h
    rw [h2 M s hf hl, h2 M' s hf (by omega)]
  · obtain ⟨hf, hl'⟩ := hst M' s h
    simp only [h2 M' s hf hl', List.length_append] at hl ⊢
    rw [h2 M s hf (by omega)]
  · by_cases hf : s.f = 0
    · by_cases hl : M < s.l.length + x.length
      · simp only [h1 M s hf hl]; exact .inr rfl
      · simp only [h2 M s hf hl]; exact .inl rfl
    · simp only [h0 M s hf]; exact h
theorem numS_bad {K : Nat} {s : PS} {v : Nat} {n : Int} (hr : room v n = false) : (numS K s v n).2 = s ∧ (numS K s v n).1 = (if s.f ≠ 0 then s.f else 2) := by
  unfold numS numW
  by_cases hf : s.f = 0
  · rw [if_neg (fun h => h hf), if_pos hr, if_neg (fun h => h hf)]
    exact ⟨rfl, rfl⟩
  · rw [if_pos hf, if_pos hf]
    exact ⟨rfl, rfl⟩
theorem numS_put {K : Nat} {s : PS} {v : Nat} {n : Int} (hr : room v n = true) : numS K s v n = putS K s (octs v n.toNat) := by
  unfold numS putS numW
  by_cases hf : s.f = 0
  · rw [if_neg (fun h => h hf), if_neg (by rw [hr]; decide)]
  · rw [if_pos hf]
    unfold putW
    rw [if_pos hf]
theorem mo_same {F : PS → Nat × PS} (hF : ∀ s, (F s).2 = s) : Mo M F F :=
  ⟨fun s h => by rw [hF] at h; exact h, fun s h => by rw [hF] at h; exact h, fun s => by rw [hF]; exact Nat.le_refl _, fun _ _ => rfl, fun _ _ _ => rfl, fun s h => by rw [hF]; exact h⟩
theorem mo_num (hM : M ≤ M') (v : Nat) (n : Int) : Mo M (fun s => numS M s v n) (fun s => numS M' s v n) := by
  cases hr : room v n with
  | true =>
    have e : ∀ K, (fun s => numS K s v n) = fun s => putS K s (octs v n.toNat) := fun K => funext fun s => numS_put hr
    rw [e, e]
    exact mo_put hM _
  | false =>
    have e : (fun s => numS M' s v n) = fun s => numS M s v n := funext fun s => by
      obtain ⟨a1, a2⟩ := numS_bad (K := M) (s := s) hr
      obtain ⟨b1, b2⟩ := numS_bad (K := M') (s := s) hr
      exact Prod.ext (b2.trans a2.symm) (b1.trans a1.symm)
    rw [e]
    exact mo_same fun s => (numS_bad hr).1
theorem Mo.seq {F F' G G' : PS → Nat × PS} (hF : Mo M F F') (hG : Mo M G G') : Mo M (fun s => if (F s).1 = 0 then G (F s).2 else F s) (fun s => if (F' s).1 = 0 then G' (F' s).2 else F' s) := by
  refine ⟨fun s h => ?_, fun s h => ?_, fun s => ?_, fun s h => ?_, fun s h hl => ?_, fun s h => ?_⟩
  · by_cases hz : (F s).1 = 0
    · simp only [hz, if_true] at h
      exact hF.st s (hG.st _ h)
    · simp only [hz, if_false] at h
      exact hF.st s h
  · by_cases hz : (F' s).1 = 0
    · simp only [hz, if_true] at h
      exact hF.st' s (hG.st' _ h)
    · simp only [hz, if_false] at h
      exact hF.st' s h
  · by_cases hz : (F' s).1 = 0
    · simp only [hz, if_true]
      exact Nat.le_trans (hF.gr' s) (hG.gr' _)
    · simp only [hz, if_false]
      exact hF.gr' s
  · by_cases hz : (F s).1 = 0
    · simp only [hz, if_true] at h ⊢
      have e := hF.up s (hG.st _ h)
      rw [e]
      simp only [hz, if_true]
      exact hG.up _ h
    · simp only [hz, if_false] at h ⊢
      have e := hF.up s h
      rw [e]
      simp only [hz, if_false]
  · by_cases hz : (F' s).1 = 0
    · simp only [hz, if_true] at h hl ⊢
      have e := hF.dn s (hG.st' _ h) (Nat.le_trans (hG.gr' _) hl)
      rw [e]
      simp only [hz, if_true]
      exact hG.dn _ h hl
    · simp only [hz, if_false] at h hl ⊢
      have e := hF.dn s h hl
      rw [e]
      simp only [hz, if_false]
  · by_cases hz : (F s).1 = 0
    · simp only [hz, if_true]
      exact hG.e3 _ (hF.e3 s h)
    · simp only [hz, if_false]
      exact hF.e3 s h
theorem mo_nameF (hM : M ≤ M') : ∀ (k : Nat) (r : List UInt8), Mo M (fun s => nameF M k r s) (fun s => nameF M' k r s)
  | 0, r => mo_same fun s => rfl
  | k + 1, r => by
    by_cases hr : r = []
    · subst hr
      simp only [nameF_nil]
      exact mo_put hM [0]
    · have ih := mo_nameF hM k (restN r)
      have hp := mo_put hM (headN r)
      refine ⟨fun s h => ?_, fun s h => ?_, fun s => ?_, fun s h => ?_, fun s h hl => ?_, fun s h => ?_⟩
      · rcases hm : s.m r with _ | a
        · by_cases hz : (putS M s (headN r)).1 = 0
          · simp only [nameF_next hr hm hz] at h
            have h' := ih.st _ h
            rw [keepS_f] at h'
            exact hp.st s h'
          · simp only [nameF_long hr hm hz] at h
            exact hp.st s h
        · simp only [nameF_some hr hm] at h
          exact (mo_num hM _ _).st s h
      · rcases hm : s.m r with _ | a
        · by_cases hz : (putS M' s (headN r)).1 = 0
          · simp only [nameF_next hr hm hz] at h
            have h' := ih.st' _ h
            rw [keepS_f] at h'
            exact hp.st' s h'
          · simp only [nameF_long hr hm hz] at h
            exact hp.st' s h
        · simp only [nameF_some hr hm] at h
          exact (mo_num hM _ _).st' s h
      · rcases hm : s.m r with _ | a
        · by_cases hz : (putS M' s (headN r)).1 = 0
          · simp only [nameF_next hr hm hz]
            refine Nat.le_trans (hp.gr' s) ?_
            have := ih.gr' (keepS (putS M' s (headN r)).2 r s.l.length)
            rwa [(keep_l _ _ _).1] at this
          · simp only [nameF_long hr hm hz]
            exact hp.gr' s
        · simp only [nameF_some hr hm]
          exact (mo_num hM _ _).gr' s
      · rcases hm : s.m r with _ | a
        · by_cases hz : (putS M s (headN r)).1 = 0
          · simp only [nameF_next hr hm hz] at h ⊢
            have h' := ih.st _ h
            rw [keepS_f] at h'
            have e : putS M' s (headN r) = putS M s (headN r) := hp.up s h'
            have hz' : (putS M' s (headN r)).1 = 0 := by rw [e]; exact hz
            rw [nameF_next hr hm hz', e]
            exact ih.up _ h
          · simp only [nameF_long hr hm hz] at h ⊢
            have e : putS M' s (headN r) = putS M s (headN r) := hp.up s h
            have hz' : ¬ (putS M' s (headN r)).1 = 0 := by rw [e]; exact hz
            rw [nameF_long hr hm hz', e]
        · simp only [nameF_some hr hm] at h ⊢
          exact (mo_num hM _ _).up s h
      · rcases hm : s.m r with _ | a
        · by_cases hz : (putS M' s (headN r)).1 = 0
          · simp only [nameF_next hr hm hz] at h hl ⊢
            have h' := ih.st' _ h
            rw [keepS_f] at h'
            have hl' := ih.gr' (keepS (putS M' s (headN r)).2 r s.l.length)
            rw [(keep_l _ _ _).1] at hl'
            have e : putS M s (headN r) = putS M' s (headN r) := hp.dn s h' (Nat.le_trans hl' hl)
            have hz' : (putS M s (headN r)).1 = 0 := by rw [e]; exact hz
            rw [nameF_next hr hm hz', e]
            exact ih.dn _ h hl
          · simp only [nameF_long hr hm hz] at h hl ⊢
            have e : putS M s (headN r) = putS M' s (headN r) := hp.dn s h hl
            have hz' : ¬ (putS M s (headN r)).1 = 0 := by rw [e]; exact hz
            rw [nameF_long hr hm hz', e]
        · simp only [nameF_some hr hm] at h hl ⊢
          exact (mo_num hM _ _).dn s h hl
      · rcases hm : s.m r with _ | a
        · by_cases hz : (putS M s (headN r)).1 = 0
          · simp only [nameF_next hr hm hz]
            exact ih.e3 _ (by rw [keepS_f]; exact hp.e3 s h)
          · simp only [nameF_long hr hm hz]
            exact hp.e3 s h
        · simp only [nameF_some hr hm]
          exact (mo_num hM _ _).e3 s h
theorem mo_plainF (hM : M ≤ M') : ∀ (k : Nat) (r : List UInt8), Mo M (fun s => plainF M k r s) (fun s => plainF M' k r s)
  | 0, r => mo_same fun s => rfl
  | k + 1, r => by
    by_cases hr : r = []
    · subst hr
      simp only [plainF_nil]
      exact mo_put hM [0]
    · have e : ∀ K, (fun s => plainF K (k + 1) r s) = fun s => if (putS K s (headN r)).1 = 0 then plainF K k (restN r) (putS K s (headN r)).2 else putS K s (headN r) := fun K => funext fun s => by
        by_cases hz : (putS K s (headN r)).1 = 0
        · rw [plainF_next hr hz, if_pos hz]
        · rw [plainF_long hr hz, if_neg hz]
      rw [e, e]
      exact (mo_put hM (headN r)).seq (mo_plainF hM k (restN r))
/-- A guard ahead that does not hang on the room. -/
theorem Mo.guard {F F' : PS → Nat × PS} (hF : Mo M F F') (g : PS → Nat) : Mo M (fun s => if g s ≠ 0 then (g s, s) else F s) (fun s => if g s ≠ 0 then (g s, s) else F' s) := by
  refine ⟨fun s h => ?_, fun s h => ?_, fun s => ?_, fun s h => ?_, fun s h hl => ?_, fun s h => ?_⟩ <;> by_cases hg : g s = 0
  all_goals first
    | (simp only [hg, ne_eq, not_true_eq_false, not_false_eq_true, if_true, if_false] at h hl ⊢ <;> first | exact hF.dn s h hl | rfl)
    | (simp only [hg, ne_eq, not_true_eq_false, not_false_eq_true, if_true, if_false] at h ⊢ <;> first | exact hF.st s h | exact hF.st' s h | exact hF.up s h | exact hF.e3 s h | exact h | rfl)
    | (simp only [hg, ne_eq, not_true_eq_false, not_false_eq_true, if_true, if_false] <;> first | exact hF.gr' s | exact Nat.le_refl _)
theorem mo_name (hM : M ≤ M') (x : List UInt8) : Mo M (fun s => nameS M s x) (fun s => nameS M' s x) := by
  have e : ∀ K, (fun s => nameS K s x) = fun s => if s.f ≠ 0 then (s.f, s) else (fun s => if (fun _ : PS => chkN x) s ≠ 0 then ((fun _ : PS => chkN x) s, s) else nameF K (x.length + 1) x s) s := fun K => rfl
  rw [e, e]
  exact ((mo_nameF hM _ x).guard fun _ => chkN x).guard fun s => s.f
theorem mo_plain (hM : M ≤ M') (x : List UInt8) : Mo M (fun s => plainS M s x) (fun s => plainS M' s x) := by
  have e : ∀ K, (fun s => plainS K s x) = fun s => if s.f ≠ 0 then (s.f, s) else (fun s => if (fun _ : PS => chkN x) s ≠ 0 then ((fun _ : PS => chkN x) s, s) else plainF K (x.length + 1) x s) s := fun K => rfl
  rw [e, e]
  exact ((mo_plainF hM _ x).guard fun _ => chkN x).guard fun s => s.f
theorem mo_nums (hM : M ≤ M') : ∀ (vs ns : List Nat), Mo M (fun s => numsS M vs ns s) (fun s => numsS M' vs ns s)
  | [], _ => mo_same fun s => by unfold numsS; rfl
  | _ :: _, [] => mo_same fun s => by unfold numsS; rfl
  | v :: vs, n :: ns => by
    by_cases hn : n = 0
    · have e : ∀ K, (fun s => numsS K (v :: vs) (n :: ns) s) = fun s => numsS K vs ns s := fun K => funext fun s => by
        conv => lhs; unfold numsS
        rw [if_pos hn]
      rw [e, e]
      exact mo_nums hM vs ns
    · have e : ∀ K, (fun s => numsS K (v :: vs) (n :: ns) s) = fun s => if (numS K s v n).1 = 0 then numsS K vs ns (numS K s v n).2 else numS K s v n := fun K => funext fun s => by
        conv => lhs; unfold numsS
        rw [if_neg hn]
      rw [e, e]
      exact (mo_num hM v n).seq (mo_nums hM vs ns)
theorem mo_texts (hM : M ≤ M') : ∀ (L : List ByteArray), Mo M (fun s => textsS M L s) (fun s => textsS M' L s)
  | [] => mo_same fun s => rfl
  | x :: L => by
    have e : ∀ K, (fun s => textsS K (x :: L) s) = fun s => if (textS1 K s x).1 = 0 then textsS K L (textS1 K s x).2 else textS1 K s x := fun K => funext fun s => rfl
    have e1 : ∀ K, (fun s => textS1 K s x) = fun s => if (numS K s x.size 1).1 = 0 then putS K (numS K s x.size 1).2 (bs x) else numS K s x.size 1 := fun K => rfl
    have h1 : Mo M (fun s => textS1 M s x) (fun s => textS1 M' s x) := by rw [e1, e1]; exact (mo_num hM x.size 1).seq (mo_put hM (bs x))
    rw [e, e]
    exact h1.seq (mo_texts hM L)
theorem mo_putP (hM : M ≤ M') (p : Pt) (d : MD) : Mo M (fun s => putP M p d s) (fun s => putP M' p d s) := by
  cases p with
  | adr six => exact mo_put hM _
  | nam mail ptd => cases ptd; exact mo_plain hM _; exact mo_name hM _
  | num a b c e f => exact mo_nums hM _ _
  | txt => exact mo_texts hM _
  | raw => exact mo_put hM _
theorem mo_putK (hM : M ≤ M') (d : MD) : ∀ K : List Pt, Mo M (fun s => putK M K d s) (fun s => putK M' K d s)
  | [] => mo_same fun s => rfl
  | p :: K => by
    have e : ∀ X, (fun s => putK X (p :: K) d s) = fun s => if (putP X p d s).1 = 0 then putK X K d (putP X p d s).2 else putP X p d s := fun X => funext fun s => rfl
    rw [e, e]
    exact (mo_putP hM p d).seq (mo_putK hM d K)
theorem mo_putD (hM : M ≤ M') (t : Int) (d : MD) : Mo M (fun s => putD M t d s) (fun s => putD M' t d s) := by
  unfold putD
  cases isT t with
  | true => exact (mo_putK hM d (kindK t)).guard fun _ => allK (kindK t) d
  | false => exact mo_same fun s => rfl

/-! ### States alone -/
structure Ms (M : Nat) (F F' : PS → PS) : Prop where
  st : ∀ s, (F s).f = 0 → s.f = 0
  st' : ∀ s, (F' s).f = 0 → s.f = 0
  gr' : ∀ s, s.l.length ≤ (F' s).l.length
  up : ∀ s, (F s).f = 0 → F' s = F s
  dn : ∀ s, (F' s).f = 0 → (F' s).l.length ≤ M → F s = F' s
  e3 : ∀ s, F3 s.f → F3 (F s).f
theorem Mo.ms {F F' : PS → Nat × PS} (h : Mo M F F') : Ms M (fun s => (F s).2) (fun s => (F' s).2) :=
  ⟨h.st, h.st', h.gr', fun s hs => congrArg Prod.snd (h.up s hs), fun s hs hl => congrArg Prod.snd (h.dn s hs hl), h.e3⟩
theorem Ms.then_ {F F' G G' : PS → PS} (hF : Ms M F F') (hG : Ms M G G') : Ms M (fun s => G (F s)) (fun s => G' (F' s)) :=
  ⟨fun s h => hF.st s (hG.st _ h), fun s h => hF.st' s (hG.st' _ h), fun s => Nat.le_trans (hF.gr' s) (hG.gr' _),
   fun s h => by (try simp only at h ⊢); rw [hF.up s (hG.st _ h)]; exact hG.up _ h,
   fun s h hl => by (try simp only at h hl ⊢); rw [hF.dn s (hG.st' _ h) (Nat.le_trans (hG.gr' _) hl)]; exact hG.dn _ h hl,
   fun s h => hG.e3 _ (hF.e3 s h)⟩
theorem ms_q3 (hM : M ≤ M') (q : MQ) : Ms M (fun s => putQ3 M q s) (fun s => putQ3 M' q s) :=
  ((mo_name hM (bs q.n)).ms.then_ (mo_num hM q.t.toNat 2).ms).then_ (mo_num hM q.c.toNat 2).ms
theorem mo_putQ (hM : M ≤ M') (q : MQ) : Mo M (fun s => putQ M q s) (fun s => putQ M' q s) := by
  have h3 := ms_q3 hM q
  have h : Mo M (fun s => ((putQ3 M q s).f, putQ3 M q s)) (fun s => ((putQ3 M' q s).f, putQ3 M' q s)) :=
    ⟨h3.st, h3.st', h3.gr', fun s hs => by have := h3.up s hs; (try simp only at this ⊢); rw [this], fun s hs hl => by have := h3.dn s hs hl; (try simp only at this ⊢); rw [this], h3.e3⟩
  exact h.guard fun s => refC s.f (checkQ q)
theorem over_ge (l : List UInt8) (k : Nat) (x : List UInt8) : l.length ≤ (over l k x).length := by
  simp only [over, List.length_append, List.length_take, List.length_drop]
  omega
theorem beginS_up (hM : M ≤ M') (s : PS) (h : (beginS M s).2.2.f = 0) : s.f = 0 ∧ beginS M' s = beginS M s := by
  have hn := mo_num hM 0 2
  by_cases hz : (numS M s 0 2).1 = 0
  · unfold beginS at h ⊢
    rw [if_pos hz] at h ⊢
    have h' : (numS M s 0 2).2.f = 0 := h
    have e : numS M' s 0 2 = numS M s 0 2 := hn.up s h'
    rw [e, if_pos hz]
    exact ⟨hn.st s h', rfl⟩
  · unfold beginS at h ⊢
    rw [if_neg hz] at h ⊢
    have h' : (numS M s 0 2).2.f = 0 := h
    have e : numS M' s 0 2 = numS M s 0 2 := hn.up s h'
    rw [e, if_neg hz]
    exact ⟨hn.st s h', rfl⟩
theorem beginS_dn (hM : M ≤ M') (s : PS) (h : (beginS M' s).2.2.f = 0) (hl : (beginS M' s).2.2.l.length ≤ M) : s.f = 0 ∧ beginS M s = beginS M' s := by
  have hn := mo_num hM 0 2
  by_cases hz : (numS M' s 0 2).1 = 0
  · unfold beginS at h hl ⊢
    rw [if_pos hz] at h hl ⊢
    have h' : (numS M' s 0 2).2.f = 0 := h
    have e : numS M s 0 2 = numS M' s 0 2 := hn.dn s h' hl
    rw [e, if_pos hz]
    exact ⟨hn.st' s h', rfl⟩
  · unfold beginS at h hl ⊢
    rw [if_neg hz] at h hl ⊢
    have h' : (numS M' s 0 2).2.f = 0 := h
    have e : numS M s 0 2 = numS M' s 0 2 := hn.dn s h' hl
    rw [e, if_neg hz]
    exact ⟨hn.st' s h', rfl⟩
theorem beginS_gr (K : Nat) (s : PS) : s.l.length ≤ (beginS K s).2.2.l.length := by
  unfold beginS
  split
  · exact (mo_num (Nat.le_refl K) 0 2).gr' s
  · exact (mo_num (Nat.le_refl K) 0 2).gr' s
theorem beginS_e3 (K : Nat) (s : PS) (h : F3 s.f) : F3 (beginS K s).2.2.f := by
  unfold beginS
  split
  · exact (mo_num (Nat.le_refl K) 0 2).e3 s h
  · exact (mo_num (Nat.le_refl K) 0 2).e3 s h
theorem endS_gr (s : PS) (a : Int) : s.l.length ≤ (endS s a).2.l.length := by
  unfold endS
  split
  · exact Nat.le_refl _
  · split
    · exact Nat.le_refl _
    · split
      · exact over_ge _ _ _
      · exact Nat.le_refl _
theorem ms_r5 (hM : M ≤ M') (r : MR) : Ms M (fun s => putR5 M r s) (fun s => putR5 M' r s) := by
  have h2 : Ms M (fun s => putR2 M r s) (fun s => putR2 M' r s) := (mo_putQ hM r.q).ms.then_ (mo_num hM r.x 4).ms
  have hD := (mo_putD hM r.t r.d).ms
  have hf5 : ∀ K s, (putR5 K r s).f = (putR4 K r s).f := fun K s => endS_f _ _
  refine ⟨fun s h => ?_, fun s h => ?_, fun s => ?_, fun s h => ?_, fun s h hl => ?_, fun s h => ?_⟩
  · simp only [hf5] at h
    exact h2.st s (beginS_up hM _ (hD.st _ h)).1
  · simp only [hf5] at h
    exact h2.st' s (beginS_up (Nat.le_refl M') _ (hD.st' _ h)).1
  · exact Nat.le_trans (h2.gr' s) (Nat.le_trans (beginS_gr M' _) (Nat.le_trans (hD.gr' _) (endS_gr _ _)))
  · simp only [hf5] at h
    have hb := hD.st _ h
    have e3 := (beginS_up hM _ hb).2
    have e2 := h2.up s (beginS_up hM _ hb).1
    have e3' : putR3 M' r s = putR3 M r s := by unfold putR3; (try simp only at e2); rw [e2]; exact e3
    have e4 : putR4 M' r s = putR4 M r s := by unfold putR4; rw [e3']; exact hD.up _ h
    simp only [putR5]
    rw [e4, e3']
  · simp only [hf5] at h
    have hl4 : (putR4 M' r s).l.length ≤ M := Nat.le_trans (endS_gr _ _) hl
    have hb := hD.st' _ h
    have hl3 : (putR3 M' r s).2.2.l.length ≤ M := Nat.le_trans (hD.gr' _) hl4
    obtain ⟨hf2, e3⟩ := beginS_dn hM (putR2 M' r s) hb hl3
    have e2 := h2.dn s hf2 (Nat.le_trans (beginS_gr M' _) hl3)
    have e3' : putR3 M r s = putR3 M' r s := by unfold putR3; (try simp only at e2); rw [e2]; exact e3
    have e4 : putR4 M r s = putR4 M' r s := by unfold putR4; rw [e3']; exact hD.dn _ h hl4
    simp only [putR5]
    rw [e4, e3']
  · simp only [hf5]
    exact hD.e3 _ (beginS_e3 M _ (h2.e3 s h))
theorem mo_putR (hM : M ≤ M') (r : MR) : Mo M (fun s => putR M r s) (fun s => putR M' r s) := by
  have h5 := ms_r5 hM r
  have h : Mo M (fun s => ((putR5 M r s).f, putR5 M r s)) (fun s => ((putR5 M' r s).f, putR5 M' r s)) :=
    ⟨h5.st, h5.st', h5.gr', fun s hs => by have := h5.up s hs; (try simp only at this ⊢); rw [this], fun s hs hl => by have := h5.dn s hs hl; (try simp only at this ⊢); rw [this], h5.e3⟩
  exact h.guard fun s => refC s.f (checkR r)
theorem ms_qs (hM : M ≤ M') : ∀ l : List MQ, Ms M (fun s => putQs M l s) (fun s => putQs M' l s)
  | [] => (mo_same (F := fun s => (0, s)) fun s => rfl).ms
  | q :: l => (mo_putQ hM q).ms.then_ (ms_qs hM l)
theorem mo_rs (hM : M ≤ M') : ∀ l : List RV, Mo M (fun s => putRs M l s) (fun s => putRs M' l s)
  | [] => mo_same fun s => rfl
  | x :: l => by
    have h1 := mo_putR hM x.1
    have h2 := mo_rs hM l
    refine ⟨fun s h => ?_, fun s h => ?_, fun s => ?_, fun s h => ?_, fun s h hl => ?_, fun s h => ?_⟩
    · by_cases hz : (putR M x.1 s).1 = 0
      · simp only [putRs, hz, if_true] at h
        exact h1.st s (h2.st _ h)
      · simp only [putRs, hz, if_false] at h
        exact h1.st s h
    · by_cases hz : (putR M' x.1 s).1 = 0
      · simp only [putRs, hz, if_true] at h
        exact h1.st' s (h2.st' _ h)
      · simp only [putRs, hz, if_false] at h
        exact h1.st' s h
    · by_cases hz : (putR M' x.1 s).1 = 0
      · simp only [putRs, hz, if_true]
        exact Nat.le_trans (h1.gr' s) (h2.gr' _)
      · simp only [putRs, hz, if_false]
        exact h1.gr' s
    · by_cases hz : (putR M x.1 s).1 = 0
      · simp only [putRs, hz, if_true] at h ⊢
        have e : putR M' x.1 s = putR M x.1 s := h1.up s (h2.st _ h)
        have e2 : putRs M' l (putR M x.1 s).2 = putRs M l (putR M x.1 s).2 := h2.up _ h
        rw [e, if_pos hz, e2]
      · simp only [putRs, hz, if_false] at h ⊢
        have e : putR M' x.1 s = putR M x.1 s := h1.up s h
        rw [e, if_neg hz]
    · by_cases hz : (putR M' x.1 s).1 = 0
      · simp only [putRs, hz, if_true] at h hl ⊢
        have e : putR M x.1 s = putR M' x.1 s := h1.dn s (h2.st' _ h) (Nat.le_trans (h2.gr' _) hl)
        have e2 : putRs M l (putR M' x.1 s).2 = putRs M' l (putR M' x.1 s).2 := h2.dn _ h hl
        rw [e, if_pos hz, e2]
      · simp only [putRs, hz, if_false] at h hl ⊢
        have e : putR M x.1 s = putR M' x.1 s := h1.dn s h hl
        rw [e, if_neg hz]
    · by_cases hz : (putR M x.1 s).1 = 0
      · simp only [putRs, hz, if_true]
        exact h2.e3 _ (h1.e3 s h)
      · simp only [putRs, hz, if_false]
        exact h1.e3 s h
/-- A message in more room, in less. -/
theorem mo_ms (hM : M ≤ M') (m : MM) : ((putMs M m).2.f = 0 → putMs M' m = putMs M m) ∧ ((putMs M' m).2.f = 0 → (putMs M' m).2.l.length ≤ M → putMs M m = putMs M' m) ∧ F3 (putMs M m).2.f := by
  have h := ((mo_put hM (ocH m.h)).ms.then_ (ms_qs hM m.q))
  have hr := mo_rs hM m.recs
  refine ⟨fun h0 => ?_, fun h0 hl => ?_, ?_⟩
  · have e := h.up ps0 (hr.st _ h0)
    unfold putMs putHd
    (try simp only at e)
    rw [e]
    exact hr.up _ h0
  · have e := h.dn ps0 (hr.st' _ h0) (Nat.le_trans (hr.gr' _) hl)
    unfold putMs putHd
    (try simp only at e)
    rw [e]
    exact hr.dn _ h0 hl
  · exact hr.e3 _ (h.e3 ps0 (.inl rfl))
end
end Go.Proofs.YtdpgcgaalamgkaaGreat
namespace Go.Proofs.YtdpgcgaalamgkaaGreat
open Go.RowKit
set_option linter.unusedVariables false
set_option maxRecDepth 10000

/-- A message's records are such as Go can have, and light. -/
structure LightM (m : MM) : Prop where
  n : m.q.length + m.recs.length ≤ 24
  r : ∀ x ∈ m.recs, Fit64 x.1.d ∧ x.1.x < 4294967296 ∧ octD x.1.d + sizeT x.1.d.L ≤ 2000
theorem light_size {r : MR} (hc : checkR r = 0) (hl : octD r.d + sizeT r.d.L ≤ 2000) : sizeR r ≤ 2305 ∧ sizeK (kindK r.t) r.d + 265 ≤ 2305 := by
  obtain ⟨hcq, hcd⟩ := checkR_zero hc
  have ht : isT r.t = true := (checkQ_zero hcq).2.1
  have hall : allK (kindK r.t) r.d = 0 := by
    unfold checkD at hcd
    rwa [if_pos ht] at hcd
  have hsm := (small_all hall).2
  have hsd := size_some ht hall
  have := sizeN_most (bs r.n)
  refine ⟨?_, by omega⟩
  unfold sizeR
  rw [if_neg (fun h => h hc)]
  omega
theorem qs_back : ∀ (l : List MQ) (s : PS), GoodR s → (∀ x ∈ l, checkQ x = 0) → s.l.length + 259 * l.length + 300 ≤ 65535 →
    GoodR (putQs 65535 l s) ∧ (∃ y, (putQs 65535 l s).l = s.l ++ y ∧ y.length ≤ sumL szQ l) ∧ ∃ E, Ch (RQs (putQs 65535 l s).l) l E s.l.length (putQs 65535 l s).l.length
  | [], s, hg, _, _ => ⟨hg, ⟨[], by simp [putQs], Nat.le_refl _⟩, [], rfl⟩
  | q :: l, s, hg, hc, hs => by
    rw [List.length_cons] at hs
    obtain ⟨ok, good, o, ⟨y, hy, hl⟩, back⟩ := quest_back hg (hc q List.mem_cons_self) (by omega)
    have hn := sizeN_most (bs q.n)
    have hlen := congrArg List.length hy
    rw [List.length_append] at hlen
    obtain ⟨g2, ⟨y2, hy2, hl2⟩, E, hE⟩ := qs_back l (putQ 65535 q s).2 good (fun x hx => hc x (List.mem_cons_of_mem _ hx)) (by omega)
    refine ⟨g2, ⟨y ++ y2, ?_, ?_⟩, _ :: E, ?_, hE⟩
    · show (putQs 65535 l (putQ 65535 q s).2).l = _
      rw [hy2, hy, List.append_assoc]
    · rw [List.length_append]
      show _ ≤ szQ q + sumL szQ l
      unfold szQ at hl2 ⊢
      omega
    · show RQs (putQs 65535 l (putQ 65535 q s).2).l _ _ _
      rw [hy2]
      exact RQs.app back
theorem rs_back : ∀ (l : List RV) (s : PS), GoodR s → (∀ x ∈ l, checkR x.1 = 0 ∧ Fit64 x.1.d ∧ x.1.x < 4294967296 ∧ octD x.1.d + sizeT x.1.d.L ≤ 2000) → s.l.length + 2305 * l.length + 2400 ≤ 65535 →
    (putRs 65535 l s).1 = l.length ∧ GoodR (putRs 65535 l s).2 ∧ (∃ y, (putRs 65535 l s).2.l = s.l ++ y ∧ y.length ≤ sumL szRV l) ∧ ∃ E, Ch (RRs (putRs 65535 l s).2.l) l E s.l.length (putRs 65535 l s).2.l.length
  | [], s, hg, _, _ => ⟨rfl, hg, ⟨[], by simp [putRs], Nat.le_refl _⟩, [], rfl⟩
  | x :: l, s, hg, hc, hs => by
    rw [List.length_cons] at hs
    obtain ⟨c1, c2, c3, c4⟩ := hc x List.mem_cons_self
    obtain ⟨hz1, hz2⟩ := light_size c1 c4
    obtain ⟨ok, good, o, ⟨y, hy, hl⟩, back⟩ := rec_back hg c1 c2 c3 (by omega) (.inl (by omega))
    have hlen := congrArg List.length hy
    rw [List.length_append] at hlen
    obtain ⟨g1, g2, ⟨y2, hy2, hl2⟩, E, hE⟩ := rs_back l (putR 65535 x.1 s).2 good (fun z hz => hc z (List.mem_cons_of_mem _ hz)) (by omega)
    have e : putRs 65535 (x :: l) s = ((putRs 65535 l (putR 65535 x.1 s).2).1 + 1, (putRs 65535 l (putR 65535 x.1 s).2).2) := by rw [putRs, if_pos ok]
    rw [e]
    refine ⟨by rw [List.length_cons]; show _ + 1 = _; rw [g1], g2, ⟨y ++ y2, ?_, ?_⟩, _ :: E, ?_, hE⟩
    · show (putRs 65535 l (putR 65535 x.1 s).2).2.l = _
      rw [hy2, hy, List.append_assoc]
    · rw [List.length_append]
      show _ ≤ szRV x + sumL szRV l
      have : szRV x = sizeR x.1 := rfl
      omega
    · show RRs (putRs 65535 l (putR 65535 x.1 s).2).2.l _ _ _
      rw [hy2]
      exact RRs.app (r := x) back
theorem Ch.split {α : Type} {R : Nat → Nat → α → Prop} : ∀ {X Y : List α} {E : List Nat} {a e : Nat}, Ch R (X ++ Y) E a e → ∃ E1 b E2, Ch R X E1 a b ∧ Ch R Y E2 b e
  | [], Y, E, a, e, h => ⟨[], a, E, rfl, h⟩
  | x :: X, Y, n :: E, a, e, h => by
    obtain ⟨E1, b, E2, h1, h2⟩ := Ch.split (X := X) h.2
    exact ⟨n :: E1, b, E2, ⟨h.1, h1⟩, h2⟩
  | x :: X, Y, [], a, e, h => by cases h
/-- What a message comes to that is put in room enough. -/
structure MsgB (m : MM) (s : PS) : Prop where
  f : s.f = 0
  le : s.l.length ≤ 12 + sumL szQ m.q + sumL szRV m.recs
  few : s.l.length ≤ 60000
  pre : ∃ y, s.l = ocH m.h ++ y
  ch : ∃ EQ e0 EA e1 EU e2 EM, Ch (RQs s.l) m.q EQ 12 e0 ∧ Ch (RRs s.l) m.a EA e0 e1 ∧ Ch (RRs s.l) m.u EU e1 e2 ∧ Ch (RRs s.l) m.m EM e2 s.l.length
theorem msg_back {m : MM} (ok : OkM m) (lt : LightM m) (hid : m.h.id < 65536) : (putMs 65535 m).1 = m.recs.length ∧ MsgB m (putMs 65535 m).2 := by
  have hh : putHd 65535 m.h = { ps0 with l := ocH m.h } := by
    unfold putHd
    rw [put_room (s := ps0) rfl (by show 0 + _ ≤ _; rw [ocH_length]; omega)]
    rfl
  have hg0 : GoodR (putHd 65535 m.h) := by
    rw [hh]
    have := goodR0.app (y := ocH m.h) (by show 0 + _ ≤ _; rw [ocH_length]; omega)
    exact this
  have hl0 : (putHd 65535 m.h).l = ocH m.h := by rw [hh]
  have hl12 : (putHd 65535 m.h).l.length = 12 := by rw [hl0, ocH_length]
  have hn := lt.n
  obtain ⟨g1, ⟨y1, hy1, z1⟩, E1, hE1⟩ := qs_back m.q _ hg0 ok.q (by omega)
  have hlen1 := congrArg List.length hy1
  rw [List.length_append, hl12] at hlen1
  have hq259 : sumL szQ m.q ≤ 259 * m.q.length := sumL_le szQ 259 m.q fun x _ => by have := sizeN_most (bs x.n); unfold szQ; omega
  obtain ⟨h1, g2, ⟨y2, hy2, z2⟩, E2, hE2⟩ := rs_back m.recs _ g1 (fun x hx => ⟨ok.r x hx, (lt.r x hx).1, (lt.r x hx).2.1, (lt.r x hx).2.2⟩) (by omega)
  have hlen2 := congrArg List.length hy2
  rw [List.length_append] at hlen2
  have hr2305 : sumL szRV m.recs ≤ 2305 * m.recs.length := sumL_le szRV 2305 m.recs fun x hx => (light_size (ok.r x hx) (lt.r x hx).2.2).1
  have e : putMs 65535 m = putRs 65535 m.recs (putQs 65535 m.q (putHd 65535 m.h)) := rfl
  rw [← e] at h1 g2 hy2 hE2 hlen2
  refine ⟨h1, g2.good.f, by omega, by omega, ⟨y1 ++ y2, by rw [hy2, hy1, hl0, List.append_assoc]⟩, ?_⟩
  rw [hl12] at hE1
  have hQ : Ch (RQs (putMs 65535 m).2.l) m.q E1 12 (putQs 65535 m.q (putHd 65535 m.h)).l.length := by
    rw [hy2]
    exact hE1.mono fun _ _ _ h => h.app
  unfold MM.recs at hE2
  obtain ⟨E3, b, EM, h12, hM⟩ := hE2.split
  obtain ⟨EA, a, EU, hA, hU⟩ := h12.split
  exact ⟨E1, _, EA, _, EU, _, EM, hQ, hA, hU, hM⟩
end Go.Proofs.YtdpgcgaalamgkaaGreat
