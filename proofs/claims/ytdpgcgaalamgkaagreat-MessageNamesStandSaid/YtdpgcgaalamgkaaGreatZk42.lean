/-
  Whole messages: plain mathematics: what is looked at, put, counted, read, compared. Conditions as each theorem names them. What is put in more room, or in less: it is the same as long as it fits; the one error is that of the room: plain mathematics. Conditions as each theorem names them. A message that is put is read back: plain mathematics. Conditions as each theorem names them.
-/
import Derived.Test.YtdpgcgaalamgkaaGreatZk37
import Derived.Test.YtdpgcgaalamgkaaGreatZk41
namespace Go.Proofs.YtdpgcgaalamgkaaGreat
open Go.RowKit
set_option linter.unusedVariables false
set_option maxRecDepth 10000

/-- A message: its header, its questions, its three rows of records. -/
structure MM where
  h : Hd
  q : List MQ
  a : List RV
  u : List RV
  m : List RV
def MM.recs (m : MM) : List RV := m.a ++ m.u ++ m.m
def cntB (m : MM) : Bool := decide (m.h.n0 = (m.q.length : Int) ∧ m.h.n1 = (m.a.length : Int) ∧ m.h.n2 = (m.u.length : Int) ∧ m.h.n3 = (m.m.length : Int))
section
variable {α β : Type}
/-- The first that is not 0. -/
def fst0 (f : α → Nat) : List α → Nat
  | [] => 0
  | x :: l => if f x = 0 then fst0 f l else f x
theorem fst0_zero {f : α → Nat} : ∀ {l : List α}, fst0 f l = 0 ↔ ∀ x ∈ l, f x = 0
  | [] => ⟨fun _ x h => (nomatch h), fun _ => rfl⟩
  | x :: l => by
    unfold fst0
    by_cases h : f x = 0
    · rw [if_pos h, fst0_zero (l := l)]
      exact ⟨fun k y hy => (List.mem_cons.1 hy).elim (fun e => e ▸ h) (k y), fun k y hy => k y (List.mem_cons_of_mem _ hy)⟩
    · rw [if_neg h]
      exact ⟨fun k => absurd k h, fun k => absurd (k x List.mem_cons_self) h⟩
theorem fst0_drop {f : α → Nat} {l : List α} {k : Nat} (hk : k < l.length) : fst0 f (l.drop k) = if f l[k] = 0 then fst0 f (l.drop (k + 1)) else f l[k] := by
  rw [List.drop_eq_getElem_cons hk]
  rfl
end
def ckR (x : RV) : Nat := checkR x.1
def checkM (m : MM) : Nat := if chkH m.h ≠ 0 then chkH m.h else if cntB m = false then 2 else if fst0 checkQ m.q ≠ 0 then fst0 checkQ m.q else fst0 (fst0 ckR) [m.a, m.u, m.m]
structure OkM (m : MM) : Prop where
  may : m.h.may
  n0 : m.h.n0 = (m.q.length : Int)
  n1 : m.h.n1 = (m.a.length : Int)
  n2 : m.h.n2 = (m.u.length : Int)
  n3 : m.h.n3 = (m.m.length : Int)
  q : ∀ x ∈ m.q, checkQ x = 0
  r : ∀ x ∈ m.recs, checkR x.1 = 0
theorem mem_recs {m : MM} {x : RV} : x ∈ m.recs ↔ x ∈ m.a ∨ x ∈ m.u ∨ x ∈ m.m := by
  unfold MM.recs
  rw [List.mem_append, List.mem_append, or_assoc]
theorem checkM_zero {m : MM} : checkM m = 0 ↔ OkM m := by
  unfold checkM
  by_cases h1 : chkH m.h = 0
  · rw [if_neg (fun h => h h1)]
    by_cases h2 : cntB m = false
    · rw [if_pos h2]
      refine ⟨fun h => (by cases h), fun h => ?_⟩
      have : cntB m = true := by unfold cntB; exact decide_eq_true ⟨h.n0, h.n1, h.n2, h.n3⟩
      rw [this] at h2
      cases h2
    · rw [if_neg h2]
      have h2' : cntB m = true := by cases hc : cntB m with | true => rfl | false => exact absurd hc h2
      unfold cntB at h2'
      obtain ⟨e0, e1, e2, e3⟩ := of_decide_eq_true h2'
      by_cases h3 : fst0 checkQ m.q = 0
      · rw [if_neg (fun h => h h3), fst0_zero]
        refine ⟨fun h => ⟨chkH_zero.1 h1, e0, e1, e2, e3, fst0_zero.1 h3, fun x hx => ?_⟩, fun h l hl => fst0_zero.2 fun x hx => ?_⟩
        · rcases mem_recs.1 hx with hx | hx | hx
          · exact fst0_zero.1 (h m.a (by simp)) x hx
          · exact fst0_zero.1 (h m.u (by simp)) x hx
          · exact fst0_zero.1 (h m.m (by simp)) x hx
        · refine h.r x (mem_recs.2 ?_)
          simp only [List.mem_cons, List.not_mem_nil, or_false] at hl
          rcases hl with rfl | rfl | rfl
          · exact .inl hx
          · exact .inr (.inl hx)
          · exact .inr (.inr hx)
      · rw [if_pos h3]
        exact ⟨fun h => absurd h h3, fun h => absurd (fst0_zero.2 h.q) h3⟩
  · rw [if_pos h1]
    exact ⟨fun h => absurd h h1, fun h => absurd (chkH_zero.2 h.may) h1⟩

/-! ### What is put -/
def putQs (M : Nat) : List MQ → PS → PS
  | [], s => s
  | x :: l, s => putQs M l (putQ M x s).2
def putRs (M : Nat) : List RV → PS → Nat × PS
  | [], s => (0, s)
  | x :: l, s => if (putR M x.1 s).1 = 0 then ((putRs M l (putR M x.1 s).2).1 + 1, (putRs M l (putR M x.1 s).2).2) else (0, (putR M x.1 s).2)
def putHd (M : Nat) (h : Hd) : PS := (putS M ps0 (ocH h)).2
def putMs (M : Nat) (m : MM) : Nat × PS := putRs M m.recs (putQs M m.q (putHd M m.h))
def putT (M : Nat) (m : MM) : List UInt8 := if (putMs M m).2.f = 0 then (putMs M m).2.l else []

/-! ### What is counted -/
def sumL {α : Type} (f : α → Nat) : List α → Nat
  | [] => 0
  | x :: l => f x + sumL f l
def szQ (q : MQ) : Nat := sizeN (bs q.n) + 4
def szRV (x : RV) : Nat := sizeR x.1
theorem sumL_le {α : Type} (f : α → Nat) (B : Nat) : ∀ l : List α, (∀ x ∈ l, f x ≤ B) → sumL f l ≤ B * l.length
  | [], _ => Nat.zero_le _
  | x :: l, h => by
    have h1 := h x List.mem_cons_self
    have h2 := sumL_le f B l fun y hy => h y (List.mem_cons_of_mem _ hy)
    rw [List.length_cons, Nat.mul_add, Nat.mul_one]
    show f x + sumL f l ≤ _
    omega
/-! ### The same -/
/-! ### What is read: the error, the place behind, the parts -/
section
variable {α : Type}
def rdRow (f : Nat → Nat × Nat × α) : Nat → Nat → Nat × Nat × List α
  | 0, k => (0, k, [])
  | n + 1, k => if (f k).1 = 0 then (if (rdRow f n (f k).2.1).1 = 0 then (0, (rdRow f n (f k).2.1).2.1, (f k).2.2 :: (rdRow f n (f k).2.1).2.2) else ((rdRow f n (f k).2.1).1, 0, [])) else ((f k).1, 0, [])
theorem rdRow_bad {f : Nat → Nat × Nat × α} {n k : Nat} (h : (f k).1 ≠ 0) : rdRow f (n + 1) k = ((f k).1, 0, []) := by
  rw [rdRow, if_neg h]
theorem rdRow_err {f : Nat → Nat × Nat × α} : ∀ {n k : Nat}, (rdRow f n k).1 ≠ 0 → rdRow f n k = ((rdRow f n k).1, 0, [])
  | 0, k, h => absurd rfl h
  | n + 1, k, h => by
    by_cases h1 : (f k).1 = 0
    · by_cases h2 : (rdRow f n (f k).2.1).1 = 0
      · rw [rdRow, if_pos h1, if_pos h2] at h
        exact absurd rfl h
      · rw [rdRow, if_pos h1, if_neg h2]
    · rw [rdRow, if_neg h1]
/-- Parts that were read, and those behind them. -/
def rdCons (X : List α) (p : Nat × Nat × List α) : Nat × Nat × List α := if p.1 = 0 then (0, p.2.1, X ++ p.2.2) else (p.1, 0, [])
theorem rdCons_nil (p : Nat × Nat × List α) (h : p.1 ≠ 0 → p = (p.1, 0, [])) : rdCons [] p = p := by
  unfold rdCons
  by_cases hp : p.1 = 0
  · rw [if_pos hp, List.nil_append, ← hp]
  · rw [if_neg hp]; exact (h hp).symm
theorem rdCons_step {f : Nat → Nat × Nat × α} {n k : Nat} (X : List α) (h : (f k).1 = 0) : rdCons X (rdRow f (n + 1) k) = rdCons (X ++ [(f k).2.2]) (rdRow f n (f k).2.1) := by
  rw [rdRow, if_pos h]
  unfold rdCons
  by_cases h2 : (rdRow f n (f k).2.1).1 = 0
  · rw [if_pos h2, if_pos rfl, if_pos h2]
    simp
  · rw [if_neg h2, if_neg h2, if_neg h2]
end
def fQ (T : List UInt8) (k : Nat) : Nat × Nat × MQ := ((rdQ T (k : Nat)).e, (rdQ T (k : Nat)).k, (rdQ T (k : Nat)).q)
def fR (T : List UInt8) (k : Nat) : Nat × Nat × MR := ((rdR T (k : Nat)).e, (rdR T (k : Nat)).k, (rdR T (k : Nat)).r)
end Go.Proofs.YtdpgcgaalamgkaaGreat
namespace Go.Proofs.YtdpgcgaalamgkaaGreat
open Go.RowKit
set_option linter.unusedVariables false
set_option maxRecDepth 10000

def F3 (f : Nat) : Prop := f = 0 ∨ f = 3
/-- F puts in the room M what F' puts in the room M'. -/
structure Mo (M : Nat) (F F' : PS → Nat × PS) : Prop where
  st : ∀ s, (F s).2.f = 0 → s.f = 0
  st' : ∀ s, (F' s).2.f = 0 → s.f = 0
  gr' : ∀ s, s.l.length ≤ (F' s).2.l.length
  up : ∀ s, (F s).2.f = 0 → F' s = F s
  dn : ∀ s, (F' s).2.f = 0 → (F' s).2.l.length ≤ M → F s = F' s
  e3 : ∀ s, F3 s.f → F3 (F s).2.f
section
variable {M M' : Nat}
theorem Mo.seq {F F' G G' : PS → Nat × PS} (hF : Mo M F F') (hG : Mo M G G') : Mo M (fun s => if (F s).1 = 0 then G (F s).2 else F s) (fun s => if (F' s).1 = 0 then G' (F' s).2 else F' s) := by
  refine ⟨fun s h => ?_, fun s h => ?_, fun s => ?_, fun s h => ?_, fun s h hl => ?_, fun s h => ?_⟩
  · by_cases hz : (F s).1 = 0
    · simp only [hz, if_true] at h
      exact hF.st s (hG.st _ h)
    · simp only [hz, if_false] at h
      exact hF.st s h
  · by_cases hz : (F' s).1 = 0
    · simp only [hz, if_true] at h
      exact hF.st' s (hG.st' _ h)
    · simp only [hz, if_false] at h
      exact hF.st' s h
  · by_cases hz : (F' s).1 = 0
    · simp only [hz, if_true]
      exact Nat.le_trans (hF.gr' s) (hG.gr' _)
    · simp only [hz, if_false]
      exact hF.gr' s
  · by_cases hz : (F s).1 = 0
    · simp only [hz, if_true] at h ⊢
      have e := hF.up s (hG.st _ h)
      rw [e]
      simp only [hz, if_true]
      exact hG.up _ h
    · simp only [hz, if_false] at h ⊢
      have e := hF.up s h
      rw [e]
      simp only [hz, if_false]
  · by_cases hz : (F' s).1 = 0
    · simp only [hz, if_true] at h hl ⊢
      have e := hF.dn s (hG.st' _ h) (Nat.le_trans (hG.gr' _) hl)
      rw [e]
      simp only [hz, if_true]
      exact hG.dn _ h hl
    · simp only [hz, if_false] at h hl ⊢
      have e := hF.dn s h hl
      rw [e]
      simp only [hz, if_false]
  · by_cases hz : (F s).1 = 0
    · simp only [hz, if_true]
      exact hG.e3 _ (hF.e3 s h)
    · simp only [hz, if_false]
      exact hF.e3 s h
/-- A guard ahead that does not hang on the room. -/
theorem Mo.guard {F F' : PS → Nat × PS} (hF : Mo M F F') (g : PS → Nat) : Mo M (fun s => if g s ≠ 0 then (g s, s) else F s) (fun s => if g s ≠ 0 then (g s, s) else F' s) := by
  refine ⟨fun s h => ?_, fun s h => ?_, fun s => ?_, fun s h => ?_, fun s h hl => ?_, fun s h => ?_⟩ <;> by_cases hg : g s = 0
  all_goals first
    | (simp only [hg, ne_eq, not_true_eq_false, not_false_eq_true, if_true, if_false] at h hl ⊢ <;> first | exact hF.dn s h hl | rfl)
    | (simp only [hg, ne_eq, not_true_eq_false, not_false_eq_true, if_true, if_false] at h ⊢ <;> first | exact hF.st s h | exact hF.st' s h | exact hF.up s h | exact hF.e3 s h | exact h | rfl)
    | (simp only [hg, ne_eq, not_true_eq_false, not_false_eq_true, if_true, if_false] <;> first | exact hF.gr' s | exact Nat.le_refl _)
/-! ### States alone -/
end
end Go.Proofs.YtdpgcgaalamgkaaGreat
namespace Go.Proofs.YtdpgcgaalamgkaaGreat
open Go.RowKit
set_option linter.unusedVariables false
set_option maxRecDepth 10000

/-- A message's records are such as Go can have, and light. -/
structure LightM (m : MM) : Prop where
  n : m.q.length + m.recs.length ≤ 24
  r : ∀ x ∈ m.recs, Fit64 x.1.d ∧ x.1.x < 4294967296 ∧ octD x.1.d + sizeT x.1.d.L ≤ 2000
theorem light_size {r : MR} (hc : checkR r = 0) (hl : octD r.d + sizeT r.d.L ≤ 2000) : sizeR r ≤ 2305 ∧ sizeK (kindK r.t) r.d + 265 ≤ 2305 := by
  obtain ⟨hcq, hcd⟩ := checkR_zero hc
  have ht : isT r.t = true := (checkQ_zero hcq).2.1
  have hall : allK (kindK r.t) r.d = 0 := by
    unfold checkD at hcd
    rwa [if_pos ht] at hcd
  have hsm := (small_all hall).2
  have hsd := size_some ht hall
  have := sizeN_most (bs r.n)
  refine ⟨?_, by omega⟩
  unfold sizeR
  rw [if_neg (fun h => h hc)]
  omega
theorem qs_back : ∀ (l : List MQ) (s : PS), GoodR s → (∀ x ∈ l, checkQ x = 0) → s.l.length + 259 * l.length + 300 ≤ 65535 →
    GoodR (putQs 65535 l s) ∧ (∃ y, (putQs 65535 l s).l = s.l ++ y ∧ y.length ≤ sumL szQ l) ∧ ∃ E, Ch (RQs (putQs 65535 l s).l) l E s.l.length (putQs 65535 l s).l.length
  | [], s, hg, _, _ => ⟨hg, ⟨[], by simp [putQs], Nat.le_refl _⟩, [], rfl⟩
  | q :: l, s, hg, hc, hs => by
    rw [List.length_cons] at hs
    obtain ⟨ok, good, o, ⟨y, hy, hl⟩, back⟩ := quest_back hg (hc q List.mem_cons_self) (by omega)
    have hn := sizeN_most (bs q.n)
    have hlen := congrArg List.length hy
    rw [List.length_append] at hlen
    obtain ⟨g2, ⟨y2, hy2, hl2⟩, E, hE⟩ := qs_back l (putQ 65535 q s).2 good (fun x hx => hc x (List.mem_cons_of_mem _ hx)) (by omega)
    refine ⟨g2, ⟨y ++ y2, ?_, ?_⟩, _ :: E, ?_, hE⟩
    · show (putQs 65535 l (putQ 65535 q s).2).l = _
      rw [hy2, hy, List.append_assoc]
    · rw [List.length_append]
      show _ ≤ szQ q + sumL szQ l
      unfold szQ at hl2 ⊢
      omega
    · show RQs (putQs 65535 l (putQ 65535 q s).2).l _ _ _
      rw [hy2]
      exact RQs.app back
theorem rs_back : ∀ (l : List RV) (s : PS), GoodR s → (∀ x ∈ l, checkR x.1 = 0 ∧ Fit64 x.1.d ∧ x.1.x < 4294967296 ∧ octD x.1.d + sizeT x.1.d.L ≤ 2000) → s.l.length + 2305 * l.length + 2400 ≤ 65535 →
    (putRs 65535 l s).1 = l.length ∧ GoodR (putRs 65535 l s).2 ∧ (∃ y, (putRs 65535 l s).2.l = s.l ++ y ∧ y.length ≤ sumL szRV l) ∧ ∃ E, Ch (RRs (putRs 65535 l s).2.l) l E s.l.length (putRs 65535 l s).2.l.length
  | [], s, hg, _, _ => ⟨rfl, hg, ⟨[], by simp [putRs], Nat.le_refl _⟩, [], rfl⟩
  | x :: l, s, hg, hc, hs => by
    rw [List.length_cons] at hs
    obtain ⟨c1, c2, c3, c4⟩ := hc x List.mem_cons_self
    obtain ⟨hz1, hz2⟩ := light_size c1 c4
    obtain ⟨ok, good, o, ⟨y, hy, hl⟩, back⟩ := rec_back hg c1 c2 c3 (by omega) (.inl (by omega))
    have hlen := congrArg List.length hy
    rw [List.length_append] at hlen
    obtain ⟨g1, g2, ⟨y2, hy2, hl2⟩, E, hE⟩ := rs_back l (putR 65535 x.1 s).2 good (fun z hz => hc z (List.mem_cons_of_mem _ hz)) (by omega)
    have e : putRs 65535 (x :: l) s = ((putRs 65535 l (putR 65535 x.1 s).2).1 + 1, (putRs 65535 l (putR 65535 x.1 s).2).2) := by rw [putRs, if_pos ok]
    rw [e]
    refine ⟨by rw [List.length_cons]; show _ + 1 = _; rw [g1], g2, ⟨y ++ y2, ?_, ?_⟩, _ :: E, ?_, hE⟩
    · show (putRs 65535 l (putR 65535 x.1 s).2).2.l = _
      rw [hy2, hy, List.append_assoc]
    · rw [List.length_append]
      show _ ≤ szRV x + sumL szRV l
      have : szRV x = sizeR x.1 := rfl
      omega
    · show RRs (putRs 65535 l (putR 65535 x.1 s).2).2.l _ _ _
      rw [hy2]
      exact RRs.app (r := x) back
theorem Ch.split {α : Type} {R : Nat → Nat → α → Prop} : ∀ {X Y : List α} {E : List Nat} {a e : Nat}, Ch R (X ++ Y) E a e → ∃ E1 b E2, Ch R X E1 a b ∧ Ch R Y E2 b e
  | [], Y, E, a, e, h => ⟨[], a, E, rfl, h⟩
  | x :: X, Y, n :: E, a, e, h => by
    obtain ⟨E1, b, E2, h1, h2⟩ := Ch.split (X := X) h.2
    exact ⟨n :: E1, b, E2, ⟨h.1, h1⟩, h2⟩
  | x :: X, Y, [], a, e, h => by cases h
/-- What a message comes to that is put in room enough. -/
structure MsgB (m : MM) (s : PS) : Prop where
  f : s.f = 0
  le : s.l.length ≤ 12 + sumL szQ m.q + sumL szRV m.recs
  few : s.l.length ≤ 60000
  pre : ∃ y, s.l = ocH m.h ++ y
  ch : ∃ EQ e0 EA e1 EU e2 EM, Ch (RQs s.l) m.q EQ 12 e0 ∧ Ch (RRs s.l) m.a EA e0 e1 ∧ Ch (RRs s.l) m.u EU e1 e2 ∧ Ch (RRs s.l) m.m EM e2 s.l.length
theorem msg_back {m : MM} (ok : OkM m) (lt : LightM m) (hid : m.h.id < 65536) : (putMs 65535 m).1 = m.recs.length ∧ MsgB m (putMs 65535 m).2 := by
  have hh : putHd 65535 m.h = { ps0 with l := ocH m.h } := by
    unfold putHd
    rw [put_room (s := ps0) rfl (by show 0 + _ ≤ _; rw [ocH_length]; omega)]
    rfl
  have hg0 : GoodR (putHd 65535 m.h) := by
    rw [hh]
    have := goodR0.app (y := ocH m.h) (by show 0 + _ ≤ _; rw [ocH_length]; omega)
    exact this
  have hl0 : (putHd 65535 m.h).l = ocH m.h := by rw [hh]
  have hl12 : (putHd 65535 m.h).l.length = 12 := by rw [hl0, ocH_length]
  have hn := lt.n
  obtain ⟨g1, ⟨y1, hy1, z1⟩, E1, hE1⟩ := qs_back m.q _ hg0 ok.q (by omega)
  have hlen1 := congrArg List.length hy1
  rw [List.length_append, hl12] at hlen1
  have hq259 : sumL szQ m.q ≤ 259 * m.q.length := sumL_le szQ 259 m.q fun x _ => by have := sizeN_most (bs x.n); unfold szQ; omega
  obtain ⟨h1, g2, ⟨y2, hy2, z2⟩, E2, hE2⟩ := rs_back m.recs _ g1 (fun x hx => ⟨ok.r x hx, (lt.r x hx).1, (lt.r x hx).2.1, (lt.r x hx).2.2⟩) (by omega)
  have hlen2 := congrArg List.length hy2
  rw [List.length_append] at hlen2
  have hr2305 : sumL szRV m.recs ≤ 2305 * m.recs.length := sumL_le szRV 2305 m.recs fun x hx => (light_size (ok.r x hx) (lt.r x hx).2.2).1
  have e : putMs 65535 m = putRs 65535 m.recs (putQs 65535 m.q (putHd 65535 m.h)) := rfl
  rw [← e] at h1 g2 hy2 hE2 hlen2
  refine ⟨h1, g2.good.f, by omega, by omega, ⟨y1 ++ y2, by rw [hy2, hy1, hl0, List.append_assoc]⟩, ?_⟩
  rw [hl12] at hE1
  have hQ : Ch (RQs (putMs 65535 m).2.l) m.q E1 12 (putQs 65535 m.q (putHd 65535 m.h)).l.length := by
    rw [hy2]
    exact hE1.mono fun _ _ _ h => h.app
  unfold MM.recs at hE2
  obtain ⟨E3, b, EM, h12, hM⟩ := hE2.split
  obtain ⟨EA, a, EU, hA, hU⟩ := h12.split
  exact ⟨E1, _, EA, _, EU, _, EM, hQ, hA, hU, hM⟩
end Go.Proofs.YtdpgcgaalamgkaaGreat
