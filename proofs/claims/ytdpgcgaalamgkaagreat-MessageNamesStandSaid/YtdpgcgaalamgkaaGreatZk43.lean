/-
  A message that is put is read back: plain mathematics. Conditions as each theorem names them.
-/
import Derived.Test.YtdpgcgaalamgkaaGreatZk39
namespace Go.Proofs.YtdpgcgaalamgkaaGreat
open Go.RowKit
set_option linter.unusedVariables false
set_option maxRecDepth 10000

/-- A message's records are such as Go can have, and light. -/
structure LightM (m : MM) : Prop where
  n : m.q.length + m.recs.length ≤ 24
  r : ∀ x ∈ m.recs, Fit64 x.1.d ∧ x.1.x < 4294967296 ∧ octD x.1.d + sizeT x.1.d.L ≤ 2000
theorem light_size {r : MR} (hc : checkR r = 0) (hl : octD r.d + sizeT r.d.L ≤ 2000) : sizeR r ≤ 2305 ∧ sizeK (kindK r.t) r.d + 265 ≤ 2305 := by
  obtain ⟨hcq, hcd⟩ := checkR_zero hc
  have ht : isT r.t = true := (checkQ_zero hcq).2.1
  have hall : allK (kindK r.t) r.d = 0 := by
    unfold checkD at hcd
    rwa [if_pos ht] at hcd
  have hsm := (small_all hall).2
  have hsd := size_some ht hall
  have := sizeN_most (bs r.n)
  refine ⟨?_, by omega⟩
  unfold sizeR
  rw [if_neg (fun h => h hc)]
  omega
theorem qs_back : ∀ (l : List MQ) (s : PS), GoodR s → (∀ x ∈ l, checkQ x = 0) → s.l.length + 259 * l.length + 300 ≤ 65535 →
    GoodR (putQs 65535 l s) ∧ (∃ y, (putQs 65535 l s).l = s.l ++ y ∧ y.length ≤ sumL szQ l) ∧ ∃ E, Ch (RQs (putQs 65535 l s).l) l E s.l.length (putQs 65535 l s).l.length
  | [], s, hg, _, _ => ⟨hg, ⟨[], by simp [putQs], Nat.le_refl _⟩, [], rfl⟩
  | q :: l, s, hg, hc, hs => by
    rw [List.length_cons] at hs
    obtain ⟨ok, good, o, ⟨y, hy, hl⟩, back⟩ := quest_back hg (hc q List.mem_cons_self) (by omega)
    have hn := sizeN_most (bs q.n)
    have hlen := congrArg List.length hy
    rw [List.length_append] at hlen
    obtain ⟨g2, ⟨y2, hy2, hl2⟩, E, hE⟩ := qs_back l (putQ 65535 q s).2 good (fun x hx => hc x (List.mem_cons_of_mem _ hx)) (by omega)
    refine ⟨g2, ⟨y ++ y2, ?_, ?_⟩, _ :: E, ?_, hE⟩
    · show (putQs 65535 l (putQ 65535 q s).2).l = _
      rw [hy2, hy, List.append_assoc]
    · rw [List.length_append]
      show _ ≤ szQ q + sumL szQ l
      unfold szQ at hl2 ⊢
      omega
    · show RQs (putQs 65535 l (putQ 65535 q s).2).l _ _ _
      rw [hy2]
      exact RQs.app back
theorem rs_back : ∀ (l : List RV) (s : PS), GoodR s → (∀ x ∈ l, checkR x.1 = 0 ∧ Fit64 x.1.d ∧ x.1.x < 4294967296 ∧ octD x.1.d + sizeT x.1.d.L ≤ 2000) → s.l.length + 2305 * l.length + 2400 ≤ 65535 →
    (putRs 65535 l s).1 = l.length ∧ GoodR (putRs 65535 l s).2 ∧ (∃ y, (putRs 65535 l s).2.l = s.l ++ y ∧ y.length ≤ sumL szRV l) ∧ ∃ E, Ch (RRs (putRs 65535 l s).2.l) l E s.l.length (putRs 65535 l s).2.l.length
  | [], s, hg, _, _ => ⟨rfl, hg, ⟨[], by simp [putRs], Nat.le_refl _⟩, [], rfl⟩
  | x :: l, s, hg, hc, hs => by
    rw [List.length_cons] at hs
    obtain ⟨c1, c2, c3, c4⟩ := hc x List.mem_cons_self
    obtain ⟨hz1, hz2⟩ := light_size c1 c4
    obtain ⟨ok, good, o, ⟨y, hy, hl⟩, back⟩ := rec_back hg c1 c2 c3 (by omega) (.inl (by omega))
    have hlen := congrArg List.length hy
    rw [List.length_append] at hlen
    obtain ⟨g1, g2, ⟨y2, hy2, hl2⟩, E, hE⟩ := rs_back l (putR 65535 x.1 s).2 good (fun z hz => hc z (List.mem_cons_of_mem _ hz)) (by omega)
    have e : putRs 65535 (x :: l) s = ((putRs 65535 l (putR 65535 x.1 s).2).1 + 1, (putRs 65535 l (putR 65535 x.1 s).2).2) := by rw [putRs, if_pos ok]
    rw [e]
    refine ⟨by rw [List.length_cons]; show _ + 1 = _; rw [g1], g2, ⟨y ++ y2, ?_, ?_⟩, _ :: E, ?_, hE⟩
    · show (putRs 65535 l (putR 65535 x.1 s).2).2.l = _
      rw [hy2, hy, List.append_assoc]
    · rw [List.length_append]
      show _ ≤ szRV x + sumL szRV l
      have : szRV x = sizeR x.1 := rfl
      omega
    · show RRs (putRs 65535 l (putR 65535 x.1 s).2).2.l _ _ _
      rw [hy2]
      exact RRs.app (r := x) back
theorem Ch.split {α : Type} {R : Nat → Nat → α → Prop} : ∀ {X Y : List α} {E : List Nat} {a e : Nat}, Ch R (X ++ Y) E a e → ∃ E1 b E2, Ch R X E1 a b ∧ Ch R Y E2 b e
  | [], Y, E, a, e, h => ⟨[], a, E, rfl, h⟩
  | x :: X, Y, n :: E, a, e, h => by
    obtain ⟨E1, b, E2, h1, h2⟩ := Ch.split (X := X) h.2
    exact ⟨n :: E1, b, E2, ⟨h.1, h1⟩, h2⟩
  | x :: X, Y, [], a, e, h => by cases h
/-- What a message comes to that is put in room enough. -/
structure MsgB (m : MM) (s : PS) : Prop where
  f : s.f = 0
  le : s.l.length ≤ 12 + sumL szQ m.q + sumL szRV m.recs
  few : s.l.length ≤ 60000
  pre : ∃ y, s.l = ocH m.h ++ y
  ch : ∃ EQ e0 EA e1 EU e2 EM, Ch (RQs s.l) m.q EQ 12 e0 ∧ Ch (RRs s.l) m.a EA e0 e1 ∧ Ch (RRs s.l) m.u EU e1 e2 ∧ Ch (RRs s.l) m.m EM e2 s.l.length
theorem msg_back {m : MM} (ok : OkM m) (lt : LightM m) (hid : m.h.id < 65536) : (putMs 65535 m).1 = m.recs.length ∧ MsgB m (putMs 65535 m).2 := by
  have hh : putHd 65535 m.h = { ps0 with l := ocH m.h } := by
    unfold putHd
    rw [put_room (s := ps0) rfl (by show 0 + _ ≤ _; rw [ocH_length]; omega)]
    rfl
  have hg0 : GoodR (putHd 65535 m.h) := by
    rw [hh]
    have := goodR0.app (y := ocH m.h) (by show 0 + _ ≤ _; rw [ocH_length]; omega)
    exact this
  have hl0 : (putHd 65535 m.h).l = ocH m.h := by rw [hh]
  have hl12 : (putHd 65535 m.h).l.length = 12 := by rw [hl0, ocH_length]
  have hn := lt.n
  obtain ⟨g1, ⟨y1, hy1, z1⟩, E1, hE1⟩ := qs_back m.q _ hg0 ok.q (by omega)
  have hlen1 := congrArg List.length hy1
  rw [List.length_append, hl12] at hlen1
  have hq259 : sumL szQ m.q ≤ 259 * m.q.length := sumL_le szQ 259 m.q fun x _ => by have := sizeN_most (bs x.n); unfold szQ; omega
  obtain ⟨h1, g2, ⟨y2, hy2, z2⟩, E2, hE2⟩ := rs_back m.recs _ g1 (fun x hx => ⟨ok.r x hx, (lt.r x hx).1, (lt.r x hx).2.1, (lt.r x hx).2.2⟩) (by omega)
  have hlen2 := congrArg List.length hy2
  rw [List.length_append] at hlen2
  have hr2305 : sumL szRV m.recs ≤ 2305 * m.recs.length := sumL_le szRV 2305 m.recs fun x hx => (light_size (ok.r x hx) (lt.r x hx).2.2).1
  have e : putMs 65535 m = putRs 65535 m.recs (putQs 65535 m.q (putHd 65535 m.h)) := rfl
  rw [← e] at h1 g2 hy2 hE2 hlen2
  refine ⟨h1, g2.good.f, by omega, by omega, ⟨y1 ++ y2, by rw [hy2, hy1, hl0, List.append_assoc]⟩, ?_⟩
  rw [hl12] at hE1
  have hQ : Ch (RQs (putMs 65535 m).2.l) m.q E1 12 (putQs 65535 m.q (putHd 65535 m.h)).l.length := by
    rw [hy2]
    exact hE1.mono fun _ _ _ h => h.app
  unfold MM.recs at hE2
  obtain ⟨E3, b, EM, h12, hM⟩ := hE2.split
  obtain ⟨EA, a, EU, hA, hU⟩ := h12.split
  exact ⟨E1, _, EA, _, EU, _, EM, hQ, hA, hU, hM⟩
end Go.Proofs.YtdpgcgaalamgkaaGreat
